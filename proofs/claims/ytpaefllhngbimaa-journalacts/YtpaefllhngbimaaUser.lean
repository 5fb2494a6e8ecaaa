/-
  The calls of package pmem, for a caller that has made one memory: each call by the state that it leaves.
-/
import Derived.Test.YtpaefllhngbimaaNew
namespace Go.Proofs.Ytpaefllhngbimaa
set_option maxRecDepth 10000
open Go.RowKit

/-- Since w0 nothing that was there has turned; at block b lies a memory in the state M, all its blocks new since w0. -/
def Has (w0 w : World) (b : Nat) (M : Pm) : Prop := Kept [] w0 w ∧ ∃ p, p.b = b ∧ MemIs w p M ∧ ∀ k ∈ p.blocks, w0.heap.size ≤ k

theorem Has.to {w0 w w' : World} {p p' : Pl} {M : Pm} (hK : Kept [] w0 w) (hf : ∀ k ∈ p.blocks, w0.heap.size ≤ k) (ht : To w p w' p') (hm : MemIs w' p' M) : Has w0 w' p.b M :=
  ⟨hK.trans ht.kept fun k hk => Or.inr (hf k hk), p', ht.b, hm, fun k hk => by
    rcases ht.fresh k hk with h1 | h1
    · exact hf k h1
    · exact Nat.le_trans hK.size h1⟩

theorem Has.still {w0 w w' : World} {b : Nat} {M : Pm} (h : Has w0 w b M) (hk : Kept [] w w') : Has w0 w' b M := by
  obtain ⟨hK, p, hb, hm, hf⟩ := h
  exact ⟨hK.trans hk (by simp), p, hb, hm.kept0 hk, hf⟩

theorem Has.ok {w0 w : World} {b : Nat} {M : Pm} (h : Has w0 w b M) : M.Ok := by obtain ⟨_, p, _, hm, _⟩ := h; exact hm.ok

theorem u_new (w : World) (a : Int) (h0 : 8 ≤ a) (h1 : a ≤ 65536) (h8 : a % 8 = 0) :
    Calls Try.prog 9 #[.int .i64 a] w fun e w' => ∃ b, e = .returned (.tuple #[.pointer (some ⟨b, 0, none⟩), .int .i64 0]) ∧ Has w w' b (fresh a.toNat) := by
  obtain ⟨n, rfl⟩ := Int.eq_ofNat_of_zero_le (show 0 ≤ a by omega)
  refine (new_yes w n (by omega) (by omega) (by omega)).mono ?_
  rintro e w1 ⟨p, rfl, hK, hf, hm⟩
  exact ⟨p.b, rfl, hK, p, rfl, hm, hf⟩

theorem u_new_no (w : World) (n : Int) (h : n < 8 ∨ 65536 < n ∨ n % 8 ≠ 0) : Calls Try.prog 9 #[.int .i64 n] w fun e w' => e = .returned (.tuple #[.pointer none, .int .i64 100]) ∧ w = w' :=
  (new_no w n h).mono fun _ _ h => ⟨h.1, h.2.symm⟩

theorem u_num (k : Int) (w : World) : Calls Try.prog 10 #[.int .i64 k] w fun e w' => e = .returned (.int .i64 k) ∧ w = w' :=
  (num_any k w).mono fun _ _ h => ⟨h.1, h.2.symm⟩

theorem u_store {w0 w : World} {b : Nat} {M : Pm} (h : Has w0 w b M) (a v : Int) (h0 : 0 ≤ a) (h1 : a < M.seen.length) (hs0 : -1000000000 < M.steps) (hs : M.steps < 1000000000) (ht0 : -1000000000 < M.stores) (ht : M.stores < 1000000000) :
    Calls Try.prog 11 #[.pointer (some ⟨b, 0, none⟩), .int .i64 a, .int .u64 v] w fun e w' => e = .returned (.int .i64 0) ∧ Has w0 w' b (M.store a.toNat v) := by
  obtain ⟨hK, p, rfl, hm, hf⟩ := h
  obtain ⟨k, rfl⟩ := Int.eq_ofNat_of_zero_le h0
  refine (store_yes hm k v (by omega) hs0 hs ht0 ht).mono ?_
  rintro e w1 ⟨rfl, p1, hto, hm1⟩
  exact ⟨rfl, Has.to hK hf hto hm1⟩

theorem u_store_no {w0 w : World} {b : Nat} {M : Pm} (h : Has w0 w b M) (a v : Int) (ha : a < 0 ∨ (M.seen.length : Int) ≤ a) :
    Calls Try.prog 11 #[.pointer (some ⟨b, 0, none⟩), .int .i64 a, .int .u64 v] w fun e w' => e = .returned (.int .i64 101) ∧ Has w0 w' b M := by
  have h2 := h
  obtain ⟨hK, p, rfl, hm, hf⟩ := h
  refine (store_no hm a v ha).mono ?_
  rintro e w1 ⟨rfl, hK1⟩
  exact ⟨rfl, h2.still hK1⟩

theorem u_flush {w0 w : World} {b : Nat} {M : Pm} (h : Has w0 w b M) (a : Int) (h0 : 0 ≤ a) (h1 : 8 * a + 8 ≤ M.seen.length) (hs0 : -1000000000 < M.steps) (hs : M.steps < 1000000000) :
    Calls Try.prog 12 #[.pointer (some ⟨b, 0, none⟩), .int .i64 a] w fun e w' => e = .returned (.int .i64 0) ∧ Has w0 w' b (M.flush a.toNat) := by
  obtain ⟨hK, p, rfl, hm, hf⟩ := h
  obtain ⟨k, rfl⟩ := Int.eq_ofNat_of_zero_le h0
  refine (flush_yes hm k (by omega) hs0 hs).mono ?_
  rintro e w1 ⟨rfl, p1, hto, hm1⟩
  exact ⟨rfl, Has.to hK hf hto hm1⟩

theorem u_flush_no {w0 w : World} {b : Nat} {M : Pm} (h : Has w0 w b M) (a : Int) (ha : a < 0 ∨ (M.seen.length : Int) < 8 * a + 8) :
    Calls Try.prog 12 #[.pointer (some ⟨b, 0, none⟩), .int .i64 a] w fun e w' => e = .returned (.int .i64 101) ∧ Has w0 w' b M := by
  have h2 := h
  obtain ⟨hK, p, rfl, hm, hf⟩ := h
  refine (flush_no hm a ha).mono ?_
  rintro e w1 ⟨rfl, hK1⟩
  exact ⟨rfl, h2.still hK1⟩

theorem u_fence {w0 w : World} {b : Nat} {M : Pm} (h : Has w0 w b M) (hs0 : -1000000000 < M.steps) (hs : M.steps < 1000000000) :
    Calls Try.prog 13 #[.pointer (some ⟨b, 0, none⟩)] w fun e w' => e = .returned (.int .i64 0) ∧ Has w0 w' b M.fence := by
  obtain ⟨hK, p, rfl, hm, hf⟩ := h
  refine (fence_any hm hs0 hs).mono ?_
  rintro e w1 ⟨rfl, p1, hto, hm1⟩
  exact ⟨rfl, Has.to hK hf hto hm1⟩

theorem u_fuse {w0 w : World} {b : Nat} {M : Pm} (h : Has w0 w b M) (k : Int) (hk0 : 0 ≤ k) (hk : k ≤ 9223372036854775807) :
    Calls Try.prog 24 #[.pointer (some ⟨b, 0, none⟩), .int .i64 k] w fun e w' => e = .returned (.int .i64 0) ∧ Has w0 w' b (M.setFuse k) := by
  obtain ⟨hK, p, rfl, hm, hf⟩ := h
  refine (fuse_yes hm k hk0 hk).mono ?_
  rintro e w1 ⟨rfl, p1, hto, hm1⟩
  exact ⟨rfl, Has.to hK hf hto hm1⟩

theorem u_fuse_no {w0 w : World} {b : Nat} {M : Pm} (h : Has w0 w b M) (k : Int) (hk0 : k < 0) :
    Calls Try.prog 24 #[.pointer (some ⟨b, 0, none⟩), .int .i64 k] w fun e w' => e = .returned (.int .i64 102) ∧ Has w0 w' b M := by
  have h2 := h
  obtain ⟨hK, p, rfl, hm, hf⟩ := h
  refine (fuse_no (p := p) k hk0).mono ?_
  rintro e w1 ⟨rfl, rfl⟩
  exact ⟨rfl, h2⟩

theorem u_crash {w0 w : World} {b : Nat} {M : Pm} (h : Has w0 w b M) (keep : Int) (hk : keep ≤ 9223372036854775807) :
    Calls Try.prog 21 #[.pointer (some ⟨b, 0, none⟩), .int .i64 keep] w fun e w' => e = .returned (.int .i64 0) ∧ Has w0 w' b (M.crash keep) := by
  obtain ⟨hK, p, rfl, hm, hf⟩ := h
  refine (crash_any hm keep hk).mono ?_
  rintro e w1 ⟨rfl, p1, hto, hm1⟩
  exact ⟨rfl, Has.to hK hf hto hm1⟩

theorem u_load {w0 w : World} {b : Nat} {M : Pm} (h : Has w0 w b M) (a : Int) (h0 : 0 ≤ a) (h1 : a < M.seen.length) :
    Calls Try.prog 38 #[.pointer (some ⟨b, 0, none⟩), .int .i64 a] w fun e w' => e = .returned (.tuple #[.int .u64 (wordAt M.seen a.toNat), .int .i64 0]) ∧ w = w' := by
  obtain ⟨hK, p, rfl, hm, hf⟩ := h
  exact (load_yes hm a h0 h1).mono fun _ _ h => ⟨h.1, h.2.symm⟩

theorem u_load_no {w0 w : World} {b : Nat} {M : Pm} (h : Has w0 w b M) (a : Int) (ha : a < 0 ∨ (M.seen.length : Int) ≤ a) :
    Calls Try.prog 38 #[.pointer (some ⟨b, 0, none⟩), .int .i64 a] w fun e w' => e = .returned (.tuple #[.int .u64 0, .int .i64 101]) ∧ w = w' := by
  obtain ⟨hK, p, rfl, hm, hf⟩ := h
  exact (load_no hm a ha).mono fun _ _ h => ⟨h.1, h.2.symm⟩

theorem u_words {w0 w : World} {b : Nat} {M : Pm} (h : Has w0 w b M) : Calls Try.prog 49 #[.pointer (some ⟨b, 0, none⟩)] w fun e w' => e = .returned (.int .i64 (M.seen.length : Int)) ∧ w = w' := by
  obtain ⟨hK, p, rfl, hm, hf⟩ := h
  exact (words_any hm).mono fun _ _ h => ⟨h.1, h.2.symm⟩

theorem u_stores {w0 w : World} {b : Nat} {M : Pm} (h : Has w0 w b M) : Calls Try.prog 18 #[.pointer (some ⟨b, 0, none⟩)] w fun e w' => e = .returned (.int .i64 M.stores) ∧ w = w' := by
  obtain ⟨hK, p, rfl, hm, hf⟩ := h
  exact (stores_any hm).mono fun _ _ h => ⟨h.1, h.2.symm⟩

end Go.Proofs.Ytpaefllhngbimaa
