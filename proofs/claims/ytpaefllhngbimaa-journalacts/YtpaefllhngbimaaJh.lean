/-
  The calls of package pmem, for a caller that has other blocks beside one memory.
-/
import Derived.Test.YtpaefllhngbimaaJc
import Derived.Test.YtpaefllhngbimaaCopy
namespace Go.Proofs.Ytpaefllhngbimaa
set_option maxRecDepth 10000
open Go.RowKit

/-- As Has; and the blocks of S lie beside the memory as they are told. -/
def Hj (S : List (Nat × Obj)) (w0 w : World) (b : Nat) (M : Pm) : Prop := Kept [] w0 w ∧ ∃ p, p.b = b ∧ MemIs w p M ∧ (∀ k ∈ p.blocks, w0.heap.size ≤ k) ∧ ∀ x ∈ S, w.heap[x.1]? = some x.2 ∧ x.1 ∉ p.blocks

theorem Hj.to {S : List (Nat × Obj)} {w0 w w' : World} {p p' : Pl} {M : Pm} (hK : Kept [] w0 w) (hf : ∀ k ∈ p.blocks, w0.heap.size ≤ k) (hS : ∀ x ∈ S, w.heap[x.1]? = some x.2 ∧ x.1 ∉ p.blocks) (ht : To w p w' p') (hm : MemIs w' p' M) : Hj S w0 w' p.b M :=
  ⟨hK.trans ht.kept fun k hk => Or.inr (hf k hk), p', ht.b, hm, fun k hk => by
    rcases ht.fresh k hk with h1 | h1
    · exact hf k h1
    · exact Nat.le_trans hK.size h1, fun x hx => by
    obtain ⟨h1, h2⟩ := hS x hx
    have hlt := lt_of_heap h1
    refine ⟨by rw [ht.kept.block x.1 hlt h2]; exact h1, fun hm => ?_⟩
    rcases ht.fresh x.1 hm with h3 | h3
    · exact h2 h3
    · omega⟩

theorem Hj.still {S : List (Nat × Obj)} {w0 w w' : World} {b : Nat} {M : Pm} (h : Hj S w0 w b M) (hk : Kept [] w w') : Hj S w0 w' b M := by
  obtain ⟨hK, p, hb, hm, hf, hS⟩ := h
  exact ⟨hK.trans hk (by simp), p, hb, hm.kept0 hk, hf, fun x hx => ⟨by rw [hk.block x.1 (lt_of_heap (hS x hx).1) (by simp)]; exact (hS x hx).1, (hS x hx).2⟩⟩

theorem Hj.ok {S : List (Nat × Obj)} {w0 w : World} {b : Nat} {M : Pm} (h : Hj S w0 w b M) : M.Ok := by obtain ⟨_, p, _, hm, _⟩ := h; exact hm.ok

theorem Hj.has {S : List (Nat × Obj)} {w0 w : World} {b : Nat} {M : Pm} (h : Hj S w0 w b M) : Has w0 w b M := by
  obtain ⟨hK, p, hb, hm, hf, hS⟩ := h
  exact ⟨hK, p, hb, hm, hf⟩

theorem Has.hj {w0 w : World} {b : Nat} {M : Pm} (h : Has w0 w b M) : Hj [] w0 w b M := by
  obtain ⟨hK, p, hb, hm, hf⟩ := h
  exact ⟨hK, p, hb, hm, hf, by simp⟩

theorem Hj.sub {S S' : List (Nat × Obj)} {w0 w : World} {b : Nat} {M : Pm} (h : Hj S w0 w b M) (hs : ∀ x ∈ S', x ∈ S) : Hj S' w0 w b M := by
  obtain ⟨hK, p, hb, hm, hf, hS⟩ := h
  exact ⟨hK, p, hb, hm, hf, fun x hx => hS x (hs x hx)⟩

theorem Hj.at {S : List (Nat × Obj)} {w0 w : World} {b : Nat} {M : Pm} (h : Hj S w0 w b M) {x : Nat × Obj} (hx : x ∈ S) : w.heap[x.1]? = some x.2 := by
  obtain ⟨hK, p, hb, hm, hf, hS⟩ := h
  exact (hS x hx).1

/-- A block that is made beside it. -/
theorem Hj.make {S : List (Nat × Obj)} {w0 w : World} {b : Nat} {M : Pm} (h : Hj S w0 w b M) (o : Obj) : Hj ((w.heap.size, o) :: S) w0 (w.alloc o) b M := by
  have h2 := h.still ((Kept.refl [] w).alloc o)
  obtain ⟨hK, p, hb, hm, hf, hS⟩ := h
  obtain ⟨hK2, p2, hb2, hm2, hf2, hS2⟩ := h2
  refine ⟨hK2, p, hb, hm.kept0 ((Kept.refl [] w).alloc o), hf, fun x hx => ?_⟩
  rcases List.mem_cons.1 hx with rfl | hx
  · exact ⟨Go.heap_alloc_new _ _, fun hm2 => by have := hm.blocks_lt _ hm2; omega⟩
  · exact ⟨by rw [((Kept.refl [] w).alloc o).block x.1 (lt_of_heap (hS x hx).1) (by simp)]; exact (hS x hx).1, (hS x hx).2⟩

theorem h_store {S : List (Nat × Obj)} {w0 w : World} {b : Nat} {M : Pm} (h : Hj S w0 w b M) (a v : Int) (h0 : 0 ≤ a) (h1 : a < M.seen.length) (hs0 : -1000000000 < M.steps) (hs : M.steps < 1000000000) (ht0 : -1000000000 < M.stores) (ht : M.stores < 1000000000) :
    Calls Try.prog 11 #[.pointer (some ⟨b, 0, none⟩), .int .i64 a, .int .u64 v] w fun e w' => e = .returned (.int .i64 0) ∧ Hj S w0 w' b (M.store a.toNat v) := by
  obtain ⟨hK, p, rfl, hm, hf, hS⟩ := h
  obtain ⟨k, rfl⟩ := Int.eq_ofNat_of_zero_le h0
  refine (store_yes hm k v (by omega) hs0 hs ht0 ht).mono ?_
  rintro e w1 ⟨rfl, p1, hto, hm1⟩
  exact ⟨rfl, Hj.to hK hf hS hto hm1⟩

theorem h_store_no {S : List (Nat × Obj)} {w0 w : World} {b : Nat} {M : Pm} (h : Hj S w0 w b M) (a v : Int) (ha : a < 0 ∨ (M.seen.length : Int) ≤ a) :
    Calls Try.prog 11 #[.pointer (some ⟨b, 0, none⟩), .int .i64 a, .int .u64 v] w fun e w' => e = .returned (.int .i64 101) ∧ Hj S w0 w' b M := by
  have h2 := h
  obtain ⟨hK, p, rfl, hm, hf, hS⟩ := h
  refine (store_no hm a v ha).mono ?_
  rintro e w1 ⟨rfl, hK1⟩
  exact ⟨rfl, h2.still hK1⟩

theorem h_flush {S : List (Nat × Obj)} {w0 w : World} {b : Nat} {M : Pm} (h : Hj S w0 w b M) (a : Int) (h0 : 0 ≤ a) (h1 : 8 * a + 8 ≤ M.seen.length) (hs0 : -1000000000 < M.steps) (hs : M.steps < 1000000000) :
    Calls Try.prog 12 #[.pointer (some ⟨b, 0, none⟩), .int .i64 a] w fun e w' => e = .returned (.int .i64 0) ∧ Hj S w0 w' b (M.flush a.toNat) := by
  obtain ⟨hK, p, rfl, hm, hf, hS⟩ := h
  obtain ⟨k, rfl⟩ := Int.eq_ofNat_of_zero_le h0
  refine (flush_yes hm k (by omega) hs0 hs).mono ?_
  rintro e w1 ⟨rfl, p1, hto, hm1⟩
  exact ⟨rfl, Hj.to hK hf hS hto hm1⟩

theorem h_flush_no {S : List (Nat × Obj)} {w0 w : World} {b : Nat} {M : Pm} (h : Hj S w0 w b M) (a : Int) (ha : a < 0 ∨ (M.seen.length : Int) < 8 * a + 8) :
    Calls Try.prog 12 #[.pointer (some ⟨b, 0, none⟩), .int .i64 a] w fun e w' => e = .returned (.int .i64 101) ∧ Hj S w0 w' b M := by
  have h2 := h
  obtain ⟨hK, p, rfl, hm, hf, hS⟩ := h
  refine (flush_no hm a ha).mono ?_
  rintro e w1 ⟨rfl, hK1⟩
  exact ⟨rfl, h2.still hK1⟩

theorem h_fence {S : List (Nat × Obj)} {w0 w : World} {b : Nat} {M : Pm} (h : Hj S w0 w b M) (hs0 : -1000000000 < M.steps) (hs : M.steps < 1000000000) :
    Calls Try.prog 13 #[.pointer (some ⟨b, 0, none⟩)] w fun e w' => e = .returned (.int .i64 0) ∧ Hj S w0 w' b M.fence := by
  obtain ⟨hK, p, rfl, hm, hf, hS⟩ := h
  refine (fence_any hm hs0 hs).mono ?_
  rintro e w1 ⟨rfl, p1, hto, hm1⟩
  exact ⟨rfl, Hj.to hK hf hS hto hm1⟩

theorem h_fuse {S : List (Nat × Obj)} {w0 w : World} {b : Nat} {M : Pm} (h : Hj S w0 w b M) (k : Int) (hk0 : 0 ≤ k) (hk : k ≤ 9223372036854775807) :
    Calls Try.prog 24 #[.pointer (some ⟨b, 0, none⟩), .int .i64 k] w fun e w' => e = .returned (.int .i64 0) ∧ Hj S w0 w' b (M.setFuse k) := by
  obtain ⟨hK, p, rfl, hm, hf, hS⟩ := h
  refine (fuse_yes hm k hk0 hk).mono ?_
  rintro e w1 ⟨rfl, p1, hto, hm1⟩
  exact ⟨rfl, Hj.to hK hf hS hto hm1⟩

theorem h_fuse_no {S : List (Nat × Obj)} {w0 w : World} {b : Nat} {M : Pm} (h : Hj S w0 w b M) (k : Int) (hk0 : k < 0) :
    Calls Try.prog 24 #[.pointer (some ⟨b, 0, none⟩), .int .i64 k] w fun e w' => e = .returned (.int .i64 102) ∧ Hj S w0 w' b M := by
  have h2 := h
  obtain ⟨hK, p, rfl, hm, hf, hS⟩ := h
  refine (fuse_no (p := p) k hk0).mono ?_
  rintro e w1 ⟨rfl, rfl⟩
  exact ⟨rfl, h2⟩

theorem h_crash {S : List (Nat × Obj)} {w0 w : World} {b : Nat} {M : Pm} (h : Hj S w0 w b M) (keep : Int) (hk : keep ≤ 9223372036854775807) :
    Calls Try.prog 21 #[.pointer (some ⟨b, 0, none⟩), .int .i64 keep] w fun e w' => e = .returned (.int .i64 0) ∧ Hj S w0 w' b (M.crash keep) := by
  obtain ⟨hK, p, rfl, hm, hf, hS⟩ := h
  refine (crash_any hm keep hk).mono ?_
  rintro e w1 ⟨rfl, p1, hto, hm1⟩
  exact ⟨rfl, Hj.to hK hf hS hto hm1⟩

theorem h_load {S : List (Nat × Obj)} {w0 w : World} {b : Nat} {M : Pm} (h : Hj S w0 w b M) (a : Int) (h0 : 0 ≤ a) (h1 : a < M.seen.length) :
    Calls Try.prog 38 #[.pointer (some ⟨b, 0, none⟩), .int .i64 a] w fun e w' => e = .returned (.tuple #[.int .u64 (wordAt M.seen a.toNat), .int .i64 0]) ∧ w = w' := by
  obtain ⟨hK, p, rfl, hm, hf, hS⟩ := h
  exact (load_yes hm a h0 h1).mono fun _ _ h => ⟨h.1, h.2.symm⟩

theorem h_load_no {S : List (Nat × Obj)} {w0 w : World} {b : Nat} {M : Pm} (h : Hj S w0 w b M) (a : Int) (ha : a < 0 ∨ (M.seen.length : Int) ≤ a) :
    Calls Try.prog 38 #[.pointer (some ⟨b, 0, none⟩), .int .i64 a] w fun e w' => e = .returned (.tuple #[.int .u64 0, .int .i64 101]) ∧ w = w' := by
  obtain ⟨hK, p, rfl, hm, hf, hS⟩ := h
  exact (load_no hm a ha).mono fun _ _ h => ⟨h.1, h.2.symm⟩

theorem h_words {S : List (Nat × Obj)} {w0 w : World} {b : Nat} {M : Pm} (h : Hj S w0 w b M) : Calls Try.prog 49 #[.pointer (some ⟨b, 0, none⟩)] w fun e w' => e = .returned (.int .i64 (M.seen.length : Int)) ∧ w = w' := by
  obtain ⟨hK, p, rfl, hm, hf, hS⟩ := h
  exact (words_any hm).mono fun _ _ h => ⟨h.1, h.2.symm⟩

theorem h_stores {S : List (Nat × Obj)} {w0 w : World} {b : Nat} {M : Pm} (h : Hj S w0 w b M) : Calls Try.prog 18 #[.pointer (some ⟨b, 0, none⟩)] w fun e w' => e = .returned (.int .i64 M.stores) ∧ w = w' := by
  obtain ⟨hK, p, rfl, hm, hf, hS⟩ := h
  exact (stores_any hm).mono fun _ _ h => ⟨h.1, h.2.symm⟩


/-- A copy: another memory, and the one as it was. -/
theorem h_copy {S : List (Nat × Obj)} {w0 w : World} {b : Nat} {M : Pm} (h : Hj S w0 w b M) :
    Calls Try.prog 23 #[.pointer (some ⟨b, 0, none⟩)] w fun e w' => ∃ c, e = .returned (.pointer (some ⟨c, 0, none⟩)) ∧ Hj S w0 w' b M ∧ Has w w' c M ∧ Kept [] w w' := by
  have h2 := h
  obtain ⟨hK, p, rfl, hm, hf, hS⟩ := h
  refine (copy_any hm).mono ?_
  rintro e w1 ⟨q, rfl, hk, hq, hm1⟩
  exact ⟨q.b, rfl, h2.still hk, ⟨hk, q, rfl, hm1, hq⟩, hk⟩

end Go.Proofs.Ytpaefllhngbimaa
