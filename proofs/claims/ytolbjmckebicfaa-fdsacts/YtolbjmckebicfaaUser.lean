/-
  One arena, made since w0: a contract a call.
-/
import Derived.Test.YtolbjmckebicfaaTrace
namespace Go.Proofs.Ytolbjmckebicfaa
open Go.RowKit

def Has (w0 w : World) (b : Nat) (A : Ar) : Prop := Kept [] w0 w ∧ ∃ p, p.b = b ∧ (∀ k ∈ p.blocks, w0.heap.size ≤ k) ∧ ArIs 52 w p A

theorem Has.still {w0 w w' : World} {b : Nat} {A : Ar} (h : Has w0 w b A) (hk : Kept [] w w') : Has w0 w' b A := by
  obtain ⟨hK, p, hb, hf, hm⟩ := h
  exact ⟨hK.trans hk (by simp), p, hb, hf, hm.kept0 hk⟩

theorem Has.to {w0 w w' : World} {p p' : Ap} {A : Ar} (hK : Kept [] w0 w) (hf : ∀ k ∈ p.blocks, w0.heap.size ≤ k) (ht : ATo [] w p w' p') (ha : ArIs 52 w' p' A) : Has w0 w' p.b A := by
  refine ⟨hK.trans ht.kept (fun x hx => Or.inr (hf x (by simpa using hx))), p', ht.b, fun k hk => ?_, ha⟩
  rcases ht.new k hk with h1 | h1
  · exact hf k h1
  · exact Nat.le_trans hK.size h1

theorem u_new (w : World) (n c : Int) (h0 : 1 ≤ n) (h1 : n ≤ 65536) (c0 : 1 ≤ c) (c1 : c ≤ 8) :
    Calls Try.prog 6 #[.int .i64 n, .int .i64 c] w fun e w' => ∃ b, e = .returned (.tuple #[.pointer (some ⟨b, 0, none⟩), .int .i64 0]) ∧ Has w w' b (fresh n.toNat c.toNat) := by
  obtain ⟨i, rfl⟩ := Int.eq_ofNat_of_zero_le (show 0 ≤ n by omega)
  obtain ⟨j, rfl⟩ := Int.eq_ofNat_of_zero_le (show 0 ≤ c by omega)
  refine (new_yes w i j (by omega) (by omega) (by omega) (by omega)).mono ?_
  rintro e w' ⟨p, rfl, hK, hf, hm⟩
  exact ⟨p.b, rfl, hK, p, rfl, hf, hm⟩

theorem u_load {w0 w : World} {b : Nat} {A : Ar} (h : Has w0 w b A) (c k : Int) (c0 : 0 ≤ c) (c1 : c < (A.traces.length : Int)) (k0 : 0 ≤ k) (k1 : k < (A.words.length : Int)) (hn : (A.traces.getD c.toNat []).length < 1000000) :
    Calls Try.prog 30 #[.pointer (some ⟨b, 0, none⟩), .int .i64 c, .int .i64 k] w fun e w' => e = .returned (.tuple #[.int .i64 (wordAt A.words k.toNat), .int .i64 0]) ∧ Has w0 w' b (A.touch c.toNat k.toNat none) := by
  obtain ⟨hK, p, rfl, hf, hm⟩ := h
  obtain ⟨i, rfl⟩ := Int.eq_ofNat_of_zero_le c0
  obtain ⟨j, rfl⟩ := Int.eq_ofNat_of_zero_le k0
  refine (load_yes hm i j (by omega) (by omega) hn).mono ?_
  rintro e w' ⟨rfl, p', hto, ha⟩
  exact ⟨rfl, Has.to hK hf hto ha⟩

theorem u_load_nocore {w0 w : World} {b : Nat} {A : Ar} (h : Has w0 w b A) (c k : Int) (hc : c < 0 ∨ (A.traces.length : Int) ≤ c) :
    Calls Try.prog 30 #[.pointer (some ⟨b, 0, none⟩), .int .i64 c, .int .i64 k] w fun e w' => e = .returned (.tuple #[.int .i64 0, .int .i64 202]) ∧ Has w0 w' b A := by
  obtain ⟨hK, p, rfl, hf, hm⟩ := h
  refine (load_nocore hm c k hc).mono ?_
  rintro e w' ⟨rfl, hk⟩
  exact ⟨rfl, Has.still ⟨hK, p, rfl, hf, hm⟩ hk⟩

theorem u_load_noplace {w0 w : World} {b : Nat} {A : Ar} (h : Has w0 w b A) (c k : Int) (c0 : 0 ≤ c) (c1 : c < (A.traces.length : Int)) (hk : k < 0 ∨ (A.words.length : Int) ≤ k) :
    Calls Try.prog 30 #[.pointer (some ⟨b, 0, none⟩), .int .i64 c, .int .i64 k] w fun e w' => e = .returned (.tuple #[.int .i64 0, .int .i64 201]) ∧ Has w0 w' b A := by
  obtain ⟨hK, p, rfl, hf, hm⟩ := h
  obtain ⟨i, rfl⟩ := Int.eq_ofNat_of_zero_le c0
  refine (load_noplace hm i k (by omega) hk).mono ?_
  rintro e w' ⟨rfl, hk⟩
  exact ⟨rfl, Has.still ⟨hK, p, rfl, hf, hm⟩ hk⟩

theorem u_store {w0 w : World} {b : Nat} {A : Ar} (h : Has w0 w b A) (c k : Int) (z : Int) (c0 : 0 ≤ c) (c1 : c < (A.traces.length : Int)) (k0 : 0 ≤ k) (k1 : k < (A.words.length : Int)) (hn : (A.traces.getD c.toNat []).length < 1000000) :
    Calls Try.prog 28 #[.pointer (some ⟨b, 0, none⟩), .int .i64 c, .int .i64 k, .int .i64 z] w fun e w' => e = .returned (.int .i64 0) ∧ Has w0 w' b (A.touch c.toNat k.toNat (some z)) := by
  obtain ⟨hK, p, rfl, hf, hm⟩ := h
  obtain ⟨i, rfl⟩ := Int.eq_ofNat_of_zero_le c0
  obtain ⟨j, rfl⟩ := Int.eq_ofNat_of_zero_le k0
  refine (store_yes hm i j z (by omega) (by omega) hn).mono ?_
  rintro e w' ⟨rfl, p', hto, ha⟩
  exact ⟨rfl, Has.to hK hf hto ha⟩

theorem u_store_nocore {w0 w : World} {b : Nat} {A : Ar} (h : Has w0 w b A) (c k : Int) (z : Int) (hc : c < 0 ∨ (A.traces.length : Int) ≤ c) :
    Calls Try.prog 28 #[.pointer (some ⟨b, 0, none⟩), .int .i64 c, .int .i64 k, .int .i64 z] w fun e w' => e = .returned (.int .i64 202) ∧ Has w0 w' b A := by
  obtain ⟨hK, p, rfl, hf, hm⟩ := h
  refine (store_nocore hm c k z hc).mono ?_
  rintro e w' ⟨rfl, hk⟩
  exact ⟨rfl, Has.still ⟨hK, p, rfl, hf, hm⟩ hk⟩

theorem u_store_noplace {w0 w : World} {b : Nat} {A : Ar} (h : Has w0 w b A) (c k : Int) (z : Int) (c0 : 0 ≤ c) (c1 : c < (A.traces.length : Int)) (hk : k < 0 ∨ (A.words.length : Int) ≤ k) :
    Calls Try.prog 28 #[.pointer (some ⟨b, 0, none⟩), .int .i64 c, .int .i64 k, .int .i64 z] w fun e w' => e = .returned (.int .i64 201) ∧ Has w0 w' b A := by
  obtain ⟨hK, p, rfl, hf, hm⟩ := h
  obtain ⟨i, rfl⟩ := Int.eq_ofNat_of_zero_le c0
  refine (store_noplace hm i k z (by omega) hk).mono ?_
  rintro e w' ⟨rfl, hk⟩
  exact ⟨rfl, Has.still ⟨hK, p, rfl, hf, hm⟩ hk⟩

theorem u_clear {w0 w : World} {b : Nat} {A : Ar} (h : Has w0 w b A) (c : Int) (c0 : 0 ≤ c) (c1 : c < (A.traces.length : Int)) :
    Calls Try.prog 9 #[.pointer (some ⟨b, 0, none⟩), .int .i64 c] w fun e w' => e = .returned (.int .i64 0) ∧ Has w0 w' b (A.clear c.toNat) := by
  obtain ⟨hK, p, rfl, hf, hm⟩ := h
  obtain ⟨i, rfl⟩ := Int.eq_ofNat_of_zero_le c0
  refine (clear_yes hm i (by omega)).mono ?_
  rintro e w' ⟨rfl, p', hto, ha⟩
  exact ⟨rfl, Has.to hK hf hto ha⟩

theorem u_clear_no {w0 w : World} {b : Nat} {A : Ar} (h : Has w0 w b A) (c : Int) (hc : c < 0 ∨ (A.traces.length : Int) ≤ c) :
    Calls Try.prog 9 #[.pointer (some ⟨b, 0, none⟩), .int .i64 c] w fun e w' => e = .returned (.int .i64 202) ∧ w' = w := by
  obtain ⟨hK, p, rfl, hf, hm⟩ := h
  exact clear_no hm c hc

theorem u_trace {w0 w : World} {b : Nat} {A : Ar} (h : Has w0 w b A) (c : Int) (c0 : 0 ≤ c) (c1 : c < (A.traces.length : Int)) (hn : (A.traces.getD c.toNat []).length < 1000000) :
    Calls Try.prog 16 #[.pointer (some ⟨b, 0, none⟩), .int .i64 c] w fun e w' => ∃ u, e = .returned u ∧ Row w' u (A.traces.getD c.toNat []) ∧ (∀ k, u.ownBlock = some k → w.heap.size ≤ k) ∧ Kept [] w w' := by
  obtain ⟨hK, p, rfl, hf, hm⟩ := h
  obtain ⟨i, rfl⟩ := Int.eq_ofNat_of_zero_le c0
  exact trace_yes hm i (by omega) hn

theorem u_trace_no {w0 w : World} {b : Nat} {A : Ar} (h : Has w0 w b A) (c : Int) (hc : c < 0 ∨ (A.traces.length : Int) ≤ c) :
    Calls Try.prog 16 #[.pointer (some ⟨b, 0, none⟩), .int .i64 c] w fun e w' => e = .returned (.slice none 0 0) ∧ w' = w := by
  obtain ⟨hK, p, rfl, hf, hm⟩ := h
  exact trace_no hm c hc

/-- A slice that was just built. -/
theorem row_built {w : World} {g : Nat} {t : List (Int × Bool)} {cs : Array Value} (hc : cs.toList = acc t) (ht : t ≠ []) (hn : t.length < 1000000) (h : w.heap[g]? = some (.cells cs 63 (0, 0))) (n m : Nat) (hnm : n = t.length) (hm : m = t.length) : Row w (.slice (some ⟨g, 0, none⟩) n m) t := by
  subst hnm hm
  have hs : cs.size = t.length * 2 := by rw [← Array.length_toList, hc, acc_length]
  exact ⟨⟨acc_length t, Or.inr ⟨g, t.length, cs, rfl, Nat.zero_le _, h, Nat.le_refl _, by unfold maxLen; omega, hs, by rw [hc, ← acc_length]; exact List.take_length⟩⟩, fun e => absurd e ht⟩

theorem Row.still {w w' : World} {v : Value} {t : List (Int × Bool)} (h : Row w v t) (hk : Kept [] w w') : Row w' v t :=
  h.same fun k e => hk.block k (h.block k e) (by simp)

end Go.Proofs.Ytolbjmckebicfaa
