/-
  What a touch makes of the traces.
-/
import Derived.Test.YtolbjmckebicfaaBits
namespace Go.Proofs.Ytolbjmckebicfaa
open Go.RowKit

theorem put_traces (A : Ar) (k : Nat) (ch : Option Int) : (A.put k ch).traces = A.traces := by cases ch <;> rfl

theorem touch_cores (A : Ar) (c k : Nat) (ch : Option Int) : (A.touch c k ch).traces.length = A.traces.length := by
  simp [Ar.touch, Ar.note, put_traces]

theorem touch_words (A : Ar) (c k : Nat) (z : Int) : (A.touch c k (some z)).words = A.words.set k z := rfl
theorem touch_words0 (A : Ar) (c k : Nat) : (A.touch c k none).words = A.words := rfl

theorem touch_trace (A : Ar) (c k d : Nat) (ch : Option Int) (hc : c < A.traces.length) : (A.touch c k ch).traces.getD d [] = if d = c then A.traces.getD c [] ++ [((k : Int), ch.isSome)] else A.traces.getD d [] := by
  simp only [Ar.touch, Ar.note, put_traces, List.getD, List.getElem?_set]
  by_cases h : d = c
  · subst h; simp [hc]
  · rw [if_neg (Ne.symm h), if_neg h]

theorem clear_cores (A : Ar) (c : Nat) : (A.clear c).traces.length = A.traces.length := by simp [Ar.clear]

theorem clear_trace (A : Ar) (c d : Nat) (hc : c < A.traces.length) : (A.clear c).traces.getD d [] = if d = c then [] else A.traces.getD d [] := by
  simp only [Ar.clear, List.getD, List.getElem?_set]
  by_cases h : d = c
  · subst h; simp [hc]
  · rw [if_neg (Ne.symm h), if_neg h]

/-- The trace of a core, as a slice of so many. -/
theorem Row.slice {w : World} {v : Value} {t : List (Int × Bool)} (h : Row w v t) : ∃ a cap, v = .slice a t.length cap := by
  by_cases ht : t = []
  · exact ⟨none, 0, by rw [h.2 ht, ht]; rfl⟩
  · obtain ⟨g, cap, hv, -⟩ := h.form ht
    exact ⟨_, cap, hv⟩

/-- .. of one core, as it is asked for by its length alone. -/
theorem u_many {w0 w : World} {b : Nat} {A : Ar} (h : Has w0 w b A) (c : Int) (n : Nat) (c0 : 0 ≤ c) (c1 : c < (A.traces.length : Int)) (hn : (A.traces.getD c.toNat []).length = n) (hb : n < 1000000) :
    Calls Try.prog 16 #[.pointer (some ⟨b, 0, none⟩), .int .i64 c] w fun e w' => ∃ a cap, e = .returned (.slice a n cap) ∧ Has w0 w' b A := by
  refine (u_trace h c c0 c1 (by omega)).mono ?_
  rintro e w' ⟨u, rfl, hr, -, hk⟩
  obtain ⟨a, cap, rfl⟩ := hr.slice
  exact ⟨a, cap, by rw [hn], h.still hk⟩

end Go.Proofs.Ytolbjmckebicfaa
