/-
  Clear and Trace, as a law meets them.
-/
import Derived.Test.YtagnkdeeiligcaaDoorMeet
namespace Go.Proofs.YtagnkdeeiligcaaDoor
open Go.RowKit

theorem st_clear {w0 w : World} {b x k f s : Nat} {A : Ar} {P : Nat → List Pc} {q : Nat} (h : St w0 w b x k f s A P q) {c : Nat} (hc : c < k) :
    Calls Tryd.prog 15 #[.pointer (some ⟨b, 0, none⟩), .int .i64 (c : Int)] w fun e w' => e = .returned (.int .i64 0) ∧ ∃ A', St w0 w' b x k f s A' P q := by
  obtain ⟨p, h1, h2, h3⟩ := h.ex
  subst h1
  refine (clear_yes h3 c (by rw [h.cores]; exact hc)).mono ?_
  rintro e w' ⟨rfl, p', hto, ha⟩
  refine ⟨rfl, A.clear c, ?_⟩
  exact {
    kept := h.kept.trans hto.kept (fun i hi => Or.inr (h2 i (by simpa using hi)).1)
    ex := ⟨p', hto.b, fun i hi => by
      rcases hto.new i hi with h4 | h4
      · exact h2 i h4
      · have h5 := h.kept.size
        have h6 := lt_of_heap h.al
        exact ⟨by omega, by omega⟩, ha⟩
    al := h.al.kept hto.kept (fun hm => (h2 x (by simpa using hm)).2 rfl)
    xlo := h.xlo
    cores := by rw [clear_cores]; exact h.cores
    words := h.words
    slo := h.slo
    shi := h.shi
    inv := h.inv
    own := fun d hd e he => by
      rw [clear_trace _ _ _ (by rw [h.cores]; exact hc)] at he
      split at he
      · simp at he
      · exact h.own d hd e he
    quota := fun d hd => by
      rw [clear_trace _ _ _ (by rw [h.cores]; exact hc)]
      have := h.quota d hd
      split
      · simp; omega
      · exact this }

theorem st_trace {w0 w : World} {b x k f s : Nat} {A : Ar} {P : Nat → List Pc} {q : Nat} (h : St w0 w b x k f s A P q) {c : Nat} (hc : c < k) :
    Calls Tryd.prog 18 #[.pointer (some ⟨b, 0, none⟩), .int .i64 (c : Int)] w fun e w' => ∃ u, e = .returned u ∧ Row w' u (A.traces.getD c []) ∧ Kept [] w w' := by
  obtain ⟨p, h1, h2, h3⟩ := h.ex
  subst h1
  refine (trace_yes h3 c (by rw [h.cores]; exact hc) (by have := h.quota c hc; omega)).mono ?_
  rintro e w' ⟨u, rfl, hu, -, hk⟩
  exact ⟨u, rfl, hu, hk⟩

theorem St.far {w0 w : World} {b x k f s : Nat} {A : Ar} {P : Nat → List Pc} {q : Nat} (h : St w0 w b x k f s A P q) {c d : Nat} (hc : c < k) (hd : d < c) : Far (A.traces.getD c []) (A.traces.getD d []) := by
  intro e he e' he' eq
  have h1 := h.own c hc e he
  have h2 := h.own d (by omega) e' he'
  have h3 := mul_next s hd
  omega

end Go.Proofs.YtagnkdeeiligcaaDoor
