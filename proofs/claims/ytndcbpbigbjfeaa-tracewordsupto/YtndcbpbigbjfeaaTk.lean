/-
  What the runs hold; settle.
-/
import Derived.Test.YtndcbpbigbjfeaaSt
namespace Go.Proofs.Ytndcbpbigbjfeaa
open Go.RowKit
set_option linter.unusedSimpArgs false
set_option linter.unusedVariables false

def tot (R : List (List Int)) : Nat := (R.map List.length).sum

theorem tot_append (A B : List (List Int)) : tot (A ++ B) = tot A + tot B := by simp [tot]
theorem tot_one (r : List Int) : tot [r] = r.length := by simp [tot]

/-- The runs of X: each rises and is not empty; all but the last two hold two or more. -/
structure Inv (R : List (List Int)) (X : List Int) : Prop where
  ne : ∀ r ∈ R, r ≠ [] ∧ Rises r
  mem : ∀ z, (∃ r ∈ R, z ∈ r) ↔ z ∈ X
  len : tot R ≤ X.length
  big : ∀ (i : Nat) (r : List Int), i + 2 < R.length → R[i]? = some r → 2 ≤ r.length

/-- All but the last hold two or more. -/
def Big (R : List (List Int)) : Prop := ∀ (i : Nat) (r : List Int), i + 1 < R.length → R[i]? = some r → 2 ≤ r.length

theorem big_bound : ∀ (R : List (List Int)), Big R → 2 * R.length ≤ tot R + 2
  | [], _ => by simp [tot]
  | [r], _ => by simp [tot]
  | r :: s :: R, h => by
    have h1 := h 0 r (by simp) rfl
    have h2 := big_bound (s :: R) fun i x hi hx => h (i + 1) x (by simpa using hi) (by simpa using hx)
    simp only [tot, List.map_cons, List.sum_cons, List.length_cons] at *
    omega

theorem Inv.big_init {R : List (List Int)} {X : List Int} (h : Inv R X) : 2 * R.length ≤ tot R + 4 := by
  rcases List.eq_nil_or_concat R with rfl | ⟨Q, l, rfl⟩
  · simp
  · have hb : Big Q := fun i x hi hx => h.big i x (by simp; omega) (by rw [List.concat_eq_append, List.getElem?_append_left (by omega)]; exact hx)
    have := big_bound Q hb
    rw [List.concat_eq_append, tot_append, List.length_append]
    simp only [List.length_singleton]
    omega

theorem Inv.nil : Inv [] [] := ⟨by simp, by simp, by simp [tot], by simp⟩

theorem Inv.run_le {R : List (List Int)} {X : List Int} (h : Inv R X) {r : List Int} (hr : r ∈ R) : r.length ≤ X.length := by
  refine Nat.le_trans ?_ h.len
  obtain ⟨A, B, rfl⟩ := List.append_of_mem hr
  rw [tot_append, show r :: B = [r] ++ B from rfl, tot_append, tot_one]
  omega

/-- The last two become one. -/
theorem Inv.joined {Q : List (List Int)} {p l X : List Int} (h : Inv (Q ++ [p, l]) X) : Inv (Q ++ [canon (p ++ l)]) X := by
  obtain ⟨hp, -⟩ := h.ne p (by simp)
  refine ⟨fun r hr => ?_, fun z => ?_, ?_, fun i r hi hr => ?_⟩
  · rcases List.mem_append.1 hr with hr | hr
    · exact h.ne r (by simp [hr])
    · rw [List.mem_singleton.1 hr]
      refine ⟨fun e => ?_, rises_canon _⟩
      cases p with
      | nil => exact hp rfl
      | cons x p =>
        have : x ∈ canon (x :: p ++ l) := (mem_canon _).2 (by simp)
        rw [e] at this
        cases this
  · rw [← h.mem z]
    constructor
    · rintro ⟨r, hr, hz⟩
      rcases List.mem_append.1 hr with hr | hr
      · exact ⟨r, by simp [hr], hz⟩
      · rw [List.mem_singleton.1 hr, mem_canon, List.mem_append] at hz
        rcases hz with hz | hz
        · exact ⟨p, by simp, hz⟩
        · exact ⟨l, by simp, hz⟩
    · rintro ⟨r, hr, hz⟩
      rcases List.mem_append.1 hr with hr | hr
      · exact ⟨r, by simp [hr], hz⟩
      · refine ⟨canon (p ++ l), by simp, (mem_canon _).2 (List.mem_append.2 ?_)⟩
        simp only [List.mem_cons, List.not_mem_nil, or_false] at hr
        rcases hr with rfl | rfl
        · exact Or.inl hz
        · exact Or.inr hz
  · have h1 := h.len
    rw [show Q ++ [p, l] = Q ++ ([p] ++ [l]) from rfl] at h1
    rw [tot_append, tot_append, tot_one, tot_one] at h1
    rw [tot_append, tot_one]
    have := length_canon (p ++ l)
    rw [List.length_append] at this
    omega
  · simp only [List.length_append, List.length_singleton] at hi
    rw [List.getElem?_append_left (by omega)] at hr
    exact h.big i r (by simp; omega) (by rw [List.getElem?_append_left (by omega)]; exact hr)

theorem Inv.settled {Q : List (List Int)} {p l X : List Int} (h : Inv (Q ++ [p, l]) X) (hpl : 2 * l.length ≤ p.length) : Big (Q ++ [p, l]) := by
  intro i r hi hr
  simp only [List.length_append, List.length_cons, List.length_nil] at hi
  rcases Nat.lt_or_ge i Q.length with h1 | h1
  · exact h.big i r (by simp; omega) hr
  · have e : i = Q.length := by omega
    subst e
    simp at hr
    subst hr
    have := (h.ne l (by simp)).1
    have := List.length_pos_iff.2 this
    omega

theorem two_last (R : List (List Int)) (h : 2 ≤ R.length) : ∃ Q p l, R = Q ++ [p, l] := by
  rcases List.eq_nil_or_concat R with rfl | ⟨A, l, rfl⟩
  · simp at h
  · rcases List.eq_nil_or_concat A with rfl | ⟨Q, p, rfl⟩
    · simp at h
    · exact ⟨Q, p, l, by simp⟩

/-- A slice of slices, whole. -/
theorem St.two {w0 w : World} {c : Nat} {v : Value} {vs : List Value} {Q : List (List Int)} {p l : List Int} (h : St w0 w c v vs (Q ++ [p, l])) :
    ∃ g cap ap cp al cl, v = .slice (some ⟨g, 0, none⟩) (Q.length + 2) cap ∧ Q.length + 2 ≤ cap ∧ g ≠ c ∧ vs[Q.length]? = some (.slice ap p.length cp) ∧ vs[Q.length + 1]? = some (.slice al l.length cl) ∧
      w.cell? ⟨g, Q.length, none⟩ = some (.slice ap p.length cp) ∧ w.frozen? ⟨g, Q.length, none⟩ = false ∧ w.cell? ⟨g, Q.length + 1, none⟩ = some (.slice al l.length cl) ∧
      Own w w0.heap.size (.slice ap p.length cp) p ∧ Own w w0.heap.size (.slice al l.length cl) l := by
  obtain ⟨a, cap, e1, e2, e3⟩ := h.slice
  obtain ⟨xp, hxp, op⟩ := h.at (i := Q.length) (r := p) (by simp)
  obtain ⟨xl, hxl, ol⟩ := h.at (i := Q.length + 1) (r := l) (by simp)
  obtain ⟨ap, cp, rfl⟩ := op.isSlice
  obtain ⟨al, cl, rfl⟩ := ol.isSlice
  obtain ⟨g, rfl, g1, g2, g3⟩ := e3 _ _ hxp
  obtain ⟨g', e, -, g5, -⟩ := e3 _ _ hxl
  simp only [Option.some.injEq, Addr.mk.injEq, and_true] at e
  subst e
  exact ⟨g, cap, ap, cp, al, cl, by simpa using e1, by simpa using e2, g1, hxp, hxl, g2, g3, g5, op, ol⟩

/-- Behind the join, the store and the cut. -/
theorem St.joined {w0 w w1 : World} {c g n cap : Nat} {v r : Value} {vs : List Value} {Q : List (List Int)} {p l : List Int} (h : St w0 w c v vs (Q ++ [p, l])) (hv : v = .slice (some ⟨g, 0, none⟩) n cap)
    {x : Value} (hx : vs[Q.length]? = some x) (hS : Still w w1) (hO : Own w1 w.heap.size r (canon (p ++ l))) :
    St w0 (w1.setCell ⟨g, Q.length, none⟩ r) c v (vs.set Q.length r) (Q ++ [canon (p ++ l), l]) := by
  have := h.change (i := Q.length) (x := x) (x' := r) (r' := canon (p ++ l)) (w1 := w1) hv hx ⟨hS.os, hS.tape, hS.output, hS.size, fun k hk _ => hS.block k hk⟩ (hO.mono h.below.size) (Or.inr fun k hk => (hO.block k hk).1)
  rwa [List.set_append_right _ _ (by omega), Nat.sub_self] at this

end Go.Proofs.Ytndcbpbigbjfeaa
