/-
  Rising lists of ints; what joins of them hold; the words of a trace.
-/
import Derived.Test.YtndcbpbigbjfeaaBase
namespace Go.Proofs.Ytndcbpbigbjfeaa
set_option linter.unusedVariables false

/-- Rising, each once. -/
def Rises (l : List Int) : Prop := l.Pairwise (· < ·)

theorem rises_ext : ∀ {a b : List Int}, Rises a → Rises b → (∀ x, x ∈ a ↔ x ∈ b) → a = b
  | [], [], _, _, _ => rfl
  | [], y :: b, _, _, h => absurd ((h y).2 (by simp)) (by simp)
  | x :: a, [], _, _, h => absurd ((h x).1 (by simp)) (by simp)
  | x :: a, y :: b, ha, hb, h => by
    obtain ⟨a1, a2⟩ := List.pairwise_cons.1 ha
    obtain ⟨b1, b2⟩ := List.pairwise_cons.1 hb
    have e : x = y := by
      have h1 := (h x).1 (by simp)
      have h2 := (h y).2 (by simp)
      rcases List.mem_cons.1 h1 with h1 | h1
      · exact h1
      · rcases List.mem_cons.1 h2 with h2 | h2
        · exact h2.symm
        · have := a1 y h2; have := b1 x h1; omega
    subst e
    congr 1
    refine rises_ext a2 b2 fun z => ⟨fun hz => ?_, fun hz => ?_⟩
    · rcases List.mem_cons.1 ((h z).1 (List.mem_cons_of_mem _ hz)) with e | e
      · have := a1 z hz; omega
      · exact e
    · rcases List.mem_cons.1 ((h z).2 (List.mem_cons_of_mem _ hz)) with e | e
      · have := b1 z hz; omega
      · exact e

theorem Rises.append {a b : List Int} (ha : Rises a) (hb : Rises b) (h : ∀ x ∈ a, ∀ y ∈ b, x < y) : Rises (a ++ b) := List.pairwise_append.2 ⟨ha, hb, h⟩

/-- One put in where it belongs. -/
def ins (x : Int) : List Int → List Int
  | [] => [x]
  | y :: l => if x < y then x :: y :: l else if x = y then y :: l else y :: ins x l

theorem mem_ins (x z : Int) : ∀ l, z ∈ ins x l ↔ z = x ∨ z ∈ l
  | [] => by simp [ins]
  | y :: l => by
    unfold ins
    split
    · simp
    · split
      · rename_i h; subst h; simp
      · simp only [List.mem_cons, mem_ins x z l]
        constructor <;> intro h <;> rcases h with h | h | h <;> simp [h]

theorem rises_ins (x : Int) : ∀ l, Rises l → Rises (ins x l)
  | [], _ => List.pairwise_singleton _ _
  | y :: l, h => by
    obtain ⟨h1, h2⟩ := List.pairwise_cons.1 h
    unfold ins
    split
    · rename_i hx
      exact List.pairwise_cons.2 ⟨fun z hz => by
        rcases List.mem_cons.1 hz with rfl | hz
        · exact hx
        · have := h1 z hz; omega, h⟩
    · split
      · exact h
      · refine List.pairwise_cons.2 ⟨fun z hz => ?_, rises_ins x l h2⟩
        rcases (mem_ins x z l).1 hz with rfl | hz
        · omega
        · exact h1 z hz

theorem length_ins (x : Int) : ∀ l, (ins x l).length ≤ l.length + 1
  | [] => by simp [ins]
  | y :: l => by
    unfold ins
    have := length_ins x l
    split
    · simp
    · split <;> simp <;> omega

/-- Of any ints, each once, rising. -/
def canon (X : List Int) : List Int := X.foldr ins []

theorem rises_canon (X : List Int) : Rises (canon X) := by
  induction X with
  | nil => exact List.Pairwise.nil
  | cons x X ih => exact rises_ins x _ ih

theorem mem_canon {z : Int} (X : List Int) : z ∈ canon X ↔ z ∈ X := by
  induction X with
  | nil => exact Iff.rfl
  | cons x X ih =>
    show z ∈ ins x (canon X) ↔ _
    rw [mem_ins, ih, List.mem_cons]

theorem length_canon (X : List Int) : (canon X).length ≤ X.length := by
  induction X with
  | nil => exact Nat.le_refl _
  | cons x X ih =>
    have := length_ins x (canon X)
    simp only [List.length_cons]
    show (ins x (canon X)).length ≤ _
    omega

theorem canon_eq {L X : List Int} (h : Rises L) (hm : ∀ x, x ∈ L ↔ x ∈ X) : L = canon X :=
  rises_ext h (rises_canon X) fun x => (hm x).trans (mem_canon X).symm

theorem canon_same {X Y : List Int} (hm : ∀ x, x ∈ X ↔ x ∈ Y) : canon X = canon Y :=
  canon_eq (rises_canon X) fun x => (mem_canon X).trans (hm x)

/-- Two rising lists are being joined: P lies there, X' and Y' are left. -/
structure Jn (X Y P X' Y' : List Int) : Prop where
  rp : Rises P
  rx : Rises X'
  ry : Rises Y'
  lo : ∀ p ∈ P, ∀ z, z ∈ X' ∨ z ∈ Y' → p < z
  mem : ∀ z, (z ∈ P ∨ z ∈ X' ∨ z ∈ Y') ↔ (z ∈ X ∨ z ∈ Y)
  len : P.length + X'.length + Y'.length ≤ X.length + Y.length

theorem Jn.start {X Y : List Int} (hx : Rises X) (hy : Rises Y) : Jn X Y [] X Y := ⟨List.Pairwise.nil, hx, hy, by simp, by simp, by simp⟩

theorem Jn.left {X Y P X' Y' : List Int} {x y : Int} (h : Jn X Y P (x :: X') (y :: Y')) (hl : x < y) : Jn X Y (P ++ [x]) X' (y :: Y') := by
  obtain ⟨a1, a2⟩ := List.pairwise_cons.1 h.rx
  obtain ⟨b1, b2⟩ := List.pairwise_cons.1 h.ry
  refine ⟨h.rp.append (List.pairwise_singleton _ _) (fun p hp z hz => ?_), a2, h.ry, fun p hp z hz => ?_, fun z => ?_, ?_⟩
  · rw [List.mem_singleton.1 hz]; exact h.lo p hp x (Or.inl (by simp))
  · rcases List.mem_append.1 hp with hp | hp
    · exact h.lo p hp z (hz.imp (List.mem_cons_of_mem _) id)
    · rw [List.mem_singleton.1 hp]
      rcases hz with hz | hz
      · exact a1 z hz
      · rcases List.mem_cons.1 hz with rfl | hz
        · exact hl
        · have := b1 z hz; omega
  · rw [← h.mem z]
    simp only [List.mem_append, List.mem_cons, List.not_mem_nil, or_false]
    simp only [or_assoc]
  · have := h.len
    simp only [List.length_append, List.length_cons, List.length_nil] at *
    omega

theorem Jn.right {X Y P X' Y' : List Int} {x y : Int} (h : Jn X Y P (x :: X') (y :: Y')) (hl : y < x) : Jn X Y (P ++ [y]) (x :: X') Y' := by
  obtain ⟨a1, a2⟩ := List.pairwise_cons.1 h.rx
  obtain ⟨b1, b2⟩ := List.pairwise_cons.1 h.ry
  refine ⟨h.rp.append (List.pairwise_singleton _ _) (fun p hp z hz => ?_), h.rx, b2, fun p hp z hz => ?_, fun z => ?_, ?_⟩
  · rw [List.mem_singleton.1 hz]; exact h.lo p hp y (Or.inr (by simp))
  · rcases List.mem_append.1 hp with hp | hp
    · exact h.lo p hp z (hz.imp id (List.mem_cons_of_mem _))
    · rw [List.mem_singleton.1 hp]
      rcases hz with hz | hz
      · rcases List.mem_cons.1 hz with rfl | hz
        · exact hl
        · have := a1 z hz; omega
      · exact b1 z hz
  · rw [← h.mem z]
    simp only [List.mem_append, List.mem_cons, List.not_mem_nil, or_false]
    constructor
    · rintro ((hh | hh) | (hh | hh) | hh) <;> simp [hh]
    · rintro (hh | (hh | hh) | hh | hh) <;> simp [hh]
  · have := h.len
    simp only [List.length_append, List.length_cons, List.length_nil] at *
    omega

theorem Jn.skip {X Y P X' Y' : List Int} {x : Int} (h : Jn X Y P (x :: X') (x :: Y')) : Jn X Y P X' (x :: Y') := by
  obtain ⟨a1, a2⟩ := List.pairwise_cons.1 h.rx
  refine ⟨h.rp, a2, h.ry, fun p hp z hz => h.lo p hp z (hz.imp (List.mem_cons_of_mem _) id), fun z => ?_, ?_⟩
  · rw [← h.mem z]
    simp only [List.mem_cons]
    constructor
    · intro hh; rcases hh with hh | hh | hh | hh <;> simp [hh]
    · intro hh; rcases hh with hh | (hh | hh) | hh | hh <;> simp [hh]
  · have := h.len
    simp only [List.length_cons] at *
    omega

theorem Jn.done {X Y P X' Y' : List Int} (h : Jn X Y P X' Y') (he : X' = [] ∨ Y' = []) : P ++ X' ++ Y' = canon (X ++ Y) := by
  refine canon_eq ?_ fun z => ?_
  · rcases he with rfl | rfl
    · rw [List.append_nil]
      exact h.rp.append h.ry fun p hp z hz => h.lo p hp z (Or.inr hz)
    · rw [List.append_nil]
      exact h.rp.append h.rx fun p hp z hz => h.lo p hp z (Or.inl hz)
  · rw [List.mem_append (s := X), ← h.mem z, List.mem_append, List.mem_append, or_assoc]

end Go.Proofs.Ytndcbpbigbjfeaa
