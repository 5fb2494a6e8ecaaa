/-
  How many entries a bucket has, behind an entry more or less; rows of eight numbers.
-/
import Derived.Test.YtnbbcbjfejdceaaDoorDm
import Derived.Test.YtnbbcbjfejdceaaDoorBits
import Derived.Test.YtnbbcbjfejdceaaDoorNew
namespace Go.Proofs.YtnbbcbjfejdceaaDoor
open Go.RowKit
set_option linter.unusedVariables false

theorem put_perm (E : List En) (e : En) : (putE E e).Perm (e :: E) := by
  induction E with
  | nil => exact List.Perm.refl _
  | cons y l ih =>
    rw [putE]
    split
    · exact List.Perm.refl _
    · exact (ih.cons y).trans (List.Perm.swap e y l)

theorem many_put (E : List En) (e : En) (b : Int) (but : ByteArray) : many (putE E e) b but = many E b but + if e.1 ≠ but ∧ bkt e.1 = b then 1 else 0 := by
  unfold many
  rw [((put_perm E e).filter _).length_eq, List.filter_cons]
  by_cases h : e.1 ≠ but ∧ bkt e.1 = b
  · rw [if_pos h]
    simp [h.1, h.2]
  · rw [if_neg h]
    have : (decide (e.1 ≠ but) && bkt e.1 == b) = false := by
      rw [← Bool.not_eq_true, Bool.and_eq_true, decide_eq_true_eq, beq_iff_eq]
      exact h
    rw [this]
    simp

theorem drop_first {x : En} {E : List En} (h : Rise (x :: E)) : dropE (x :: E) x.1 = E := by
  unfold Rise at h
  rw [List.pairwise_cons] at h
  unfold dropE
  rw [List.filter_cons]
  simp only [ne_eq, not_true_eq_false, decide_false, Bool.false_eq_true, if_false]
  rw [List.filter_eq_self]
  intro y hy
  simpa using (below_ne (h.1 y hy)).symm

/-- Eight numbers as cells. -/
def fl (F : Nat → Int) : Array Value := ((List.range 8).map fun j => Value.int .i64 (F j)).toArray

theorem fl_zero : i64s (List.replicate 8 0) = fl fun _ => 0 := rfl

theorem fl_get (F : Nat → Int) {j : Nat} (hj : j < 8) : (fl F)[j]? = some (.int .i64 (F j)) := by
  unfold fl
  simp [hj]

theorem fl_set (F G : Nat → Int) {j : Nat} {v : Int} (hj : j < 8) (h : ∀ i, i < 8 → G i = if i = j then v else F i) : (fl F).setIfInBounds j (.int .i64 v) = fl G := by
  apply Array.ext_getElem?
  intro i
  rw [Array.getElem?_setIfInBounds]
  have hs : (fl F).size = 8 := by unfold fl; simp
  by_cases hi : i < 8
  · rw [fl_get _ hi, fl_get _ hi, h i hi]
    by_cases e : j = i
    · rw [if_pos e, if_pos (by omega), if_pos e.symm]
    · rw [if_neg e, if_neg (Ne.symm e)]
  · rw [if_neg (by omega), Array.getElem?_eq_none (by omega), Array.getElem?_eq_none (by unfold fl; simp; omega)]

section
variable {I : Trc → Prop} {S : List (Nat × Obj)} {w0 w : World} {b g f k L N : Nat} {E : List En}

theorem Dd.put {g' : Nat} {cs : Array Value} {t : TypeId} (h : Dd I ((g', .cells cs t (0, 0)) :: S) w0 w b g f k L N E) (hg : ∀ x ∈ S, x.1 ≠ g') (hS : (g, box b f) ∈ S) (i : Nat) (v : Value) : Dd I ((g', .cells (cs.setIfInBounds i v) t (0, 0)) :: S) w0 (w.setCell ⟨g', i, none⟩ v) b g f k L N E := by
  obtain ⟨T, h1, h2, h3⟩ := h
  exact ⟨T, h1, h2, h3.put hg hS i v⟩

theorem Dd.ne_new (h : Dd I S w0 w b g f k L N E) : ∀ x ∈ S, x.1 ≠ w.heap.size := by
  obtain ⟨T, h1, h2, h3⟩ := h
  exact h3.ne_new

/-- No more than four have a bucket. -/
theorem Dd.four (h : Dd I S w0 w b g f k L N E) {n : Nat} (hn : n < 8) (but : ByteArray) : many E (n : Int) but ≤ 4 := by
  obtain ⟨T, h1, h2, h3⟩ := h
  rw [many_slots h1 h2 hn]
  exact Nat.le_trans (List.length_filter_le _ _) (by simp)

end

theorem bits63 (n : Int) : bits .and .i64 n 63 = n % 64 := by
  have h1 : (BitVec.ofInt 64 63).toNat = 2 ^ 6 - 1 := by decide
  have key : (BitVec.ofInt 64 n &&& BitVec.ofInt 64 63).toNat = (n % ((2 ^ 64 : Nat) : Int)).toNat % 2 ^ 6 := by
    rw [BitVec.toNat_and, BitVec.toNat_ofInt, h1, Nat.and_two_pow_sub_one_eq_mod]
  show IntKind.i64.wrap ((BitVec.ofInt 64 n &&& BitVec.ofInt 64 63).toNat : Nat) = n % 64
  rw [key, IntKind.wrap_i64]
  omega

theorem bits255 (n : Int) : bits .and .i64 n 255 = n % 256 := by
  have h1 : (BitVec.ofInt 64 255).toNat = 2 ^ 8 - 1 := by decide
  have key : (BitVec.ofInt 64 n &&& BitVec.ofInt 64 255).toNat = (n % ((2 ^ 64 : Nat) : Int)).toNat % 2 ^ 8 := by
    rw [BitVec.toNat_and, BitVec.toNat_ofInt, h1, Nat.and_two_pow_sub_one_eq_mod]
  show IntKind.i64.wrap ((BitVec.ofInt 64 n &&& BitVec.ofInt 64 255).toNat : Nat) = n % 256
  rw [key, IntKind.wrap_i64]
  omega

/-- The core that a number picks. -/
theorem core3 (n : Int) : ∃ c : Nat, c < 4 ∧ bits .and .i64 n 3 = (c : Int) := ⟨(n % 4).toNat, by omega, by rw [i64_and3]; omega⟩

theorem no_name_kn (c : UInt8) (n : Nat) : kn c n ≠ noname := fun h => by
  have h1 : (kn c n).size = 0 := by rw [h]; rfl
  unfold kn at h1
  rw [ByteArray.size_append] at h1
  have : (⟨#[c]⟩ : ByteArray).size = 1 := rfl
  omega

end Go.Proofs.YtnbbcbjfejdceaaDoor
