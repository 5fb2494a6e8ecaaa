/-
  What texts of known bytes have; what every package name answers (awake).
-/
import Derived.Test.YtgfdcnjnkljahaaDoorNm
namespace Go.Proofs.YtgfdcnjnkljahaaDoor
open Go.RowKit Go.Lib
set_option linter.unusedVariables false

/-- The runes from a place on, by a bound on their number. -/
def rsF : Nat → ByteArray → Nat → List (Int × Nat)
  | 0, _, _ => []
  | n + 1, s, i => if i < s.size then one s i :: rsF n s (i + max (one s i).2 1) else []

theorem rs_fuel (s : ByteArray) (n : Nat) : ∀ i, s.size ≤ i + n → rs s i = rsF n s i := by
  induction n with
  | zero => intro i hi; rw [rs_end (by omega)]; rfl
  | succ n ih =>
    intro i hi
    unfold rsF
    by_cases h : i < s.size
    · rw [rs_next h, if_pos h, ih _ (by have := step_pos s i; omega)]
    · rw [rs_end h, if_neg h]

/-- What Check answers, by bytes. -/
def chkF (s : ByteArray) : Int := if 12 < s.size then 801 else if s.data.toList = [] ∨ s.data.toList = [46] ∨ s.data.toList = [46, 46] then 800 else if (rsF 12 s 0).any badR then 800 else 0

theorem chk_eq (s : ByteArray) : chk s = chkF s := by
  unfold chk chkF
  by_cases h : 12 < s.size
  · rw [if_pos h, if_pos h]
  · rw [if_neg h, if_neg h, ByteArray.toList_eq, rs_fuel s 12 0 (by omega)]

theorem v_a : chk ⟨#[97]⟩ = 0 := by rw [chk_eq]; decide +kernel
theorem v_ab : chk ⟨#[97, 47, 98]⟩ = 800 := by rw [chk_eq]; decide +kernel
theorem v_lo : chk ⟨#[97, 98, 99, 100, 101, 102, 103, 104, 105, 106, 107, 108, 109]⟩ = 801 := by rw [chk_eq]; decide +kernel
theorem v_dot : chk ⟨#[46]⟩ = 800 := by rw [chk_eq]; decide +kernel
theorem h_a : hashL (rs ⟨#[97]⟩ 0) 7 = 314 := by rw [rs_fuel _ 1 0 (by decide)]; decide +kernel
theorem r_ef : (rs ⟨#[195, 169, 255]⟩ 0).length = 2 := by rw [rs_fuel _ 3 0 (by decide)]; decide +kernel

end Go.Proofs.YtgfdcnjnkljahaaDoor
