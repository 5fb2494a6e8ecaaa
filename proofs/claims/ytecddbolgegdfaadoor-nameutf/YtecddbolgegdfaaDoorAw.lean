/-
  What texts of known bytes have; what every package name answers (awake).
-/
import Derived.Test.YtecddbolgegdfaaDoorNm
namespace Go.Proofs.YtecddbolgegdfaaDoor
open Go.RowKit Go.Lib
set_option linter.unusedVariables false

/-- The runes from a place on, by a bound on their number. -/
def rsF : Nat → ByteArray → Nat → List (Int × Nat)
  | 0, _, _ => []
  | n + 1, s, i => if i < s.size then one s i :: rsF n s (i + max (one s i).2 1) else []

theorem rs_fuel (s : ByteArray) (n : Nat) : ∀ i, s.size ≤ i + n → rs s i = rsF n s i := by
  induction n with
  | zero => intro i hi; rw [rs_end (by omega)]; rfl
  | succ n ih =>
    intro i hi
    unfold rsF
    by_cases h : i < s.size
    · rw [rs_next h, if_pos h, ih _ (by have := step_pos s i; omega)]
    · rw [rs_end h, if_neg h]

/-- What Check answers, by bytes. -/
def chkF (s : ByteArray) : Int := if 12 < s.size then 801 else if s.data.toList = [] ∨ s.data.toList = [46] ∨ s.data.toList = [46, 46] then 800 else if (rsF 12 s 0).any badR then 800 else 0

theorem chk_eq (s : ByteArray) : chk s = chkF s := by
  unfold chk chkF
  by_cases h : 12 < s.size
  · rw [if_pos h, if_pos h]
  · rw [if_neg h, if_neg h, ByteArray.toList_eq, rs_fuel s 12 0 (by omega)]

theorem v_a : chk ⟨#[97]⟩ = 0 := by rw [chk_eq]; decide +kernel
theorem v_ab : chk ⟨#[97, 47, 98]⟩ = 800 := by rw [chk_eq]; decide +kernel
theorem v_lo : chk ⟨#[97, 98, 99, 100, 101, 102, 103, 104, 105, 106, 107, 108, 109]⟩ = 801 := by rw [chk_eq]; decide +kernel
theorem v_dot : chk ⟨#[46]⟩ = 800 := by rw [chk_eq]; decide +kernel
theorem h_a : hashL (rs ⟨#[97]⟩ 0) 7 = 314 := by rw [rs_fuel _ 1 0 (by decide)]; decide +kernel
theorem r_ef : (rs ⟨#[195, 169, 255]⟩ 0).length = 2 := by rw [rs_fuel _ 3 0 (by decide)]; decide +kernel

set_option maxRecDepth 100000 in
set_option maxHeartbeats 1000000 in
theorem awake_any (w : World) (hT : Tab w) :
    Calls Tryd.prog 19 #[] w fun e w' => e = .returned (.bool true) ∧ Kept [] w w' := by
  have HK0 : Hid (Kept [] w w) := Kept.refl _ _
  have HT : Hid (Tab w) := hT
  clear hT
  go_enter Tryd.func19, Tryd.ntmps19
  go_wp2_with fail
  refine (n_check ⟨#[97]⟩ _ (HT.out.kept HK0.out)).mono ?_
  rintro e w1 ⟨rfl, hk⟩
  have HK1 : Hid (Kept [] w w1) := HK0.out.trans hk (by simp)
  clear hk HK0
  rw [v_a]
  go_wp2_with fail
  refine (n_check ⟨#[97, 47, 98]⟩ _ (HT.out.kept HK1.out)).mono ?_
  rintro e w2 ⟨rfl, hk⟩
  have HK2 : Hid (Kept [] w w2) := HK1.out.trans hk (by simp)
  clear hk HK1
  rw [v_ab]
  go_wp2_with fail
  refine (n_check ⟨#[97, 98, 99, 100, 101, 102, 103, 104, 105, 106, 107, 108, 109]⟩ _ (HT.out.kept HK2.out)).mono ?_
  rintro e w3 ⟨rfl, hk⟩
  have HK3 : Hid (Kept [] w w3) := HK2.out.trans hk (by simp)
  clear hk HK2
  rw [v_lo]
  go_wp2_with fail
  refine (n_may ⟨#[97]⟩ _ (HT.out.kept HK3.out)).mono ?_
  rintro e w4 ⟨rfl, hk⟩
  have HK4 : Hid (Kept [] w w4) := HK3.out.trans hk (by simp)
  clear hk HK3
  rw [v_a]
  go_wp2_with fail
  refine (n_may ⟨#[46]⟩ _ (HT.out.kept HK4.out)).mono ?_
  rintro e w5 ⟨rfl, hk⟩
  have HK5 : Hid (Kept [] w w5) := HK4.out.trans hk (by simp)
  clear hk HK4
  rw [v_dot]
  go_wp2_with fail
  refine (num _ _).mono ?_
  rintro e w' ⟨rfl, rfl⟩
  go_wp2_with fail
  refine (num _ _).mono ?_
  rintro e w' ⟨rfl, rfl⟩
  go_wp2_with fail
  refine (num _ _).mono ?_
  rintro e w' ⟨rfl, rfl⟩
  go_wp2_with fail
  refine (n_hash ⟨#[97]⟩ _).mono ?_
  rintro e w6 ⟨rfl, hk⟩
  have HK6 : Hid (Kept [] w w6) := HK5.out.trans hk (by simp)
  clear hk HK5
  rw [h_a]
  go_wp2_with fail
  refine (n_bucket ⟨#[97]⟩ _).mono ?_
  rintro e w7 ⟨rfl, hk⟩
  have HK7 : Hid (Kept [] w w7) := HK6.out.trans hk (by simp)
  clear hk HK6
  rw [h_a]
  go_wp2_with fail
  refine (n_runes ⟨#[195, 169, 255]⟩ _ (by decide)).mono ?_
  rintro e w8 ⟨rfl, hk⟩
  have HK8 : Hid (Kept [] w w8) := HK7.out.trans hk (by simp)
  clear hk HK7
  rw [r_ef]
  go_wp2_with fail
  go_ret
  exact ⟨rfl, HK8.out⟩

end Go.Proofs.YtecddbolgegdfaaDoor
