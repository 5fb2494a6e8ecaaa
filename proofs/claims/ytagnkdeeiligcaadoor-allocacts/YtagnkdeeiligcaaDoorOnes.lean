/-
  Bits: ones, Len, fit.
-/
import Derived.Test.YtagnkdeeiligcaaDoorSh
import Derived.Laws.BitsAllLaws
namespace Go.Proofs.YtagnkdeeiligcaaDoor
open Go.RowKit

theorem pow_le32 {n : Nat} (h : n ≤ 32) : 2 ^ n ≤ 4294967296 ∧ 1 ≤ 2 ^ n :=
  ⟨Nat.pow_le_pow_right (by omega) h, Nat.one_le_two_pow⟩

/-- So many bits, all 1. -/
def ons (n : Nat) : Nat := 2 ^ n - 1

theorem ones_any (w : World) (n : Nat) (h : n ≤ 32) :
    Calls Tryd.prog 51 #[.int .i64 (n : Int)] w fun e w' => e = .returned (.int .u32 ((ons n : Nat) : Int)) ∧ w' = w := by
  go_enter Tryd.func51, Tryd.ntmps51
  go_wp2
  go_ret
  refine ⟨ret_int ?_, rfl⟩
  obtain ⟨h1, h2⟩ := pow_le32 h
  have e : ((2 : Int) ^ n) = ((2 ^ n : Nat) : Int) := by simp
  rw [e]
  unfold ons
  omega

/-- The level of a size: its slots are of 2 ^ lv z words. -/
def lv (z : Nat) : Nat := if z ≤ 1 then 0 else if z ≤ 2 then 1 else if z ≤ 4 then 2 else if z ≤ 8 then 3 else if z ≤ 16 then 4 else 5

def lenTab : ByteArray := ⟨#[0, 1, 2, 2, 3, 3, 3, 3, 4, 4, 4, 4, 4, 4, 4, 4, 5, 5, 5, 5, 5, 5, 5, 5, 5, 5, 5, 5, 5, 5, 5, 5, 6, 6, 6, 6, 6, 6, 6, 6, 6, 6, 6, 6, 6, 6, 6, 6, 6, 6, 6, 6, 6, 6, 6, 6, 6, 6, 6, 6, 6, 6, 6, 6, 7, 7, 7, 7, 7, 7, 7, 7, 7, 7, 7, 7, 7, 7, 7, 7, 7, 7, 7, 7, 7, 7, 7, 7, 7, 7, 7, 7, 7, 7, 7, 7, 7, 7, 7, 7, 7, 7, 7, 7, 7, 7, 7, 7, 7, 7, 7, 7, 7, 7, 7, 7, 7, 7, 7, 7, 7, 7, 7, 7, 7, 7, 7, 7, 8, 8, 8, 8, 8, 8, 8, 8, 8, 8, 8, 8, 8, 8, 8, 8, 8, 8, 8, 8, 8, 8, 8, 8, 8, 8, 8, 8, 8, 8, 8, 8, 8, 8, 8, 8, 8, 8, 8, 8, 8, 8, 8, 8, 8, 8, 8, 8, 8, 8, 8, 8, 8, 8, 8, 8, 8, 8, 8, 8, 8, 8, 8, 8, 8, 8, 8, 8, 8, 8, 8, 8, 8, 8, 8, 8, 8, 8, 8, 8, 8, 8, 8, 8, 8, 8, 8, 8, 8, 8, 8, 8, 8, 8, 8, 8, 8, 8, 8, 8, 8, 8, 8, 8, 8, 8, 8, 8, 8, 8, 8, 8, 8, 8, 8, 8, 8, 8, 8, 8, 8, 8, 8, 8, 8, 8, 8, 8]⟩

set_option maxRecDepth 100000 in
theorem lenTab_size : lenTab.size = 256 := by decide +kernel

set_option maxRecDepth 100000 in
theorem lenTab_all : ∀ k : Fin 32, (lenTab.data[k.1]!).toNat = lv (k.1 + 1) := by decide +kernel

theorem lenTab_at (n : Nat) (h : n < 32) (h2 : n < lenTab.size) : (lenTab[n]).toNat = lv (n + 1) := by
  have e := lenTab_all ⟨n, h⟩
  have h3 : n < lenTab.data.size := h2
  simp only [getElem!_pos lenTab.data n h3] at e
  exact e

set_option maxRecDepth 100000 in
theorem len64_any (w : World) (n : Nat) (h : n < 32) :
    Calls Tryd.prog 56 #[.int .u64 (n : Int)] w fun e w' => e = .returned (.int .i64 ((lv (n + 1) : Nat) : Int)) ∧ w' = w := by
  have d1 : decide ((4294967296 : Int) ≤ n) = false := by simp; omega
  have d2 : decide ((65536 : Int) ≤ n) = false := by simp; omega
  have d3 : decide ((256 : Int) ≤ n) = false := by simp; omega
  go_enter Tryd.func56, Tryd.ntmps56
  go_wp2
  go_ret
  refine ⟨ret_int ?_, rfl⟩
  have e := lenTab_at n h (by rw [lenTab_size]; omega)
  have hl : lv (n + 1) ≤ 5 := by unfold lv; split; omega; split; omega; split; omega; split; omega; split; omega; omega
  change wrap64 (wrap64 (((lenTab[n]'(by rw [lenTab_size]; omega)).toNat : Nat) : Int)) = _
  rw [e]
  unfold wrap64
  omega

theorem len_any (w : World) (n : Nat) (h : n < 32) :
    Calls Tryd.prog 50 #[.int .u64 (n : Int)] w fun e w' => e = .returned (.int .i64 ((lv (n + 1) : Nat) : Int)) ∧ w' = w := by
  go_enter Tryd.func50, Tryd.ntmps50
  go_wp2_with (first
    | (go_at_call 56; refine (len64_any _ n h).mono ?_; rintro e w' ⟨rfl, rfl⟩))
  go_ret
  exact ⟨rfl, rfl⟩

theorem lv_le (z : Nat) : lv z ≤ 5 := by unfold lv; split; omega; split; omega; split; omega; split; omega; split; omega; omega

theorem lv_pow (z : Nat) (h : z ≤ 32) : z ≤ 2 ^ lv z := by
  unfold lv; split; omega; split; omega; split; omega; split; omega; split; omega; omega

/-- How wide a slot is. -/
theorem step_cases (z : Nat) : 2 ^ lv z = 1 ∨ 2 ^ lv z = 2 ∨ 2 ^ lv z = 4 ∨ 2 ^ lv z = 8 ∨ 2 ^ lv z = 16 ∨ 2 ^ lv z = 32 := by
  have := lv_le z
  have h : lv z = 0 ∨ lv z = 1 ∨ lv z = 2 ∨ lv z = 3 ∨ lv z = 4 ∨ lv z = 5 := by omega
  rcases h with h | h | h | h | h | h <;> rw [h] <;> decide

theorem step_next {k s : Nat} (hs : s = 1 ∨ s = 2 ∨ s = 4 ∨ s = 8 ∨ s = 16 ∨ s = 32) (h : k * s < 32) : k * s + s ≤ 32 := by
  rcases hs with rfl | rfl | rfl | rfl | rfl | rfl <;> omega

/-- So many bits from a place on are 0. -/
def Free (T p z : Nat) : Prop := ∀ j, j < z → T.testBit (p + j) = false

def slot (T p z : Nat) : Nat := (T / 2 ^ p) &&& (2 ^ z - 1)

theorem and_free (T p z : Nat) : slot T p z = 0 ↔ Free T p z := by
  unfold slot
  constructor
  · intro h j hj
    have e := congrArg (fun x => x.testBit j) h
    simp only [Nat.testBit_and, Nat.testBit_div_two_pow, Nat.testBit_two_pow_sub_one, Nat.zero_testBit, hj, decide_true, Bool.and_true] at e
    rw [Nat.add_comm]
    exact e
  · intro h
    apply Nat.eq_of_testBit_eq
    intro j
    simp only [Nat.testBit_and, Nat.testBit_div_two_pow, Nat.testBit_two_pow_sub_one, Nat.zero_testBit]
    by_cases hj : j < z
    · have := h j hj
      rw [Nat.add_comm] at this
      rw [this]; rfl
    · simp [hj]

theorem u32_slot (T p z : Nat) (hT : T < 4294967296) (hz : z ≤ 32) : bits .and .u32 ((T : Int) / 2 ^ p) ((ons z : Nat) : Int) = ((slot T p z : Nat) : Int) := by
  have e : (T : Int) / 2 ^ p = ((T / 2 ^ p : Nat) : Int) := by simp
  rw [e]
  have h1 : T / 2 ^ p ≤ T := Nat.div_le_self _ _
  have h2 := pow_le32 hz
  exact u32_and_nat _ _ (by omega) (by unfold ons; omega)

/-- What fit answers. -/
def FitSays (T z : Nat) (e : Ending) : Prop :=
  (∃ k, e = .returned (.tuple #[.int .i64 ((k * 2 ^ lv z : Nat) : Int), .bool true]) ∧ k * 2 ^ lv z < 32 ∧ Free T (k * 2 ^ lv z) z ∧ ∀ k', k' < k → ¬ Free T (k' * 2 ^ lv z) z) ∨
  (e = .returned (.tuple #[.int .i64 0, .bool false]) ∧ ∀ k', k' * 2 ^ lv z < 32 → ¬ Free T (k' * 2 ^ lv z) z)

set_option maxHeartbeats 1000000 in
theorem fit_any (w : World) (T z : Nat) (hT : T < 4294967296) (z0 : 1 ≤ z) (z1 : z ≤ 32) :
    Calls Tryd.prog 38 #[.int .u32 (T : Int), .int .i64 (z : Int)] w fun e w' => FitSays T z e ∧ Kept [] w w' := by
  have ez : z - 1 + 1 = z := by omega
  have hc : (z : Int) - 1 = ((z - 1 : Nat) : Int) := by omega
  obtain ⟨S, hS⟩ : ∃ S, 2 ^ lv z = S := ⟨_, rfl⟩
  have hcs := step_cases z
  rw [hS] at hcs
  have hw : wrap64 ((2 : Int) ^ min (lv z) 64) = (S : Int) := by
    have e : ((2 : Int) ^ min (lv z) 64) = ((2 ^ lv z : Nat) : Int) := by
      rw [show min (lv z) 64 = lv z from by have := lv_le z; omega]; simp
    rw [e, hS]
    unfold wrap64
    omega
  have HS : Hid (_) := hS
  clear hS
  have HC : Hid (_) := hcs
  clear hcs
  go_enter Tryd.func38, Tryd.ntmps38
  go_wp2_with (first
    | (go_at_call 50; refine (len_any _ (z - 1) (by omega)).mono ?_; rintro e w1 ⟨rfl, hw1⟩; subst hw1))
  rw [hw]
  clear hw
  go_loopw [7] (fun i wr => ∃ k : Nat, i = .int .i64 ((k * S : Nat) : Int) ∧ k * S ≤ 32 ∧ Hid ((∀ k', k' < k → ¬ Free T (k' * S) z) ∧ Kept [] w1 wr)) (fun i _ => (32 - intOf i).toNat)
  case atStart => exact ⟨0, by simp, by simp, fun k' h => by omega, Kept.refl _ _⟩
  case round =>
    obtain ⟨k, rfl, hk, HK⟩ := hrel
    by_cases hlt : k * S < 32
    · have i0 : ((k * S : Nat) : Int) < 32 := by omega
      have hn := step_next HC.out hlt
      have hs1 : 1 ≤ S := by have := HC.out; omega
      have hb := u32_slot T (k * S) z hT z1
      obtain ⟨bit, hbit⟩ : ∃ bit, k * S = bit := ⟨_, rfl⟩
      have HB : Hid (_) := hbit
      rw [hbit] at hlt i0 hn hb hk ⊢
      clear hbit
      by_cases hf : slot T bit z = 0
      · have t1 : (((slot T bit z : Nat) : Int) == 0) = true := by rw [hf]; rfl
        have HF : Hid (_) := hf
        clear hf
        go_wp2_with fail
        go_quiet ((go_at_call 51; exact Calls.quiet_of_same (ones_any _ z z1)))
        go_wp2
        go_ret2
        refine ⟨Or.inl ⟨k, ?_, ?_, ?_, ?_⟩, HK.out.2.drewN nq⟩
        · rw [HS.out, HB.out]; rfl
        · rw [HS.out, HB.out]; exact hlt
        · rw [HS.out, HB.out]; exact (and_free _ _ _).1 HF.out
        · rw [HS.out]; exact HK.out.1
      · have t1 : (((slot T bit z : Nat) : Int) == 0) = false := by
          simp only [beq_eq_false_iff_ne, ne_eq]; omega
        have HF : Hid (_) := hf
        clear hf
        go_wp2_with fail
        go_quiet ((go_at_call 51; exact Calls.quiet_of_same (ones_any _ z z1)))
        go_wp2
        go_roundw
        case rel =>
          refine ⟨k + 1, ?_, ?_, ?_, HK.out.2.drewN nq⟩
          · have := HB.out
            rw [Nat.add_mul, this]
            congr 1
            omega
          · have := HB.out
            rw [Nat.add_mul, this]
            omega
          · intro k' hk'
            by_cases he : k' = k
            · subst he
              rw [HB.out]
              exact fun h => HF.out ((and_free _ _ _).2 h)
            · exact HK.out.1 k' (by omega)
        case measure => simp [intOf]; omega
    · have i0 : ¬ ((k * S : Nat) : Int) < 32 := by omega
      go_wp2
      go_ret2
      refine ⟨Or.inr ⟨rfl, ?_⟩, HK.out.2⟩
      intro k' hk'
      rw [HS.out] at hk' ⊢
      exact HK.out.1 k' (by
        rcases Nat.lt_or_ge k' k with h | h
        · exact h
        · have := Nat.mul_le_mul_right S h
          omega)

end Go.Proofs.YtagnkdeeiligcaaDoor
