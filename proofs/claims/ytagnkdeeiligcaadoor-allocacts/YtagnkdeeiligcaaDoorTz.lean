/-
  TrailingZeros32, by its table (the variable math/bits.deBruijn32tab).
-/
import Derived.Test.YtagnkdeeiligcaaDoorOnes
namespace Go.Proofs.YtagnkdeeiligcaaDoor
open Go.RowKit

def tab (i : Nat) : Int := [0, 1, 28, 2, 29, 14, 24, 3, 30, 22, 20, 15, 25, 17, 4, 8, 31, 27, 13, 23, 21, 19, 16, 7, 26, 12, 18, 6, 11, 5, 10, 9].getD i 0

/-- The table lies where it is laid. -/
def Tab (w : World) : Prop := ∀ i, i < 32 → w.cell? ⟨0, i, none⟩ = some (.int .u8 (tab i))

theorem Tab.kept {F : List Nat} {w w' : World} (h : Tab w) (k : Kept F w w') (hF : 0 ∉ F) : Tab w' := fun i hi => k.cell (h i hi) hF

/-- t is the lowest bit of x that is set. -/
def Low (x t : Nat) : Prop := x.testBit t = true ∧ ∀ j, j < t → x.testBit j = false

theorem low_mod {x t : Nat} (h : Low x t) : x % 2 ^ (t + 1) = 2 ^ t := by
  apply Nat.eq_of_testBit_eq
  intro j
  rw [Nat.testBit_mod_two_pow, Nat.testBit_two_pow]
  by_cases h1 : j < t
  · rw [h.2 j h1]; simp; omega
  · by_cases h2 : j = t
    · subst h2; rw [h.1]; simp
    · have h3 : ¬ j < t + 1 := by omega
      have h4 : ¬ t = j := by omega
      simp [h3, h4]

theorem low_form {x t : Nat} (h : Low x t) : ∃ q, x = 2 ^ (t + 1) * q + 2 ^ t :=
  ⟨x / 2 ^ (t + 1), by have := Nat.div_add_mod x (2 ^ (t + 1)); rw [low_mod h] at this; exact this.symm⟩

theorem and_neg {x t : Nat} (hx : x < 4294967296) (h : Low x t) : x &&& (4294967296 - x) = 2 ^ t := by
  obtain ⟨q, hq⟩ := low_form h
  have hp : 1 ≤ 2 ^ t := Nat.one_le_two_pow
  have hp2 : 2 ^ t < 2 ^ (t + 1) := by rw [Nat.pow_succ]; omega
  have h1 : x - 1 = 2 ^ (t + 1) * q + (2 ^ t - 1) := by omega
  have h2 : 4294967296 - x = 2 ^ 32 - ((x - 1) + 1) := by omega
  have ht : t < 32 := by
    rcases Nat.lt_or_ge t 32 with h | h
    · exact h
    · have := Nat.pow_le_pow_right (n := 2) (by omega) h
      omega
  rw [h2]
  apply Nat.eq_of_testBit_eq
  intro j
  rw [Nat.testBit_and, Nat.testBit_two_pow_sub_succ (by omega), h1, Nat.testBit_two_pow_mul_add _ (by omega), Nat.testBit_two_pow_sub_one]
  conv => lhs; arg 1; rw [hq, Nat.testBit_two_pow_mul_add _ hp2, Nat.testBit_two_pow]
  rw [Nat.testBit_two_pow]
  by_cases h3 : j < t + 1
  · rw [if_pos h3, if_pos h3]
    by_cases h4 : t = j
    · subst h4; simp; exact ht
    · simp [h4]
  · rw [if_neg h3, if_neg h3]
    have h4 : ¬ t = j := by omega
    simp only [h4, decide_false]
    cases q.testBit (j - (t + 1)) <;> simp

theorem tab_low : ∀ t : Fin 32, tab ((2 ^ t.1 * 125613361 % 4294967296 / 134217728)) = (t.1 : Int) := by decide +kernel
theorem tab_fits : ∀ t : Fin 32, 2 ^ t.1 * 125613361 % 4294967296 / 134217728 < 32 := by decide +kernel

theorem tab_ix (t : Nat) (ht : t < 32) : ∃ ix : Nat, (((2 ^ t : Nat) : Int) * 125613361 % 4294967296 / 134217728) = (ix : Int) ∧ ix < 32 ∧ tab ix = (t : Int) := by
  refine ⟨2 ^ t * 125613361 % 4294967296 / 134217728, ?_, tab_fits ⟨t, ht⟩, tab_low ⟨t, ht⟩⟩
  generalize 2 ^ t = m
  simp

theorem tz_zero (w : World) :
    Calls Tryd.prog 54 #[.int .u32 0] w fun e w' => e = .returned (.int .i64 32) ∧ w' = w := by
  go_enter Tryd.func54, Tryd.ntmps54
  go_wp2
  go_ret
  exact ⟨rfl, rfl⟩

theorem tz_low {w : World} (hT : Tab w) {x t : Nat} (hx : x < 4294967296) (ht : t < 32) (h : Low x t) :
    Calls Tryd.prog 54 #[.int .u32 (x : Int)] w fun e w' => e = .returned (.int .i64 (t : Int)) ∧ w' = w := by
  have hx0 : x ≠ 0 := by intro e; subst e; have := h.1; simp at this
  have b0 : ((x : Int) == 0) = false := by simp only [beq_eq_false_iff_ne, ne_eq]; omega
  have e1 : bits .and .u32 (x : Int) (-(x : Int) % 4294967296) = ((2 ^ t : Nat) : Int) := by
    have e : -(x : Int) % 4294967296 = ((4294967296 - x : Nat) : Int) := by omega
    rw [e, u32_and_nat _ _ hx (by omega), and_neg hx h]
  obtain ⟨ix, hix, hlt, htab⟩ := tab_ix t ht
  have hc := hT ix hlt
  rw [htab] at hc
  have hl2 : (ix : Int) < 32 := by omega
  clear htab
  generalize ((2 ^ t : Nat) : Int) = m at *
  have HT : Hid (_) := hT
  clear hT
  go_enter Tryd.func54, Tryd.ntmps54
  go_wp2
  go_ret
  exact ⟨rfl, rfl⟩

end Go.Proofs.YtagnkdeeiligcaaDoor
