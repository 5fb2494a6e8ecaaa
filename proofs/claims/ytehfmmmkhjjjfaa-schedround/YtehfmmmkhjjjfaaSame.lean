/-
  SameBools, SameInts: of the same contents.
-/
import Derived.Test.YtehfmmmkhjjjfaaLeaf
namespace Go.Proofs.Ytehfmmmkhjjjfaa
open Go.RowKit
set_option linter.unusedSimpArgs false
set_option linter.unusedVariables false

set_option maxHeartbeats 1000000 in
theorem sameInts {w : World} {a1 a2 : Option Addr} {n c1 c2 : Nat} {Z : Nat → Int} (h1 : Il w a1 n Z) (h2 : Il w a2 n Z) (hn : n ≤ 1048576) :
    Calls Try.prog 12 #[.slice a1 n c1, .slice a2 n c2] w fun e w' => e = .returned (.bool true) ∧ Still w w' := by
  have t1 : ((n : Int) != (n : Int)) = false := by simp
  have HH : Hid (_ ∧ _) := ⟨h1, h2⟩
  clear h1 h2
  go_enter Try.func12, Try.ntmps12
  go_wp2_with fail
  go_loopw [5] (fun i wr => ∃ k : Nat, k ≤ n ∧ i = .int .i64 (k : Int) ∧ Hid (Still w wr)) (fun i _ => (n - intOf i).toNat)
  case atStart => exact ⟨0, by omega, rfl, Below.refl _ _⟩
  case round =>
    obtain ⟨k, hk, rfl, HK⟩ := hrel
    by_cases hlt : k < n
    · have k0 : (0 : Int) ≤ (k : Int) := by omega
      have k1 : (k : Int) < (n : Int) := by omega
      obtain ⟨b, off, rfl, x0⟩ := HH.out.1 k hlt
      obtain ⟨b', off', rfl, y0⟩ := HH.out.2 k hlt
      have x1 := cell_still HK.out x0
      have y1 := cell_still HK.out y0
      clear x0 y0
      generalize Z k = z at x1 y1
      go_wp2_with fail
      go_quiet (fail)
      go_wp2
      go_roundw
      case rel => exact ⟨k + 1, by omega, by go_num, Below.drewN HK.out nq⟩
      case measure => simp [intOf]; omega
    · have k1 : ¬ (k : Int) < (n : Int) := by omega
      go_wp2
      go_ret
      exact ⟨rfl, HK.out⟩

set_option maxHeartbeats 1000000 in
theorem sameBools {w : World} {a1 a2 : Option Addr} {n c1 c2 : Nat} {Z : Nat → Bool} (h1 : Bl w a1 n Z) (h2 : Bl w a2 n Z) (hn : n ≤ 1048576) :
    Calls Try.prog 11 #[.slice a1 n c1, .slice a2 n c2] w fun e w' => e = .returned (.bool true) ∧ Still w w' := by
  have t1 : ((n : Int) != (n : Int)) = false := by simp
  have HH : Hid (_ ∧ _) := ⟨h1, h2⟩
  clear h1 h2
  go_enter Try.func11, Try.ntmps11
  go_wp2_with fail
  go_loopw [5] (fun i wr => ∃ k : Nat, k ≤ n ∧ i = .int .i64 (k : Int) ∧ Hid (Still w wr)) (fun i _ => (n - intOf i).toNat)
  case atStart => exact ⟨0, by omega, rfl, Below.refl _ _⟩
  case round =>
    obtain ⟨k, hk, rfl, HK⟩ := hrel
    by_cases hlt : k < n
    · have k0 : (0 : Int) ≤ (k : Int) := by omega
      have k1 : (k : Int) < (n : Int) := by omega
      obtain ⟨b, off, rfl, x0⟩ := HH.out.1 k hlt
      obtain ⟨b', off', rfl, y0⟩ := HH.out.2 k hlt
      have x1 := cell_still HK.out x0
      have y1 := cell_still HK.out y0
      clear x0 y0
      generalize Z k = z at x1 y1
      go_wp2_with fail
      go_quiet (fail)
      go_wp2
      go_roundw
      case rel => exact ⟨k + 1, by omega, by go_num, Below.drewN HK.out nq⟩
      case measure => simp [intOf]; omega
    · have k1 : ¬ (k : Int) < (n : Int) := by omega
      go_wp2
      go_ret
      exact ⟨rfl, HK.out⟩

end Go.Proofs.Ytehfmmmkhjjjfaa
