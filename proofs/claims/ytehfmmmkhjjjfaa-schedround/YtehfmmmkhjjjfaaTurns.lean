/-
  Turns, and the reference's Turns.
-/
import Derived.Test.YtehfmmmkhjjjfaaLeaf
namespace Go.Proofs.Ytehfmmmkhjjjfaa
open Go.RowKit
set_option linter.unusedSimpArgs false
set_option linter.unusedVariables false

/-- The first n picks modulo c. -/
def turns (Z : Nat → Int) (c : Int) : Nat → List Int
  | 0 => []
  | k + 1 => turns Z c k ++ [umod (Z k) c]

theorem turns_length (Z : Nat → Int) (c : Int) : ∀ n, (turns Z c n).length = n
  | 0 => rfl
  | k + 1 => by simp [turns, turns_length Z c k]

theorem turns_no {w : World} {a : Option Addr} {n cp : Nat} (c : Int) (hc : c < 1) :
    Calls Try.prog 13 #[.int .i64 c, .slice a n cp] w fun e w' => e = .returned (.slice none 0 0) ∧ w' = w := by
  go_enter Try.func13, Try.ntmps13
  go_wp2
  go_ret
  exact ⟨rfl, rfl⟩

set_option maxHeartbeats 1000000 in
theorem turns_yes {w : World} {a : Option Addr} {n cp : Nat} {Z : Nat → Int} (h : Il w a n Z) (hn : n ≤ 1048576) (c : Int) (hc : 1 ≤ c) (hc2 : c ≤ 9223372036854775807) :
    Calls Try.prog 13 #[.int .i64 c, .slice a n cp] w fun e w' => ∃ v, e = .returned v ∧ Own w' w.heap.size v (turns Z c n) ∧ Still w w' := by
  have HB : Hid (_) := h
  clear h
  obtain ⟨i0, hi, hz0, hz1, hz2⟩ := info_parts info3
  go_enter Try.func13, Try.ntmps13
  go_wp2_with (first
    | (at_make; refine wpList_make_own _ rfl _ _ 23 rfl w.heap.size 3 i0 (.int .i64 0) 1 Try.underlying23 hi hz0 hz1 _ _ _ n rfl rfl rfl ?b1 ?b2 (by simp) ?_))
  case b1 => rw [hz2]; omega
  case b2 => unfold maxLen; omega
  intro w1 hown hgrow
  have HI : Hid (Own w1 w.heap.size (.slice (some ⟨w.heap.size, 0, none⟩) 0 n) (turns Z c 0) ∧ Still w w1) := ⟨hown, (Below.refl _ _).grown hgrow (Nat.le_refl _) (fun k hk => by cases hk)⟩
  clear hown hgrow
  go_wp2_with fail
  go_loopw [5, 15] (fun v i wr => ∃ k : Nat, k ≤ n ∧ i = .int .i64 (k : Int) ∧ Hid (Own wr w.heap.size v (turns Z c k) ∧ Still w wr)) (fun _ i _ => (n - intOf i).toNat)
  case atStart => exact ⟨0, by omega, rfl, HI⟩
  case round =>
    clear HI
    obtain ⟨k, hk, rfl, HR⟩ := hrel
    by_cases hlt : k < n
    · have k0 : (0 : Int) ≤ (k : Int) := by omega
      have k1 : (k : Int) < (n : Int) := by omega
      obtain ⟨b, off, rfl, hc0⟩ := HB.out k hlt
      have hcell := cell_still HR.out.2 hc0
      clear hc0
      obtain ⟨y, hy⟩ : ∃ y, umod (Z k) c = y := ⟨_, rfl⟩
      have hkl : (turns Z c k).length + 1 ≤ 1048576 := by have := turns_length Z c k; omega
      obtain ⟨hO, hS⟩ := HR.out
      have hO' := World.ownsRow.alloc hO (.cells #[.int .i64 y] 3)
      have hB1 : w.heap.size ≤ (wr.alloc (.cells #[.int .i64 y] 3)).heap.size := by have := hS.size; simp; omega
      have HS : Hid (Still w (wr.alloc (.cells #[.int .i64 y] 3))) := hS.alloc hS.size _
      have HY : Hid (_ = _) := hy
      clear hO hS HR hy
      go_wp2_with (first
        | (go_at_call 22; refine (modulo _ _ _ hc hc2).mono ?_; rintro e w' ⟨rfl, rfl⟩; rw [HY.out])
        | (at_builtin; refine wpList_append_lies _ rfl _ _ 23 rfl w.heap.size 3 i0 (.int .i64 0) 1 8 Try.underlying23 hi hz0 hz1 hz2 rfl (by omega) _ _ _ rfl hO' ⟨_, 0, none⟩ 1 1 [.int .i64 y] rfl rfl (cell_one_new _ _ _) (by simp [Value.oneCell']) (by omega) ?h63 ?hby hB1 _ rfl ?_))
      case h63 => unfold maxLen; omega
      case hby => omega
      intro g cap w1 hown hgrow hat hltg
      have HN : Hid (Own w1 w.heap.size (.slice (some ⟨g, 0, none⟩) ((turns Z c k).length + 1) cap) (turns Z c (k + 1)) ∧ Still w w1) := ⟨by
        simp only [turns, HY.out]
        exact Own.more hown, HS.out.grown hgrow hB1 (fun x hx => (World.ownsRow.lt hO' x hx).1)⟩
      clear hown hgrow hat hltg hO' HS
      go_wp2_with fail
      go_roundw
      case rel => exact ⟨k + 1, by omega, by go_num, HN⟩
      case measure => simp [intOf]; omega
    · have k1 : ¬ (k : Int) < (n : Int) := by omega
      have : k = n := by omega
      subst this
      go_wp2
      go_ret
      exact ⟨_, rfl, HR.out⟩

theorem rturns_no {w : World} {a : Option Addr} {n cp : Nat} (c : Int) (hc : c < 1) :
    Calls Try.prog 14 #[.int .i64 c, .slice a n cp] w fun e w' => e = .returned (.slice none 0 0) ∧ w' = w := by
  have hc1 : decide (1 ≤ c) = false := by simp; omega
  go_enter Try.func14, Try.ntmps14
  go_wp2_with fail
  go_loopw [5, 6] (fun v i wr => v = .slice none 0 0 ∧ i = .int .i64 0 ∧ wr = w) (fun _ _ _ => 0)
  case atStart => exact ⟨rfl, rfl, rfl⟩
  case round =>
    obtain ⟨rfl, rfl, rfl⟩ := hrel
    by_cases h0 : 0 < n
    · have k1 : (0 : Int) < (n : Int) := by omega
      go_wp2
      go_ret
      exact ⟨rfl, rfl⟩
    · have k1 : ¬ (0 : Int) < (n : Int) := by omega
      go_wp2
      go_ret
      exact ⟨rfl, rfl⟩

set_option maxHeartbeats 1000000 in
theorem rturns_yes {w : World} {a : Option Addr} {n cp : Nat} {Z : Nat → Int} (h : Il w a n Z) (hn : n ≤ 1048576) (c : Int) (hc : 1 ≤ c) (hc2 : c ≤ 9223372036854775807) :
    Calls Try.prog 14 #[.int .i64 c, .slice a n cp] w fun e w' => ∃ v, e = .returned v ∧ Own w' w.heap.size v (turns Z c n) ∧ Still w w' := by
  have HB : Hid (_) := h
  clear h
  have hc1 : decide (1 ≤ c) = true := by simp; omega
  obtain ⟨i0, hi, hz0, hz1, hz2⟩ := info_parts info3
  go_enter Try.func14, Try.ntmps14
  go_wp2_with fail
  go_loopw [5, 6] (fun v i wr => ∃ k : Nat, k ≤ n ∧ i = .int .i64 (k : Int) ∧ Hid (Own wr w.heap.size v (turns Z c k) ∧ Still w wr)) (fun _ i _ => (n - intOf i).toNat)
  case atStart => exact ⟨0, by omega, rfl, Own.nil _ _, Below.refl _ _⟩
  case round =>
    obtain ⟨k, hk, rfl, HR⟩ := hrel
    by_cases hlt : k < n
    · have k0 : (0 : Int) ≤ (k : Int) := by omega
      have k1 : (k : Int) < (n : Int) := by omega
      obtain ⟨b, off, rfl, hc0⟩ := HB.out k hlt
      have hcell := cell_still HR.out.2 hc0
      clear hc0
      have hy := umod_wrap (Z k) c hc hc2
      have hkl : (turns Z c k).length + 1 ≤ 1048576 := by have := turns_length Z c k; omega
      obtain ⟨hO, hS⟩ := HR.out
      have hO' := World.ownsRow.alloc hO (.cells #[.int .i64 (umod (Z k) c)] 3)
      have hB1 : w.heap.size ≤ (wr.alloc (.cells #[.int .i64 (umod (Z k) c)] 3)).heap.size := by have := hS.size; simp; omega
      have HS : Hid (Still w (wr.alloc (.cells #[.int .i64 (umod (Z k) c)] 3))) := hS.alloc hS.size _
      clear hO hS HR
      go_wp2_with (first
        | (at_builtin; refine wpList_append_lies _ rfl _ _ 23 rfl w.heap.size 3 i0 (.int .i64 0) 1 8 Try.underlying23 hi hz0 hz1 hz2 rfl (by omega) _ _ _ rfl hO' ⟨_, 0, none⟩ 1 1 [.int .i64 (umod (Z k) c)] rfl rfl (cell_one_new _ _ _) (by simp [Value.oneCell']) (by omega) ?h63 ?hby hB1 _ rfl ?_))
      case h63 => unfold maxLen; omega
      case hby => omega
      intro g cap w1 hown hgrow hat hltg
      have HN : Hid (Own w1 w.heap.size (.slice (some ⟨g, 0, none⟩) ((turns Z c k).length + 1) cap) (turns Z c (k + 1)) ∧ Still w w1) := ⟨by
        simp only [turns]
        exact Own.more hown, HS.out.grown hgrow hB1 (fun x hx => (World.ownsRow.lt hO' x hx).1)⟩
      clear hown hgrow hat hltg hO' HS hy
      go_wp2_with fail
      go_roundw
      case rel => exact ⟨k + 1, by omega, by go_num, HN⟩
      case measure => simp [intOf]; omega
    · have k1 : ¬ (k : Int) < (n : Int) := by omega
      have : k = n := by omega
      subst this
      go_wp2
      go_ret
      exact ⟨_, rfl, HR.out⟩

end Go.Proofs.Ytehfmmmkhjjjfaa
