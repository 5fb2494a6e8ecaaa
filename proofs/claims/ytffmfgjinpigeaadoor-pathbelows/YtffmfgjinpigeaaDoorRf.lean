/-
  The document's own answers on names: next, rune1, Hash, Runes, Bucket.
-/
import Derived.Test.YtffmfgjinpigeaaDoorBase
import Derived.Test.YtffmfgjinpigeaaDoorU8
namespace Go.Proofs.YtffmfgjinpigeaaDoor
open Go.RowKit
set_option linter.unusedVariables false

theorem ret_int {k : IntKind} {x y : Int} (h : x = y) : Ending.returned (.int k x) = .returned (.int k y) := by rw [h]

theorem at8_get (s : ByteArray) (i : Nat) (h : i < s.size) : at8 s i = (s[i]'h).toNat := by
  unfold at8
  exact congrArg UInt8.toNat (get_at s i h)

set_option maxRecDepth 100000 in
theorem f_next (s : ByteArray) (i : Nat) (x : Int) (hx : x = (i : Int)) (w : World) :
    Calls Tryd.prog 35 #[.string s, .int .i64 x] w fun e w' => e = .returned (.int .i64 (goes s i)) ∧ w' = w := by
  subst hx
  by_cases h : i < s.size
  · have i0 : (0 : Int) ≤ (i : Int) := by omega
    have i1 : (i : Int) < (s.size : Int) := by omega
    have i2 : ¬ (s.size : Int) ≤ (i : Int) := by omega
    go_enter Tryd.func35, Tryd.ntmps35
    go_wp2_with fail
    all_goals
      go_ret
      refine ⟨ret_int ?_, rfl⟩
      unfold goes
      rw [at8_get s i h]
      first
        | (rw [if_pos (by omega)]; done)
        | (rw [if_neg (by omega)]; done)
  · have i2 : (s.size : Int) ≤ (i : Int) := by omega
    go_enter Tryd.func35, Tryd.ntmps35
    go_wp2_with fail
    go_ret
    refine ⟨ret_int ?_, rfl⟩
    unfold goes
    rw [if_neg (by omega)]

/-- The rune that four bytes make. -/
def oneOf (c a b d : Int) : Int × Nat :=
  if c < 128 then (c, 1)
  else if 194 ≤ c ∧ c ≤ 223 ∧ 0 ≤ a then ((c - 192) * 64 + a, 2)
  else if 224 ≤ c ∧ c ≤ 239 ∧ 0 ≤ a ∧ 0 ≤ b then
    if 2048 ≤ (c - 224) * 4096 + a * 64 + b ∧ ((c - 224) * 4096 + a * 64 + b < 55296 ∨ 57343 < (c - 224) * 4096 + a * 64 + b) then ((c - 224) * 4096 + a * 64 + b, 3) else (65533, 0)
  else if 240 ≤ c ∧ c ≤ 244 ∧ 0 ≤ a ∧ 0 ≤ b ∧ 0 ≤ d then
    if 65536 ≤ (c - 240) * 262144 + a * 4096 + b * 64 + d ∧ (c - 240) * 262144 + a * 4096 + b * 64 + d ≤ 1114111 then ((c - 240) * 262144 + a * 4096 + b * 64 + d, 4) else (65533, 0)
  else (65533, 0)

theorem one_of (s : ByteArray) (i : Nat) : one s i = oneOf (at8 s i) (goes s (i + 1)) (goes s (i + 2)) (goes s (i + 3)) := rfl

theorem goes_bounds (s : ByteArray) (i : Nat) : -1 ≤ goes s i ∧ goes s i ≤ 63 := by
  unfold goes
  split <;> omega

set_option maxRecDepth 100000 in
set_option maxHeartbeats 4000000 in
theorem f_rune1 (s : ByteArray) (i : Nat) (w : World) (h : i < s.size) (hs : s.size ≤ 9223372036854775000) :
    Calls Tryd.prog 28 #[.string s, .int .i64 (i : Int)] w fun e w' => e = .returned (.tuple #[.int .i64 (one s i).1, .int .i64 ((one s i).2 : Int)]) ∧ w' = w := by
  have i0 : (0 : Int) ≤ (i : Int) := by omega
  have i1 : (i : Int) < (s.size : Int) := by omega
  have hc := at8_get s i h
  have hc2 := at8_lt s i
  rw [one_of]
  have g1 := goes_bounds s (i + 1)
  have g2 := goes_bounds s (i + 2)
  have g3 := goes_bounds s (i + 3)
  obtain ⟨a, ha⟩ : ∃ a, goes s (i + 1) = a := ⟨_, rfl⟩
  obtain ⟨b, hb⟩ : ∃ b, goes s (i + 2) = b := ⟨_, rfl⟩
  obtain ⟨d, hd⟩ : ∃ d, goes s (i + 3) = d := ⟨_, rfl⟩
  obtain ⟨c, hcc⟩ : ∃ c : Nat, (s[i]'h).toNat = c := ⟨_, rfl⟩
  rw [ha, hb, hd, hc, hcc]
  rw [ha] at g1
  rw [hb] at g2
  rw [hd] at g3
  rw [hc, hcc] at hc2
  obtain ⟨g1, g1'⟩ := g1
  obtain ⟨g2, g2'⟩ := g2
  obtain ⟨g3, g3'⟩ := g3
  have HH : Hid (_ ∧ _ ∧ _ ∧ _) := ⟨ha, hb, hd, hcc⟩
  clear ha hb hd hc
  go_enter Tryd.func28, Tryd.ntmps28
  go_wp2_with fail
  refine (f_next s (i + 1) _ (by omega) w).mono ?_
  rintro e w1 ⟨rfl, rfl⟩
  rw [HH.out.1]
  go_wp2_with fail
  refine (f_next s (i + 2) _ (by omega) w1).mono ?_
  rintro e w2 ⟨rfl, rfl⟩
  rw [HH.out.2.1]
  go_wp2_with fail
  refine (f_next s (i + 3) _ (by omega) w2).mono ?_
  rintro e w1 ⟨rfl, rfl⟩
  rw [HH.out.2.2.1]
  go_wp2_with fail
  all_goals
    go_ret2
    unfold oneOf
    (repeat (first | rw [if_pos (by omega)] | rw [if_neg (by omega)]))
    exact ⟨rfl, rfl⟩

end Go.Proofs.YtffmfgjinpigeaaDoor
