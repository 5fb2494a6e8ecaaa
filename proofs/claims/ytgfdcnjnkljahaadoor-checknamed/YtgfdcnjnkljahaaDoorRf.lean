/-
  The document's own answers on names: next, rune1, Hash, Runes, Bucket.
-/
import Derived.Test.YtgfdcnjnkljahaaDoorBase
import Derived.Test.YtgfdcnjnkljahaaDoorU8
namespace Go.Proofs.YtgfdcnjnkljahaaDoor
open Go.RowKit
set_option linter.unusedVariables false

theorem ret_int {k : IntKind} {x y : Int} (h : x = y) : Ending.returned (.int k x) = .returned (.int k y) := by rw [h]

theorem at8_get (s : ByteArray) (i : Nat) (h : i < s.size) : at8 s i = (s[i]'h).toNat := by
  unfold at8
  exact congrArg UInt8.toNat (get_at s i h)

/-- The rune that four bytes make. -/
def oneOf (c a b d : Int) : Int × Nat :=
  if c < 128 then (c, 1)
  else if 194 ≤ c ∧ c ≤ 223 ∧ 0 ≤ a then ((c - 192) * 64 + a, 2)
  else if 224 ≤ c ∧ c ≤ 239 ∧ 0 ≤ a ∧ 0 ≤ b then
    if 2048 ≤ (c - 224) * 4096 + a * 64 + b ∧ ((c - 224) * 4096 + a * 64 + b < 55296 ∨ 57343 < (c - 224) * 4096 + a * 64 + b) then ((c - 224) * 4096 + a * 64 + b, 3) else (65533, 0)
  else if 240 ≤ c ∧ c ≤ 244 ∧ 0 ≤ a ∧ 0 ≤ b ∧ 0 ≤ d then
    if 65536 ≤ (c - 240) * 262144 + a * 4096 + b * 64 + d ∧ (c - 240) * 262144 + a * 4096 + b * 64 + d ≤ 1114111 then ((c - 240) * 262144 + a * 4096 + b * 64 + d, 4) else (65533, 0)
  else (65533, 0)

theorem one_of (s : ByteArray) (i : Nat) : one s i = oneOf (at8 s i) (goes s (i + 1)) (goes s (i + 2)) (goes s (i + 3)) := rfl

theorem goes_bounds (s : ByteArray) (i : Nat) : -1 ≤ goes s i ∧ goes s i ≤ 63 := by
  unfold goes
  split <;> omega

end Go.Proofs.YtgfdcnjnkljahaaDoor
