/-
  The document's own answers on names: Hash, Runes, Bucket, Check; what names have, told plainly.
-/
import Derived.Test.YtgfdcnjnkljahaaDoorRf
namespace Go.Proofs.YtgfdcnjnkljahaaDoor
open Go.RowKit
set_option linter.unusedVariables false

/-- The hash of runes, from h on. -/
def hashL (l : List (Int × Nat)) (h : Int) : Int := l.foldl (fun h r => (31 * h + r.1) % 4294967296) h

/-- A rune that no name may have. -/
def badR (x : Int × Nat) : Bool := x.2 == 0 || x.1 == 47 || decide (x.1 < 32) || x.1 == 127

/-- What Check answers. -/
def chk (s : ByteArray) : Int := if 12 < s.size then 801 else if s.toList = [] ∨ s.toList = [46] ∨ s.toList = [46, 46] then 800 else if (rs s 0).any badR then 800 else 0

theorem max1 (k : Nat) (W : World) : (Builtin.max_ #[3, 3] 3 #[.int .i64 (k : Int), .int .i64 1]).run Tryd.prog W = .ok (.int .i64 ((max k 1 : Nat) : Int)) W := by
  have e : (if (k : Int) < 1 then (1 : Int) else (k : Int)) = ((max k 1 : Nat) : Int) := by
    rw [Nat.max_def]; split <;> split <;> omega
  simp [Builtin.max_, Builtin.max2]
  exact e

theorem step_le {s : ByteArray} {i : Nat} (h : i < s.size) : i + max (one s i).2 1 ≤ s.size := by
  have := one_width s i h
  rw [Nat.max_def]; split <;> omega

set_option maxRecDepth 100000 in
set_option maxHeartbeats 1000000 in
set_option maxRecDepth 100000 in
set_option maxHeartbeats 1000000 in
theorem hashL_range (l : List (Int × Nat)) : ∀ h, 0 ≤ h ∧ h < 4294967296 → 0 ≤ hashL l h ∧ hashL l h < 4294967296 := by
  induction l with
  | nil => intro h hh; exact hh
  | cons x l ih => intro h hh; have := ih ((31 * h + x.1) % 4294967296) ⟨by omega, by omega⟩; exact this

theorem bad_yes {s : ByteArray} {j : Nat} (h : j < s.size) (hb : badR (one s j) = true) : (rs s j).any badR = true := by
  rw [rs_next h, List.any_cons, hb]; rfl

theorem bad_no {s : ByteArray} {j : Nat} (h : j < s.size) (hb : badR (one s j) = false) : (rs s (j + (one s j).2)).any badR = (rs s j).any badR ∧ 1 ≤ (one s j).2 := by
  have h1 : 1 ≤ (one s j).2 := by
    rcases Nat.eq_zero_or_pos (one s j).2 with h2 | h2
    · simp [badR, h2] at hb
    · exact h2
  refine ⟨?_, h1⟩
  rw [rs_next h, List.any_cons, hb, Nat.max_eq_left h1]; rfl

end Go.Proofs.YtgfdcnjnkljahaaDoor
