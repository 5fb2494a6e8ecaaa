/-
  The small ones: Num, wrongCore, Words, Cores.
-/
import Derived.Test.YtolbjmckebicfaaBase
import Derived.Deep.RegionHeld3
import Derived.Deep.RegionLaw
import Derived.Deep.QuietTactic
import Derived.BigQuiet
namespace Go.Proofs.Ytolbjmckebicfaa
open Go.RowKit

theorem num (n : Int) (w : World) : Calls Try.prog 8 #[.int .i64 n] w fun e w' => e = .returned (.int .i64 n) ∧ w' = w := by
  go_enter Try.func8, Try.ntmps8
  go_wp2
  go_ret
  exact ⟨rfl, rfl⟩

theorem core_yes {w : World} {p : Ap} {A : Ar} (h : ArIs 52 w p A) (c : Nat) (hc : c < A.traces.length) :
    Calls Try.prog 22 #[.pointer (some ⟨p.b, 0, none⟩), .int .i64 (c : Int)] w fun e w' => e = .returned (.int .i64 0) ∧ w' = w := by
  obtain ⟨c0, c1⟩ := h.cell
  have d1 : decide ((c : Int) < 0) = false := by simp
  have d2 : decide ((A.traces.length : Int) ≤ (c : Int)) = false := by simp; omega
  have i1 : (c : Int) < (A.traces.length : Int) := by omega
  go_enter Try.func22, Try.ntmps22
  go_wp2
  go_ret
  exact ⟨rfl, rfl⟩

theorem core_no {w : World} {p : Ap} {A : Ar} (h : ArIs 52 w p A) (c : Int) (hc : c < 0 ∨ (A.traces.length : Int) ≤ c) :
    Calls Try.prog 22 #[.pointer (some ⟨p.b, 0, none⟩), .int .i64 c] w fun e w' => e = .returned (.int .i64 202) ∧ w' = w := by
  obtain ⟨c0, c1⟩ := h.cell
  by_cases h0 : c < 0
  · have d1 : decide (c < 0) = true := by simp; omega
    go_enter Try.func22, Try.ntmps22
    go_wp2
    go_ret
    exact ⟨rfl, rfl⟩
  · have d1 : decide (c < 0) = false := by simp; omega
    have d2 : decide ((A.traces.length : Int) ≤ c) = true := by simp; omega
    have i1 : ¬ c < (A.traces.length : Int) := by omega
    go_enter Try.func22, Try.ntmps22
    go_wp2
    go_ret
    exact ⟨rfl, rfl⟩

theorem cores_any {w : World} {p : Ap} {A : Ar} (h : ArIs 52 w p A) :
    Calls Try.prog 19 #[.pointer (some ⟨p.b, 0, none⟩)] w fun e w' => e = .returned (.int .i64 (A.traces.length : Int)) ∧ w' = w := by
  obtain ⟨c0, c1⟩ := h.cell
  go_enter Try.func19, Try.ntmps19
  go_wp2
  go_ret
  exact ⟨rfl, rfl⟩

end Go.Proofs.Ytolbjmckebicfaa
