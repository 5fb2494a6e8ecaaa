/-
  What Code answers of each error.
-/
import Derived.Test.YtffmfgjinpigeaaDoorSt
namespace Go.Proofs.YtffmfgjinpigeaaDoor
open Go.RowKit
set_option linter.unusedVariables false

theorem code0 (w : World) : Calls Tryd.prog 13 #[.int .i64 0] w fun r w' => r = .returned (.int .i64 0) ∧ w' = w := p_code 0 (by unfold codes; omega) w

theorem code1100 (w : World) : Calls Tryd.prog 13 #[.int .i64 1100] w fun r w' => r = .returned (.int .i64 9) ∧ w' = w := p_code 1100 (by unfold codes; omega) w

theorem code1101 (w : World) : Calls Tryd.prog 13 #[.int .i64 1101] w fun r w' => r = .returned (.int .i64 6) ∧ w' = w := p_code 1101 (by unfold codes; omega) w

theorem code1102 (w : World) : Calls Tryd.prog 13 #[.int .i64 1102] w fun r w' => r = .returned (.int .i64 6) ∧ w' = w := p_code 1102 (by unfold codes; omega) w

theorem less6 (which : Int) : wrap64 ((IntKind.u64.wrap which).tmod 6) = 0 ∨ wrap64 ((IntKind.u64.wrap which).tmod 6) = 1 ∨ wrap64 ((IntKind.u64.wrap which).tmod 6) = 2 ∨ wrap64 ((IntKind.u64.wrap which).tmod 6) = 3 ∨ wrap64 ((IntKind.u64.wrap which).tmod 6) = 4 ∨ wrap64 ((IntKind.u64.wrap which).tmod 6) = 5 := by
  have h1 : 0 ≤ IntKind.u64.wrap which := by rw [IntKind.wrap_u64]; omega
  rw [Int.tmod_eq_emod_of_nonneg h1]
  unfold wrap64
  omega

end Go.Proofs.YtffmfgjinpigeaaDoor
