/-
  Joined of my texts Dw.
-/
import Derived.Test.YtejadbpfkeeooaaGreatDoorJ45
import Derived.Test.YtejadbpfkeeooaaGreatDoorJ46
import Derived.Test.YtejadbpfkeeooaaGreatDoorJ47
import Derived.Test.YtejadbpfkeeooaaGreatDoorJ48
namespace Go.Proofs.YtejadbpfkeeooaaGreatDoor
open Go.RowKit
theorem deep_any {w : World} (hT : Tab w) (many : Int) (file : Bool) :
   Calls Tryz.prog 6 #[.int .i64 many, .bool file] w fun e w' => e = .returned (.bool true) ∧ Kept [] w w' := by
 have h0 : bits .and .i64 many 3 = 0 ∨ bits .and .i64 many 3 = 1 ∨ bits .and .i64 many 3 = 2 ∨ bits .and .i64 many 3 = 3 := by
   rw [i64_and3]; omega
 rcases h0 with h | h | h | h <;> cases file
 · exact deep1d hT many h
 · exact deep1f hT many h
 · exact deep2d hT many h
 · exact deep2f hT many h
 · exact deep3d hT many h
 · exact deep3f hT many h
 · exact deep4d hT many h
 · exact deep4f hT many h
theorem deep_walk (a0 : Int) (a1 : Bool) (w : World) (hT : Tab w) (_ : (Lit.int .i64 a0).wf = true) :
   Calls Tryz.prog 6 #[.int .i64 a0, .bool a1] w fun e w' => e = .returned (.bool true) ∧ Below w.heap.size w w' :=
 (deep_any hT a0 a1).mono fun _ _ h => ⟨h.1, h.2.below (Nat.le_refl _) (by simp)⟩
end Go.Proofs.YtejadbpfkeeooaaGreatDoor
