/-
  DERIVED. GIVEN WITH THE SEED: THE CARDS: each row of YtffncojcnbhblaaGreatDoorRows.lean that lists a variable, with what it lists TIED to the program's text (the seventh form; the later family's looks); each row that meets fmt, with fmt's text TOLD by the authors' own Lean function (tested against real Go, not proved from fmt's source: count such statements apart). THE CARD IS WHAT COUNTS. Prove the row's statement (the work); the ties are given (YtffncojcnbhblaaGreatDoorTie.lean); close each card by the builder's one call (the guide's Derived/Test/ToyasCard.lean, 'card_holds'). Laid BY PROGRAM, IN A SANDBOX (cutbox-door.mjs). By AI agents, Wed Nov 11 2026. No macro, syntax, notation, axiom, sorry.
-/
import Derived.Test.YtffncojcnbhblaaGreatDoorRows
import GoSem.ClaimSeven
namespace Go.Proofs.YtffncojcnbhblaaGreatDoor
namespace Rows

/-- THE TIED CARD OF 'concourselaw13.ModelWrites'. -/
def modelWritesCard : Claim7 := { stood := { row := modelWritesRow, standIns := [], harness := (true, "de0f71915caa7670c23c075becafd72b97a9e7f71fe861b228eb8dbbd83cce6b"), looks := true }, kinds := [], alts := [], laidByText := true, laidKinds := [.data, .pinned], laidTests := true, laidLooks := .later }
def ModelWritesCardSaid : Prop := Claim7.holds Tryz.pinned (.plain (OpenSpec.ofChange modelWritesSpec)) modelWritesCard

/-- THE TIED CARD OF 'concourselaw13.ModelLists'. -/
def modelListsCard : Claim7 := { stood := { row := modelListsRow, standIns := [], harness := (true, "de0f71915caa7670c23c075becafd72b97a9e7f71fe861b228eb8dbbd83cce6b"), looks := true }, kinds := [], alts := [], laidByText := true, laidKinds := [.data, .pinned], laidTests := true, laidLooks := .later }
def ModelListsCardSaid : Prop := Claim7.holds Tryz.pinned (.plain (OpenSpec.ofChange modelListsSpec)) modelListsCard

/-- THE TIED CARD OF 'concourselaw13.ModelCodes'. -/
def modelCodesCard : Claim7 := { stood := { row := modelCodesRow, standIns := [], harness := (true, "de0f71915caa7670c23c075becafd72b97a9e7f71fe861b228eb8dbbd83cce6b"), looks := true }, kinds := [], alts := [], laidByText := true, laidKinds := [.data, .pinned], laidTests := true, laidLooks := .later }
def ModelCodesCardSaid : Prop := Claim7.holds Tryz.pinned (.plain (OpenSpec.ofChange modelCodesSpec)) modelCodesCard

/-- THE TIED CARD OF 'concourselaw13.ModelFiles'. -/
def modelFilesCard : Claim7 := { stood := { row := modelFilesRow, standIns := [], harness := (true, "de0f71915caa7670c23c075becafd72b97a9e7f71fe861b228eb8dbbd83cce6b"), looks := true }, kinds := [], alts := [], laidByText := true, laidKinds := [.data, .pinned], laidTests := true, laidLooks := .later }
def ModelFilesCardSaid : Prop := Claim7.holds Tryz.pinned (.plain (OpenSpec.ofChange modelFilesSpec)) modelFilesCard

/-- THE SECOND FORM's CARD OF 'concourselaw13.ModelWrites'. -/
def modelWritesUptoCard : Claim7 := { stood := { row := modelWritesUptoRow, standIns := [], harness := (true, "de0f71915caa7670c23c075becafd72b97a9e7f71fe861b228eb8dbbd83cce6b"), looks := true }, kinds := [], alts := [], laidByText := true, laidKinds := [.data, .pinned], laidTests := true, laidLooks := .later }
def ModelWritesUptoCardSaid : Prop := Claim7.holds Tryz.pinned (.plain (OpenSpec.upto modelWritesSpec)) modelWritesUptoCard

/-- THE SECOND FORM's CARD OF 'concourselaw13.ModelLists'. -/
def modelListsUptoCard : Claim7 := { stood := { row := modelListsUptoRow, standIns := [], harness := (true, "de0f71915caa7670c23c075becafd72b97a9e7f71fe861b228eb8dbbd83cce6b"), looks := true }, kinds := [], alts := [], laidByText := true, laidKinds := [.data, .pinned], laidTests := true, laidLooks := .later }
def ModelListsUptoCardSaid : Prop := Claim7.holds Tryz.pinned (.plain (OpenSpec.upto modelListsSpec)) modelListsUptoCard

/-- THE SECOND FORM's CARD OF 'concourselaw13.ModelCodes'. -/
def modelCodesUptoCard : Claim7 := { stood := { row := modelCodesUptoRow, standIns := [], harness := (true, "de0f71915caa7670c23c075becafd72b97a9e7f71fe861b228eb8dbbd83cce6b"), looks := true }, kinds := [], alts := [], laidByText := true, laidKinds := [.data, .pinned], laidTests := true, laidLooks := .later }
def ModelCodesUptoCardSaid : Prop := Claim7.holds Tryz.pinned (.plain (OpenSpec.upto modelCodesSpec)) modelCodesUptoCard

/-- THE SECOND FORM's CARD OF 'concourselaw13.ModelFiles'. -/
def modelFilesUptoCard : Claim7 := { stood := { row := modelFilesUptoRow, standIns := [], harness := (true, "de0f71915caa7670c23c075becafd72b97a9e7f71fe861b228eb8dbbd83cce6b"), looks := true }, kinds := [], alts := [], laidByText := true, laidKinds := [.data, .pinned], laidTests := true, laidLooks := .later }
def ModelFilesUptoCardSaid : Prop := Claim7.holds Tryz.pinned (.plain (OpenSpec.upto modelFilesSpec)) modelFilesUptoCard
end Rows
end Go.Proofs.YtffncojcnbhblaaGreatDoor
