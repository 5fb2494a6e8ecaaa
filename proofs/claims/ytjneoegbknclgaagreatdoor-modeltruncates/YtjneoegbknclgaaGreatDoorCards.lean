/-
  DERIVED. GIVEN WITH THE SEED: THE CARDS: each row of YtjneoegbknclgaaGreatDoorRows.lean that lists a variable, with what it lists TIED to the program's text (the seventh form; the later family's looks); each row that meets fmt, with fmt's text TOLD by the authors' own Lean function (tested against real Go, not proved from fmt's source: count such statements apart). THE CARD IS WHAT COUNTS. Prove the row's statement (the work); the ties are given (YtjneoegbknclgaaGreatDoorTie.lean); close each card by the builder's one call (the guide's Derived/Test/ToyasCard.lean, 'card_holds'). Laid BY PROGRAM, IN A SANDBOX (cutbox-door.mjs). By AI agents, Wed Nov 11 2026. No macro, syntax, notation, axiom, sorry.
-/
import Derived.Test.YtjneoegbknclgaaGreatDoorRows
import GoSem.ClaimSeven
namespace Go.Proofs.YtjneoegbknclgaaGreatDoor
namespace Rows

/-- THE TIED CARD OF 'concourselaw13.ModelTruncates'. -/
def modelTruncatesCard : Claim7 := { stood := { row := modelTruncatesRow, standIns := [], harness := (true, "c6598203076cb0f288d2f23b431bc2b504ac4fcddd36d5ca6b1db199d63acb35"), looks := true }, kinds := [], alts := [], laidByText := true, laidKinds := [.data, .pinned], laidTests := true, laidLooks := .later }
def ModelTruncatesCardSaid : Prop := Claim7.holds Tryz.pinned (.plain (OpenSpec.ofChange modelTruncatesSpec)) modelTruncatesCard

/-- THE TIED CARD OF 'concourselaw13.ModelLinked'. -/
def modelLinkedCard : Claim7 := { stood := { row := modelLinkedRow, standIns := [], harness := (true, "c6598203076cb0f288d2f23b431bc2b504ac4fcddd36d5ca6b1db199d63acb35"), looks := true }, kinds := [], alts := [], laidByText := true, laidKinds := [.data, .pinned], laidTests := true, laidLooks := .later }
def ModelLinkedCardSaid : Prop := Claim7.holds Tryz.pinned (.plain (OpenSpec.ofChange modelLinkedSpec)) modelLinkedCard

/-- THE TIED CARD OF 'concourselaw13.ModelRemoves'. -/
def modelRemovesCard : Claim7 := { stood := { row := modelRemovesRow, standIns := [], harness := (true, "c6598203076cb0f288d2f23b431bc2b504ac4fcddd36d5ca6b1db199d63acb35"), looks := true }, kinds := [], alts := [], laidByText := true, laidKinds := [.data, .pinned], laidTests := true, laidLooks := .later }
def ModelRemovesCardSaid : Prop := Claim7.holds Tryz.pinned (.plain (OpenSpec.ofChange modelRemovesSpec)) modelRemovesCard

/-- THE TIED CARD OF 'concourselaw13.ModelRenames'. -/
def modelRenamesCard : Claim7 := { stood := { row := modelRenamesRow, standIns := [], harness := (true, "c6598203076cb0f288d2f23b431bc2b504ac4fcddd36d5ca6b1db199d63acb35"), looks := true }, kinds := [], alts := [], laidByText := true, laidKinds := [.data, .pinned], laidTests := true, laidLooks := .later }
def ModelRenamesCardSaid : Prop := Claim7.holds Tryz.pinned (.plain (OpenSpec.ofChange modelRenamesSpec)) modelRenamesCard

/-- THE TIED CARD OF 'concourselaw13.ModelOpens'. -/
def modelOpensCard : Claim7 := { stood := { row := modelOpensRow, standIns := [], harness := (true, "c6598203076cb0f288d2f23b431bc2b504ac4fcddd36d5ca6b1db199d63acb35"), looks := true }, kinds := [], alts := [], laidByText := true, laidKinds := [.data, .pinned], laidTests := true, laidLooks := .later }
def ModelOpensCardSaid : Prop := Claim7.holds Tryz.pinned (.plain (OpenSpec.ofChange modelOpensSpec)) modelOpensCard

/-- THE TIED CARD OF 'concourselaw13.ModelWrites'. -/
def modelWritesCard : Claim7 := { stood := { row := modelWritesRow, standIns := [], harness := (true, "c6598203076cb0f288d2f23b431bc2b504ac4fcddd36d5ca6b1db199d63acb35"), looks := true }, kinds := [], alts := [], laidByText := true, laidKinds := [.data, .pinned], laidTests := true, laidLooks := .later }
def ModelWritesCardSaid : Prop := Claim7.holds Tryz.pinned (.plain (OpenSpec.ofChange modelWritesSpec)) modelWritesCard

/-- THE SECOND FORM's CARD OF 'concourselaw13.ModelTruncates'. -/
def modelTruncatesUptoCard : Claim7 := { stood := { row := modelTruncatesUptoRow, standIns := [], harness := (true, "c6598203076cb0f288d2f23b431bc2b504ac4fcddd36d5ca6b1db199d63acb35"), looks := true }, kinds := [], alts := [], laidByText := true, laidKinds := [.data, .pinned], laidTests := true, laidLooks := .later }
def ModelTruncatesUptoCardSaid : Prop := Claim7.holds Tryz.pinned (.plain (OpenSpec.upto modelTruncatesSpec)) modelTruncatesUptoCard

/-- THE SECOND FORM's CARD OF 'concourselaw13.ModelLinked'. -/
def modelLinkedUptoCard : Claim7 := { stood := { row := modelLinkedUptoRow, standIns := [], harness := (true, "c6598203076cb0f288d2f23b431bc2b504ac4fcddd36d5ca6b1db199d63acb35"), looks := true }, kinds := [], alts := [], laidByText := true, laidKinds := [.data, .pinned], laidTests := true, laidLooks := .later }
def ModelLinkedUptoCardSaid : Prop := Claim7.holds Tryz.pinned (.plain (OpenSpec.upto modelLinkedSpec)) modelLinkedUptoCard

/-- THE SECOND FORM's CARD OF 'concourselaw13.ModelRemoves'. -/
def modelRemovesUptoCard : Claim7 := { stood := { row := modelRemovesUptoRow, standIns := [], harness := (true, "c6598203076cb0f288d2f23b431bc2b504ac4fcddd36d5ca6b1db199d63acb35"), looks := true }, kinds := [], alts := [], laidByText := true, laidKinds := [.data, .pinned], laidTests := true, laidLooks := .later }
def ModelRemovesUptoCardSaid : Prop := Claim7.holds Tryz.pinned (.plain (OpenSpec.upto modelRemovesSpec)) modelRemovesUptoCard

/-- THE SECOND FORM's CARD OF 'concourselaw13.ModelRenames'. -/
def modelRenamesUptoCard : Claim7 := { stood := { row := modelRenamesUptoRow, standIns := [], harness := (true, "c6598203076cb0f288d2f23b431bc2b504ac4fcddd36d5ca6b1db199d63acb35"), looks := true }, kinds := [], alts := [], laidByText := true, laidKinds := [.data, .pinned], laidTests := true, laidLooks := .later }
def ModelRenamesUptoCardSaid : Prop := Claim7.holds Tryz.pinned (.plain (OpenSpec.upto modelRenamesSpec)) modelRenamesUptoCard

/-- THE SECOND FORM's CARD OF 'concourselaw13.ModelOpens'. -/
def modelOpensUptoCard : Claim7 := { stood := { row := modelOpensUptoRow, standIns := [], harness := (true, "c6598203076cb0f288d2f23b431bc2b504ac4fcddd36d5ca6b1db199d63acb35"), looks := true }, kinds := [], alts := [], laidByText := true, laidKinds := [.data, .pinned], laidTests := true, laidLooks := .later }
def ModelOpensUptoCardSaid : Prop := Claim7.holds Tryz.pinned (.plain (OpenSpec.upto modelOpensSpec)) modelOpensUptoCard

/-- THE SECOND FORM's CARD OF 'concourselaw13.ModelWrites'. -/
def modelWritesUptoCard : Claim7 := { stood := { row := modelWritesUptoRow, standIns := [], harness := (true, "c6598203076cb0f288d2f23b431bc2b504ac4fcddd36d5ca6b1db199d63acb35"), looks := true }, kinds := [], alts := [], laidByText := true, laidKinds := [.data, .pinned], laidTests := true, laidLooks := .later }
def ModelWritesUptoCardSaid : Prop := Claim7.holds Tryz.pinned (.plain (OpenSpec.upto modelWritesSpec)) modelWritesUptoCard
end Rows
end Go.Proofs.YtjneoegbknclgaaGreatDoor
