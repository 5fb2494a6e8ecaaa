/-
  DERIVED. GIVEN WITH THE SEED: THE CARDS: each row of YtffmfgjinpigeaaDoorRows.lean that lists a variable, with what it lists TIED to the program's text (the seventh form; the later family's looks); each row that meets fmt, with fmt's text TOLD by the authors' own Lean function (tested against real Go, not proved from fmt's source: count such statements apart). THE CARD IS WHAT COUNTS. Prove the row's statement (the work); the ties are given (YtffmfgjinpigeaaDoorTie.lean); close each card by the builder's one call (the guide's Derived/Test/ToyasCard.lean, 'card_holds'). Laid BY PROGRAM, IN A SANDBOX (cutbox-door.mjs). By AI agents, Wed Nov 11 2026. No macro, syntax, notation, axiom, sorry.
-/
import Derived.Test.YtffmfgjinpigeaaDoorRows
import GoSem.ClaimSeven
namespace Go.Proofs.YtffmfgjinpigeaaDoor
namespace Rows

/-- THE TIED CARD OF 'concourselaw11.PathParses'. -/
def pathParsesCard : Claim7 := { stood := { row := pathParsesRow, standIns := [], harness := (true, "9e4aaf6cee642efeb51a8be85a17a31591f1cb05bc2a301100ccc79ecbe3d53b"), looks := false }, kinds := [], alts := [], laidByText := true, laidKinds := [.data, .pinned], laidTests := true, laidLooks := .later }
def PathParsesCardSaid : Prop := Claim7.holds Tryd.pinned (.plain (OpenSpec.ofChange pathParsesSpec)) pathParsesCard

/-- THE TIED CARD OF 'concourselaw11.PathPrints'. -/
def pathPrintsCard : Claim7 := { stood := { row := pathPrintsRow, standIns := [], harness := (true, "9e4aaf6cee642efeb51a8be85a17a31591f1cb05bc2a301100ccc79ecbe3d53b"), looks := false }, kinds := [], alts := [], laidByText := true, laidKinds := [.data, .pinned], laidTests := true, laidLooks := .later }
def PathPrintsCardSaid : Prop := Claim7.holds Tryd.pinned (.plain (OpenSpec.ofChange pathPrintsSpec)) pathPrintsCard

/-- THE TIED CARD OF 'concourselaw11.PathBack'. -/
def pathBackCard : Claim7 := { stood := { row := pathBackRow, standIns := [], harness := (true, "9e4aaf6cee642efeb51a8be85a17a31591f1cb05bc2a301100ccc79ecbe3d53b"), looks := false }, kinds := [], alts := [], laidByText := true, laidKinds := [.data, .pinned], laidTests := true, laidLooks := .later }
def PathBackCardSaid : Prop := Claim7.holds Tryd.pinned (.plain (OpenSpec.ofChange pathBackSpec)) pathBackCard

/-- THE TIED CARD OF 'concourselaw11.PathDepths'. -/
def pathDepthsCard : Claim7 := { stood := { row := pathDepthsRow, standIns := [], harness := (true, "9e4aaf6cee642efeb51a8be85a17a31591f1cb05bc2a301100ccc79ecbe3d53b"), looks := false }, kinds := [], alts := [], laidByText := true, laidKinds := [.data, .pinned], laidTests := true, laidLooks := .later }
def PathDepthsCardSaid : Prop := Claim7.holds Tryd.pinned (.plain (OpenSpec.ofChange pathDepthsSpec)) pathDepthsCard

/-- THE TIED CARD OF 'concourselaw11.PathCodes'. -/
def pathCodesCard : Claim7 := { stood := { row := pathCodesRow, standIns := [], harness := (true, "9e4aaf6cee642efeb51a8be85a17a31591f1cb05bc2a301100ccc79ecbe3d53b"), looks := false }, kinds := [], alts := [], laidByText := true, laidKinds := [.data, .pinned], laidTests := true, laidLooks := .later }
def PathCodesCardSaid : Prop := Claim7.holds Tryd.pinned (.plain (OpenSpec.ofChange pathCodesSpec)) pathCodesCard

/-- THE TIED CARD OF 'concourselaw11.PathBelows'. -/
def pathBelowsCard : Claim7 := { stood := { row := pathBelowsRow, standIns := [], harness := (true, "9e4aaf6cee642efeb51a8be85a17a31591f1cb05bc2a301100ccc79ecbe3d53b"), looks := false }, kinds := [], alts := [], laidByText := true, laidKinds := [.data, .pinned], laidTests := true, laidLooks := .later }
def PathBelowsCardSaid : Prop := Claim7.holds Tryd.pinned (.plain (OpenSpec.ofChange pathBelowsSpec)) pathBelowsCard

/-- THE SECOND FORM's CARD OF 'concourselaw11.PathParses'. -/
def pathParsesUptoCard : Claim7 := { stood := { row := pathParsesUptoRow, standIns := [], harness := (true, "9e4aaf6cee642efeb51a8be85a17a31591f1cb05bc2a301100ccc79ecbe3d53b"), looks := false }, kinds := [], alts := [], laidByText := true, laidKinds := [.data, .pinned], laidTests := true, laidLooks := .later }
def PathParsesUptoCardSaid : Prop := Claim7.holds Tryd.pinned (.plain (OpenSpec.upto pathParsesSpec)) pathParsesUptoCard

/-- THE SECOND FORM's CARD OF 'concourselaw11.PathPrints'. -/
def pathPrintsUptoCard : Claim7 := { stood := { row := pathPrintsUptoRow, standIns := [], harness := (true, "9e4aaf6cee642efeb51a8be85a17a31591f1cb05bc2a301100ccc79ecbe3d53b"), looks := false }, kinds := [], alts := [], laidByText := true, laidKinds := [.data, .pinned], laidTests := true, laidLooks := .later }
def PathPrintsUptoCardSaid : Prop := Claim7.holds Tryd.pinned (.plain (OpenSpec.upto pathPrintsSpec)) pathPrintsUptoCard

/-- THE SECOND FORM's CARD OF 'concourselaw11.PathBack'. -/
def pathBackUptoCard : Claim7 := { stood := { row := pathBackUptoRow, standIns := [], harness := (true, "9e4aaf6cee642efeb51a8be85a17a31591f1cb05bc2a301100ccc79ecbe3d53b"), looks := false }, kinds := [], alts := [], laidByText := true, laidKinds := [.data, .pinned], laidTests := true, laidLooks := .later }
def PathBackUptoCardSaid : Prop := Claim7.holds Tryd.pinned (.plain (OpenSpec.upto pathBackSpec)) pathBackUptoCard

/-- THE SECOND FORM's CARD OF 'concourselaw11.PathDepths'. -/
def pathDepthsUptoCard : Claim7 := { stood := { row := pathDepthsUptoRow, standIns := [], harness := (true, "9e4aaf6cee642efeb51a8be85a17a31591f1cb05bc2a301100ccc79ecbe3d53b"), looks := false }, kinds := [], alts := [], laidByText := true, laidKinds := [.data, .pinned], laidTests := true, laidLooks := .later }
def PathDepthsUptoCardSaid : Prop := Claim7.holds Tryd.pinned (.plain (OpenSpec.upto pathDepthsSpec)) pathDepthsUptoCard

/-- THE SECOND FORM's CARD OF 'concourselaw11.PathCodes'. -/
def pathCodesUptoCard : Claim7 := { stood := { row := pathCodesUptoRow, standIns := [], harness := (true, "9e4aaf6cee642efeb51a8be85a17a31591f1cb05bc2a301100ccc79ecbe3d53b"), looks := false }, kinds := [], alts := [], laidByText := true, laidKinds := [.data, .pinned], laidTests := true, laidLooks := .later }
def PathCodesUptoCardSaid : Prop := Claim7.holds Tryd.pinned (.plain (OpenSpec.upto pathCodesSpec)) pathCodesUptoCard

/-- THE SECOND FORM's CARD OF 'concourselaw11.PathBelows'. -/
def pathBelowsUptoCard : Claim7 := { stood := { row := pathBelowsUptoRow, standIns := [], harness := (true, "9e4aaf6cee642efeb51a8be85a17a31591f1cb05bc2a301100ccc79ecbe3d53b"), looks := false }, kinds := [], alts := [], laidByText := true, laidKinds := [.data, .pinned], laidTests := true, laidLooks := .later }
def PathBelowsUptoCardSaid : Prop := Claim7.holds Tryd.pinned (.plain (OpenSpec.upto pathBelowsSpec)) pathBelowsUptoCard
end Rows
end Go.Proofs.YtffmfgjinpigeaaDoor
