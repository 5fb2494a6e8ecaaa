/-
  DERIVED. GIVEN WITH THE SEED: THE CARDS: each row of YtmeafancgmkfkaaGreatDoorRows.lean that lists a variable, with what it lists TIED to the program's text (the seventh form; the later family's looks); each row that meets fmt, with fmt's text TOLD by the authors' own Lean function (tested against real Go, not proved from fmt's source: count such statements apart). THE CARD IS WHAT COUNTS. Prove the row's statement (the work); the ties are given (YtmeafancgmkfkaaGreatDoorTie.lean); close each card by the builder's one call (the guide's Derived/Test/ToyasCard.lean, 'card_holds'). Laid BY PROGRAM, IN A SANDBOX (cutbox-door.mjs). By AI agents, Wed Nov 11 2026. No macro, syntax, notation, axiom, sorry.
-/
import Derived.Test.YtmeafancgmkfkaaGreatDoorRows
import GoSem.ClaimSeven
namespace Go.Proofs.YtmeafancgmkfkaaGreatDoor
namespace Rows

/-- THE TIED CARD OF 'concourselaw13.ModelOwn'. -/
def modelOwnCard : Claim7 := { stood := { row := modelOwnRow, standIns := [], harness := (true, "4cf0eef27b70d069d443c7b37ea0d95b4d3a08533da85bf5ada123cf0b7613ba"), looks := true }, kinds := [], alts := [], laidByText := true, laidKinds := [.data, .pinned], laidTests := true, laidLooks := .later }
def ModelOwnCardSaid : Prop := Claim7.holds Tryz.pinned (.plain (OpenSpec.ofChange modelOwnSpec)) modelOwnCard

/-- THE TIED CARD OF 'concourselaw13.ModelKeeps'. -/
def modelKeepsCard : Claim7 := { stood := { row := modelKeepsRow, standIns := [], harness := (true, "4cf0eef27b70d069d443c7b37ea0d95b4d3a08533da85bf5ada123cf0b7613ba"), looks := true }, kinds := [], alts := [], laidByText := true, laidKinds := [.data, .pinned], laidTests := true, laidLooks := .later }
def ModelKeepsCardSaid : Prop := Claim7.holds Tryz.pinned (.plain (OpenSpec.ofChange modelKeepsSpec)) modelKeepsCard

/-- THE TIED CARD OF 'concourselaw13.ModelFull'. -/
def modelFullCard : Claim7 := { stood := { row := modelFullRow, standIns := [], harness := (true, "4cf0eef27b70d069d443c7b37ea0d95b4d3a08533da85bf5ada123cf0b7613ba"), looks := true }, kinds := [], alts := [], laidByText := true, laidKinds := [.data, .pinned], laidTests := true, laidLooks := .later }
def ModelFullCardSaid : Prop := Claim7.holds Tryz.pinned (.plain (OpenSpec.ofChange modelFullSpec)) modelFullCard

/-- THE TIED CARD OF 'concourselaw13.ModelDeep'. -/
def modelDeepCard : Claim7 := { stood := { row := modelDeepRow, standIns := [], harness := (true, "4cf0eef27b70d069d443c7b37ea0d95b4d3a08533da85bf5ada123cf0b7613ba"), looks := true }, kinds := [], alts := [], laidByText := true, laidKinds := [.data, .pinned], laidTests := true, laidLooks := .later }
def ModelDeepCardSaid : Prop := Claim7.holds Tryz.pinned (.plain (OpenSpec.ofChange modelDeepSpec)) modelDeepCard

/-- THE SECOND FORM's CARD OF 'concourselaw13.ModelOwn'. -/
def modelOwnUptoCard : Claim7 := { stood := { row := modelOwnUptoRow, standIns := [], harness := (true, "4cf0eef27b70d069d443c7b37ea0d95b4d3a08533da85bf5ada123cf0b7613ba"), looks := true }, kinds := [], alts := [], laidByText := true, laidKinds := [.data, .pinned], laidTests := true, laidLooks := .later }
def ModelOwnUptoCardSaid : Prop := Claim7.holds Tryz.pinned (.plain (OpenSpec.upto modelOwnSpec)) modelOwnUptoCard

/-- THE SECOND FORM's CARD OF 'concourselaw13.ModelKeeps'. -/
def modelKeepsUptoCard : Claim7 := { stood := { row := modelKeepsUptoRow, standIns := [], harness := (true, "4cf0eef27b70d069d443c7b37ea0d95b4d3a08533da85bf5ada123cf0b7613ba"), looks := true }, kinds := [], alts := [], laidByText := true, laidKinds := [.data, .pinned], laidTests := true, laidLooks := .later }
def ModelKeepsUptoCardSaid : Prop := Claim7.holds Tryz.pinned (.plain (OpenSpec.upto modelKeepsSpec)) modelKeepsUptoCard

/-- THE SECOND FORM's CARD OF 'concourselaw13.ModelFull'. -/
def modelFullUptoCard : Claim7 := { stood := { row := modelFullUptoRow, standIns := [], harness := (true, "4cf0eef27b70d069d443c7b37ea0d95b4d3a08533da85bf5ada123cf0b7613ba"), looks := true }, kinds := [], alts := [], laidByText := true, laidKinds := [.data, .pinned], laidTests := true, laidLooks := .later }
def ModelFullUptoCardSaid : Prop := Claim7.holds Tryz.pinned (.plain (OpenSpec.upto modelFullSpec)) modelFullUptoCard

/-- THE SECOND FORM's CARD OF 'concourselaw13.ModelDeep'. -/
def modelDeepUptoCard : Claim7 := { stood := { row := modelDeepUptoRow, standIns := [], harness := (true, "4cf0eef27b70d069d443c7b37ea0d95b4d3a08533da85bf5ada123cf0b7613ba"), looks := true }, kinds := [], alts := [], laidByText := true, laidKinds := [.data, .pinned], laidTests := true, laidLooks := .later }
def ModelDeepUptoCardSaid : Prop := Claim7.holds Tryz.pinned (.plain (OpenSpec.upto modelDeepSpec)) modelDeepUptoCard
end Rows
end Go.Proofs.YtmeafancgmkfkaaGreatDoor
