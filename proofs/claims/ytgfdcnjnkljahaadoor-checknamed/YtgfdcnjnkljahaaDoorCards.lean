/-
  DERIVED. GIVEN WITH THE SEED: THE CARDS: each row of YtgfdcnjnkljahaaDoorRows.lean that lists a variable, with what it lists TIED to the program's text (the seventh form; the later family's looks); each row that meets fmt, with fmt's text TOLD by the authors' own Lean function (tested against real Go, not proved from fmt's source: count such statements apart). THE CARD IS WHAT COUNTS. Prove the row's statement (the work); the ties are given (YtgfdcnjnkljahaaDoorTie.lean); close each card by the builder's one call (the guide's Derived/Test/ToyasCard.lean, 'card_holds'). Laid BY PROGRAM, IN A SANDBOX (cutbox-door.mjs). By AI agents, Wed Nov 11 2026. No macro, syntax, notation, axiom, sorry.
-/
import Derived.Test.YtgfdcnjnkljahaaDoorRows
import GoSem.ClaimSeven
namespace Go.Proofs.YtgfdcnjnkljahaaDoor
namespace Rows

/-- THE TIED CARD OF 'concourselaw20.CheckRows'. -/
def checkRowsCard : Claim7 := { stood := { row := checkRowsRow, standIns := [], harness := (true, "c322d5f62b1f0f73979174b63f68cafb6183bd3d7d19c409f467fabe8470096c"), looks := true }, kinds := [], alts := [], laidByText := true, laidKinds := [.data, .pinned], laidTests := true, laidLooks := .later }
def CheckRowsCardSaid : Prop := Claim7.holds Tryd.pinned (.plain (OpenSpec.ofChange checkRowsSpec)) checkRowsCard

/-- THE TIED CARD OF 'concourselaw20.CheckMissing'. -/
def checkMissingCard : Claim7 := { stood := { row := checkMissingRow, standIns := [], harness := (true, "c322d5f62b1f0f73979174b63f68cafb6183bd3d7d19c409f467fabe8470096c"), looks := true }, kinds := [], alts := [], laidByText := true, laidKinds := [.data, .pinned], laidTests := true, laidLooks := .later }
def CheckMissingCardSaid : Prop := Claim7.holds Tryd.pinned (.plain (OpenSpec.ofChange checkMissingSpec)) checkMissingCard

/-- THE TIED CARD OF 'concourselaw20.CheckTwice'. -/
def checkTwiceCard : Claim7 := { stood := { row := checkTwiceRow, standIns := [], harness := (true, "c322d5f62b1f0f73979174b63f68cafb6183bd3d7d19c409f467fabe8470096c"), looks := true }, kinds := [], alts := [], laidByText := true, laidKinds := [.data, .pinned], laidTests := true, laidLooks := .later }
def CheckTwiceCardSaid : Prop := Claim7.holds Tryd.pinned (.plain (OpenSpec.ofChange checkTwiceSpec)) checkTwiceCard

/-- THE TIED CARD OF 'concourselaw20.CheckLost'. -/
def checkLostCard : Claim7 := { stood := { row := checkLostRow, standIns := [], harness := (true, "c322d5f62b1f0f73979174b63f68cafb6183bd3d7d19c409f467fabe8470096c"), looks := true }, kinds := [], alts := [], laidByText := true, laidKinds := [.data, .pinned], laidTests := true, laidLooks := .later }
def CheckLostCardSaid : Prop := Claim7.holds Tryd.pinned (.plain (OpenSpec.ofChange checkLostSpec)) checkLostCard

/-- THE TIED CARD OF 'concourselaw20.CheckNamed'. -/
def checkNamedCard : Claim7 := { stood := { row := checkNamedRow, standIns := [], harness := (true, "c322d5f62b1f0f73979174b63f68cafb6183bd3d7d19c409f467fabe8470096c"), looks := true }, kinds := [], alts := [], laidByText := true, laidKinds := [.data, .pinned], laidTests := true, laidLooks := .later }
def CheckNamedCardSaid : Prop := Claim7.holds Tryd.pinned (.plain (OpenSpec.ofChange checkNamedSpec)) checkNamedCard

/-- THE SECOND FORM's CARD OF 'concourselaw20.CheckRows'. -/
def checkRowsUptoCard : Claim7 := { stood := { row := checkRowsUptoRow, standIns := [], harness := (true, "c322d5f62b1f0f73979174b63f68cafb6183bd3d7d19c409f467fabe8470096c"), looks := true }, kinds := [], alts := [], laidByText := true, laidKinds := [.data, .pinned], laidTests := true, laidLooks := .later }
def CheckRowsUptoCardSaid : Prop := Claim7.holds Tryd.pinned (.plain (OpenSpec.upto checkRowsSpec)) checkRowsUptoCard

/-- THE SECOND FORM's CARD OF 'concourselaw20.CheckMissing'. -/
def checkMissingUptoCard : Claim7 := { stood := { row := checkMissingUptoRow, standIns := [], harness := (true, "c322d5f62b1f0f73979174b63f68cafb6183bd3d7d19c409f467fabe8470096c"), looks := true }, kinds := [], alts := [], laidByText := true, laidKinds := [.data, .pinned], laidTests := true, laidLooks := .later }
def CheckMissingUptoCardSaid : Prop := Claim7.holds Tryd.pinned (.plain (OpenSpec.upto checkMissingSpec)) checkMissingUptoCard

/-- THE SECOND FORM's CARD OF 'concourselaw20.CheckTwice'. -/
def checkTwiceUptoCard : Claim7 := { stood := { row := checkTwiceUptoRow, standIns := [], harness := (true, "c322d5f62b1f0f73979174b63f68cafb6183bd3d7d19c409f467fabe8470096c"), looks := true }, kinds := [], alts := [], laidByText := true, laidKinds := [.data, .pinned], laidTests := true, laidLooks := .later }
def CheckTwiceUptoCardSaid : Prop := Claim7.holds Tryd.pinned (.plain (OpenSpec.upto checkTwiceSpec)) checkTwiceUptoCard

/-- THE SECOND FORM's CARD OF 'concourselaw20.CheckLost'. -/
def checkLostUptoCard : Claim7 := { stood := { row := checkLostUptoRow, standIns := [], harness := (true, "c322d5f62b1f0f73979174b63f68cafb6183bd3d7d19c409f467fabe8470096c"), looks := true }, kinds := [], alts := [], laidByText := true, laidKinds := [.data, .pinned], laidTests := true, laidLooks := .later }
def CheckLostUptoCardSaid : Prop := Claim7.holds Tryd.pinned (.plain (OpenSpec.upto checkLostSpec)) checkLostUptoCard

/-- THE SECOND FORM's CARD OF 'concourselaw20.CheckNamed'. -/
def checkNamedUptoCard : Claim7 := { stood := { row := checkNamedUptoRow, standIns := [], harness := (true, "c322d5f62b1f0f73979174b63f68cafb6183bd3d7d19c409f467fabe8470096c"), looks := true }, kinds := [], alts := [], laidByText := true, laidKinds := [.data, .pinned], laidTests := true, laidLooks := .later }
def CheckNamedUptoCardSaid : Prop := Claim7.holds Tryd.pinned (.plain (OpenSpec.upto checkNamedSpec)) checkNamedUptoCard
end Rows
end Go.Proofs.YtgfdcnjnkljahaaDoor
