/-
  DERIVED. GIVEN WITH THE SEED: THE CARDS: each row of YtagnkdeeiligcaaDoorRows.lean that lists a variable, with what it lists TIED to the program's text (the seventh form; the later family's looks); each row that meets fmt, with fmt's text TOLD by the authors' own Lean function (tested against real Go, not proved from fmt's source: count such statements apart). THE CARD IS WHAT COUNTS. Prove the row's statement (the work); the ties are given (YtagnkdeeiligcaaDoorTie.lean); close each card by the builder's one call (the guide's Derived/Test/ToyasCard.lean, 'card_holds'). Laid BY PROGRAM, IN A SANDBOX (cutbox-door.mjs). By AI agents, Wed Nov 11 2026. No macro, syntax, notation, axiom, sorry.
-/
import Derived.Test.YtagnkdeeiligcaaDoorRows
import GoSem.ClaimSeven
namespace Go.Proofs.YtagnkdeeiligcaaDoor
namespace Rows

/-- THE TIED CARD OF 'concourselaw4.AllocActs'. -/
def allocActsCard : Claim7 := { stood := { row := allocActsRow, standIns := [], harness := (true, "dc9a8a4a362bad82089852e931c949fb14dc5bffdd24db5c8f597f69135225ba"), looks := true }, kinds := [], alts := [], laidByText := true, laidKinds := [.data], laidTests := true, laidLooks := .later }
def AllocActsCardSaid : Prop := Claim7.holds Tryd.pinned (.plain (OpenSpec.ofChange allocActsSpec)) allocActsCard

/-- THE TIED CARD OF 'concourselaw4.AllocApart'. -/
def allocApartCard : Claim7 := { stood := { row := allocApartRow, standIns := [], harness := (true, "dc9a8a4a362bad82089852e931c949fb14dc5bffdd24db5c8f597f69135225ba"), looks := true }, kinds := [], alts := [], laidByText := true, laidKinds := [.data], laidTests := true, laidLooks := .later }
def AllocApartCardSaid : Prop := Claim7.holds Tryd.pinned (.plain (OpenSpec.ofChange allocApartSpec)) allocApartCard

/-- THE TIED CARD OF 'concourselaw4.AllocAgain'. -/
def allocAgainCard : Claim7 := { stood := { row := allocAgainRow, standIns := [], harness := (true, "dc9a8a4a362bad82089852e931c949fb14dc5bffdd24db5c8f597f69135225ba"), looks := true }, kinds := [], alts := [], laidByText := true, laidKinds := [.data], laidTests := true, laidLooks := .later }
def AllocAgainCardSaid : Prop := Claim7.holds Tryd.pinned (.plain (OpenSpec.ofChange allocAgainSpec)) allocAgainCard

/-- THE TIED CARD OF 'concourselaw4.AllocShare'. -/
def allocShareCard : Claim7 := { stood := { row := allocShareRow, standIns := [], harness := (true, "dc9a8a4a362bad82089852e931c949fb14dc5bffdd24db5c8f597f69135225ba"), looks := true }, kinds := [], alts := [], laidByText := true, laidKinds := [.data], laidTests := true, laidLooks := .later }
def AllocShareCardSaid : Prop := Claim7.holds Tryd.pinned (.plain (OpenSpec.ofChange allocShareSpec)) allocShareCard

/-- THE SECOND FORM's CARD OF 'concourselaw4.AllocActs'. -/
def allocActsUptoCard : Claim7 := { stood := { row := allocActsUptoRow, standIns := [], harness := (true, "dc9a8a4a362bad82089852e931c949fb14dc5bffdd24db5c8f597f69135225ba"), looks := true }, kinds := [], alts := [], laidByText := true, laidKinds := [.data], laidTests := true, laidLooks := .later }
def AllocActsUptoCardSaid : Prop := Claim7.holds Tryd.pinned (.plain (OpenSpec.upto allocActsSpec)) allocActsUptoCard

/-- THE SECOND FORM's CARD OF 'concourselaw4.AllocApart'. -/
def allocApartUptoCard : Claim7 := { stood := { row := allocApartUptoRow, standIns := [], harness := (true, "dc9a8a4a362bad82089852e931c949fb14dc5bffdd24db5c8f597f69135225ba"), looks := true }, kinds := [], alts := [], laidByText := true, laidKinds := [.data], laidTests := true, laidLooks := .later }
def AllocApartUptoCardSaid : Prop := Claim7.holds Tryd.pinned (.plain (OpenSpec.upto allocApartSpec)) allocApartUptoCard

/-- THE SECOND FORM's CARD OF 'concourselaw4.AllocAgain'. -/
def allocAgainUptoCard : Claim7 := { stood := { row := allocAgainUptoRow, standIns := [], harness := (true, "dc9a8a4a362bad82089852e931c949fb14dc5bffdd24db5c8f597f69135225ba"), looks := true }, kinds := [], alts := [], laidByText := true, laidKinds := [.data], laidTests := true, laidLooks := .later }
def AllocAgainUptoCardSaid : Prop := Claim7.holds Tryd.pinned (.plain (OpenSpec.upto allocAgainSpec)) allocAgainUptoCard

/-- THE SECOND FORM's CARD OF 'concourselaw4.AllocShare'. -/
def allocShareUptoCard : Claim7 := { stood := { row := allocShareUptoRow, standIns := [], harness := (true, "dc9a8a4a362bad82089852e931c949fb14dc5bffdd24db5c8f597f69135225ba"), looks := true }, kinds := [], alts := [], laidByText := true, laidKinds := [.data], laidTests := true, laidLooks := .later }
def AllocShareUptoCardSaid : Prop := Claim7.holds Tryd.pinned (.plain (OpenSpec.upto allocShareSpec)) allocShareUptoCard
end Rows
end Go.Proofs.YtagnkdeeiligcaaDoor
