/-
  DERIVED. GIVEN WITH THE SEED: THE CARDS: each row of YtecddbolgegdfaaDoorRows.lean that lists a variable, with what it lists TIED to the program's text (the seventh form; the later family's looks); each row that meets fmt, with fmt's text TOLD by the authors' own Lean function (tested against real Go, not proved from fmt's source: count such statements apart). THE CARD IS WHAT COUNTS. Prove the row's statement (the work); the ties are given (YtecddbolgegdfaaDoorTie.lean); close each card by the builder's one call (the guide's Derived/Test/ToyasCard.lean, 'card_holds'). Laid BY PROGRAM, IN A SANDBOX (cutbox-door.mjs). By AI agents, Wed Nov 11 2026. No macro, syntax, notation, axiom, sorry.
-/
import Derived.Test.YtecddbolgegdfaaDoorRows
import GoSem.ClaimSeven
namespace Go.Proofs.YtecddbolgegdfaaDoor
namespace Rows

/-- THE TIED CARD OF 'concourselaw8.Names'. -/
def namesCard : Claim7 := { stood := { row := namesRow, standIns := [], harness := (true, "a19ee9f1284ada8f5c47f7762ea83e95fcdbdffd576c9b261bd8f54d32d6a93a"), looks := false }, kinds := [], alts := [], laidByText := true, laidKinds := [.data, .pinned], laidTests := true, laidLooks := .later }
def NamesCardSaid : Prop := Claim7.holds Tryd.pinned (.plain (OpenSpec.ofChange namesSpec)) namesCard

/-- THE TIED CARD OF 'concourselaw8.NameRunes'. -/
def nameRunesCard : Claim7 := { stood := { row := nameRunesRow, standIns := [], harness := (true, "a19ee9f1284ada8f5c47f7762ea83e95fcdbdffd576c9b261bd8f54d32d6a93a"), looks := false }, kinds := [], alts := [], laidByText := true, laidKinds := [.data, .pinned], laidTests := true, laidLooks := .later }
def NameRunesCardSaid : Prop := Claim7.holds Tryd.pinned (.plain (OpenSpec.ofChange nameRunesSpec)) nameRunesCard

/-- THE TIED CARD OF 'concourselaw8.NameHashes'. -/
def nameHashesCard : Claim7 := { stood := { row := nameHashesRow, standIns := [], harness := (true, "a19ee9f1284ada8f5c47f7762ea83e95fcdbdffd576c9b261bd8f54d32d6a93a"), looks := false }, kinds := [], alts := [], laidByText := true, laidKinds := [.data, .pinned], laidTests := true, laidLooks := .later }
def NameHashesCardSaid : Prop := Claim7.holds Tryd.pinned (.plain (OpenSpec.ofChange nameHashesSpec)) nameHashesCard

/-- THE TIED CARD OF 'concourselaw8.NameMays'. -/
def nameMaysCard : Claim7 := { stood := { row := nameMaysRow, standIns := [], harness := (true, "a19ee9f1284ada8f5c47f7762ea83e95fcdbdffd576c9b261bd8f54d32d6a93a"), looks := false }, kinds := [], alts := [], laidByText := true, laidKinds := [.data, .pinned], laidTests := true, laidLooks := .later }
def NameMaysCardSaid : Prop := Claim7.holds Tryd.pinned (.plain (OpenSpec.ofChange nameMaysSpec)) nameMaysCard

/-- THE TIED CARD OF 'concourselaw8.NameUtf'. -/
def nameUtfCard : Claim7 := { stood := { row := nameUtfRow, standIns := [], harness := (true, "a19ee9f1284ada8f5c47f7762ea83e95fcdbdffd576c9b261bd8f54d32d6a93a"), looks := false }, kinds := [], alts := [], laidByText := true, laidKinds := [.data, .pinned], laidTests := true, laidLooks := .later }
def NameUtfCardSaid : Prop := Claim7.holds Tryd.pinned (.plain (OpenSpec.ofChange nameUtfSpec)) nameUtfCard

/-- THE TIED CARD OF 'concourselaw8.NameLongs'. -/
def nameLongsCard : Claim7 := { stood := { row := nameLongsRow, standIns := [], harness := (true, "a19ee9f1284ada8f5c47f7762ea83e95fcdbdffd576c9b261bd8f54d32d6a93a"), looks := false }, kinds := [], alts := [], laidByText := true, laidKinds := [.data, .pinned], laidTests := true, laidLooks := .later }
def NameLongsCardSaid : Prop := Claim7.holds Tryd.pinned (.plain (OpenSpec.ofChange nameLongsSpec)) nameLongsCard

/-- THE SECOND FORM's CARD OF 'concourselaw8.Names'. -/
def namesUptoCard : Claim7 := { stood := { row := namesUptoRow, standIns := [], harness := (true, "a19ee9f1284ada8f5c47f7762ea83e95fcdbdffd576c9b261bd8f54d32d6a93a"), looks := false }, kinds := [], alts := [], laidByText := true, laidKinds := [.data, .pinned], laidTests := true, laidLooks := .later }
def NamesUptoCardSaid : Prop := Claim7.holds Tryd.pinned (.plain (OpenSpec.upto namesSpec)) namesUptoCard

/-- THE SECOND FORM's CARD OF 'concourselaw8.NameRunes'. -/
def nameRunesUptoCard : Claim7 := { stood := { row := nameRunesUptoRow, standIns := [], harness := (true, "a19ee9f1284ada8f5c47f7762ea83e95fcdbdffd576c9b261bd8f54d32d6a93a"), looks := false }, kinds := [], alts := [], laidByText := true, laidKinds := [.data, .pinned], laidTests := true, laidLooks := .later }
def NameRunesUptoCardSaid : Prop := Claim7.holds Tryd.pinned (.plain (OpenSpec.upto nameRunesSpec)) nameRunesUptoCard

/-- THE SECOND FORM's CARD OF 'concourselaw8.NameHashes'. -/
def nameHashesUptoCard : Claim7 := { stood := { row := nameHashesUptoRow, standIns := [], harness := (true, "a19ee9f1284ada8f5c47f7762ea83e95fcdbdffd576c9b261bd8f54d32d6a93a"), looks := false }, kinds := [], alts := [], laidByText := true, laidKinds := [.data, .pinned], laidTests := true, laidLooks := .later }
def NameHashesUptoCardSaid : Prop := Claim7.holds Tryd.pinned (.plain (OpenSpec.upto nameHashesSpec)) nameHashesUptoCard

/-- THE SECOND FORM's CARD OF 'concourselaw8.NameMays'. -/
def nameMaysUptoCard : Claim7 := { stood := { row := nameMaysUptoRow, standIns := [], harness := (true, "a19ee9f1284ada8f5c47f7762ea83e95fcdbdffd576c9b261bd8f54d32d6a93a"), looks := false }, kinds := [], alts := [], laidByText := true, laidKinds := [.data, .pinned], laidTests := true, laidLooks := .later }
def NameMaysUptoCardSaid : Prop := Claim7.holds Tryd.pinned (.plain (OpenSpec.upto nameMaysSpec)) nameMaysUptoCard

/-- THE SECOND FORM's CARD OF 'concourselaw8.NameUtf'. -/
def nameUtfUptoCard : Claim7 := { stood := { row := nameUtfUptoRow, standIns := [], harness := (true, "a19ee9f1284ada8f5c47f7762ea83e95fcdbdffd576c9b261bd8f54d32d6a93a"), looks := false }, kinds := [], alts := [], laidByText := true, laidKinds := [.data, .pinned], laidTests := true, laidLooks := .later }
def NameUtfUptoCardSaid : Prop := Claim7.holds Tryd.pinned (.plain (OpenSpec.upto nameUtfSpec)) nameUtfUptoCard

/-- THE SECOND FORM's CARD OF 'concourselaw8.NameLongs'. -/
def nameLongsUptoCard : Claim7 := { stood := { row := nameLongsUptoRow, standIns := [], harness := (true, "a19ee9f1284ada8f5c47f7762ea83e95fcdbdffd576c9b261bd8f54d32d6a93a"), looks := false }, kinds := [], alts := [], laidByText := true, laidKinds := [.data, .pinned], laidTests := true, laidLooks := .later }
def NameLongsUptoCardSaid : Prop := Claim7.holds Tryd.pinned (.plain (OpenSpec.upto nameLongsSpec)) nameLongsUptoCard
end Rows
end Go.Proofs.YtecddbolgegdfaaDoor
