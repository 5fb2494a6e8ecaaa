/-
  DERIVED. GIVEN WITH THE SEED: THE CARDS: each row of YtnbbcbjfejdceaaDoorRows.lean that lists a variable, with what it lists TIED to the program's text (the seventh form; the later family's looks); each row that meets fmt, with fmt's text TOLD by the authors' own Lean function (tested against real Go, not proved from fmt's source: count such statements apart). THE CARD IS WHAT COUNTS. Prove the row's statement (the work); the ties are given (YtnbbcbjfejdceaaDoorTie.lean); close each card by the builder's one call (the guide's Derived/Test/ToyasCard.lean, 'card_holds'). Laid BY PROGRAM, IN A SANDBOX (cutbox-door.mjs). By AI agents, Wed Nov 11 2026. No macro, syntax, notation, axiom, sorry.
-/
import Derived.Test.YtnbbcbjfejdceaaDoorRows
import GoSem.ClaimSeven
namespace Go.Proofs.YtnbbcbjfejdceaaDoor
namespace Rows

/-- THE TIED CARD OF 'concourselaw9.DirActs'. -/
def dirActsCard : Claim7 := { stood := { row := dirActsRow, standIns := [], harness := (true, "b52752b4ad1ea57d169ecc7371ec3f9f9e5e71061f90f46f4a0915212379700a"), looks := true }, kinds := [], alts := [], laidByText := true, laidKinds := [.data, .pinned], laidTests := true, laidLooks := .later }
def DirActsCardSaid : Prop := Claim7.holds Tryd.pinned (.plain (OpenSpec.ofChange dirActsSpec)) dirActsCard

/-- THE TIED CARD OF 'concourselaw9.DirApart'. -/
def dirApartCard : Claim7 := { stood := { row := dirApartRow, standIns := [], harness := (true, "b52752b4ad1ea57d169ecc7371ec3f9f9e5e71061f90f46f4a0915212379700a"), looks := true }, kinds := [], alts := [], laidByText := true, laidKinds := [.data, .pinned], laidTests := true, laidLooks := .later }
def DirApartCardSaid : Prop := Claim7.holds Tryd.pinned (.plain (OpenSpec.ofChange dirApartSpec)) dirApartCard

/-- THE TIED CARD OF 'concourselaw9.DirFills'. -/
def dirFillsCard : Claim7 := { stood := { row := dirFillsRow, standIns := [], harness := (true, "b52752b4ad1ea57d169ecc7371ec3f9f9e5e71061f90f46f4a0915212379700a"), looks := true }, kinds := [], alts := [], laidByText := true, laidKinds := [.data, .pinned], laidTests := true, laidLooks := .later }
def DirFillsCardSaid : Prop := Claim7.holds Tryd.pinned (.plain (OpenSpec.ofChange dirFillsSpec)) dirFillsCard

/-- THE TIED CARD OF 'concourselaw9.DirMoves'. -/
def dirMovesCard : Claim7 := { stood := { row := dirMovesRow, standIns := [], harness := (true, "b52752b4ad1ea57d169ecc7371ec3f9f9e5e71061f90f46f4a0915212379700a"), looks := true }, kinds := [], alts := [], laidByText := true, laidKinds := [.data, .pinned], laidTests := true, laidLooks := .later }
def DirMovesCardSaid : Prop := Claim7.holds Tryd.pinned (.plain (OpenSpec.ofChange dirMovesSpec)) dirMovesCard

/-- THE TIED CARD OF 'concourselaw9.DirMany'. -/
def dirManyCard : Claim7 := { stood := { row := dirManyRow, standIns := [], harness := (true, "b52752b4ad1ea57d169ecc7371ec3f9f9e5e71061f90f46f4a0915212379700a"), looks := true }, kinds := [], alts := [], laidByText := true, laidKinds := [.data, .pinned], laidTests := true, laidLooks := .later }
def DirManyCardSaid : Prop := Claim7.holds Tryd.pinned (.plain (OpenSpec.ofChange dirManySpec)) dirManyCard

/-- THE TIED CARD OF 'concourselaw9.DirLooks'. -/
def dirLooksCard : Claim7 := { stood := { row := dirLooksRow, standIns := [], harness := (true, "b52752b4ad1ea57d169ecc7371ec3f9f9e5e71061f90f46f4a0915212379700a"), looks := true }, kinds := [], alts := [], laidByText := true, laidKinds := [.data, .pinned], laidTests := true, laidLooks := .later }
def DirLooksCardSaid : Prop := Claim7.holds Tryd.pinned (.plain (OpenSpec.ofChange dirLooksSpec)) dirLooksCard

/-- THE SECOND FORM's CARD OF 'concourselaw9.DirActs'. -/
def dirActsUptoCard : Claim7 := { stood := { row := dirActsUptoRow, standIns := [], harness := (true, "b52752b4ad1ea57d169ecc7371ec3f9f9e5e71061f90f46f4a0915212379700a"), looks := true }, kinds := [], alts := [], laidByText := true, laidKinds := [.data, .pinned], laidTests := true, laidLooks := .later }
def DirActsUptoCardSaid : Prop := Claim7.holds Tryd.pinned (.plain (OpenSpec.upto dirActsSpec)) dirActsUptoCard

/-- THE SECOND FORM's CARD OF 'concourselaw9.DirApart'. -/
def dirApartUptoCard : Claim7 := { stood := { row := dirApartUptoRow, standIns := [], harness := (true, "b52752b4ad1ea57d169ecc7371ec3f9f9e5e71061f90f46f4a0915212379700a"), looks := true }, kinds := [], alts := [], laidByText := true, laidKinds := [.data, .pinned], laidTests := true, laidLooks := .later }
def DirApartUptoCardSaid : Prop := Claim7.holds Tryd.pinned (.plain (OpenSpec.upto dirApartSpec)) dirApartUptoCard

/-- THE SECOND FORM's CARD OF 'concourselaw9.DirFills'. -/
def dirFillsUptoCard : Claim7 := { stood := { row := dirFillsUptoRow, standIns := [], harness := (true, "b52752b4ad1ea57d169ecc7371ec3f9f9e5e71061f90f46f4a0915212379700a"), looks := true }, kinds := [], alts := [], laidByText := true, laidKinds := [.data, .pinned], laidTests := true, laidLooks := .later }
def DirFillsUptoCardSaid : Prop := Claim7.holds Tryd.pinned (.plain (OpenSpec.upto dirFillsSpec)) dirFillsUptoCard

/-- THE SECOND FORM's CARD OF 'concourselaw9.DirMoves'. -/
def dirMovesUptoCard : Claim7 := { stood := { row := dirMovesUptoRow, standIns := [], harness := (true, "b52752b4ad1ea57d169ecc7371ec3f9f9e5e71061f90f46f4a0915212379700a"), looks := true }, kinds := [], alts := [], laidByText := true, laidKinds := [.data, .pinned], laidTests := true, laidLooks := .later }
def DirMovesUptoCardSaid : Prop := Claim7.holds Tryd.pinned (.plain (OpenSpec.upto dirMovesSpec)) dirMovesUptoCard

/-- THE SECOND FORM's CARD OF 'concourselaw9.DirMany'. -/
def dirManyUptoCard : Claim7 := { stood := { row := dirManyUptoRow, standIns := [], harness := (true, "b52752b4ad1ea57d169ecc7371ec3f9f9e5e71061f90f46f4a0915212379700a"), looks := true }, kinds := [], alts := [], laidByText := true, laidKinds := [.data, .pinned], laidTests := true, laidLooks := .later }
def DirManyUptoCardSaid : Prop := Claim7.holds Tryd.pinned (.plain (OpenSpec.upto dirManySpec)) dirManyUptoCard

/-- THE SECOND FORM's CARD OF 'concourselaw9.DirLooks'. -/
def dirLooksUptoCard : Claim7 := { stood := { row := dirLooksUptoRow, standIns := [], harness := (true, "b52752b4ad1ea57d169ecc7371ec3f9f9e5e71061f90f46f4a0915212379700a"), looks := true }, kinds := [], alts := [], laidByText := true, laidKinds := [.data, .pinned], laidTests := true, laidLooks := .later }
def DirLooksUptoCardSaid : Prop := Claim7.holds Tryd.pinned (.plain (OpenSpec.upto dirLooksSpec)) dirLooksUptoCard
end Rows
end Go.Proofs.YtnbbcbjfejdceaaDoor
