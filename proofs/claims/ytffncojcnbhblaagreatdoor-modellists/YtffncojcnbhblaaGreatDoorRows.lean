/-
  NARROWER THAN 'FOR EVERY INPUT', by the rows' own cells (each row's printed sentence says how): ModelWrites: laid · ModelLists: laid · ModelCodes: laid · ModelFiles: laid.
  DERIVED. THE GIVEN ROWS OF THIS SEAT. 4 by the template 'for every input the law returns true; each argument reads behind the call as it read before'; 0 by the template 'total and deterministic' (their statements: YtffncojcnbhblaaGreatDoorTotals.lean).
  GIVEN WITH THE SEED: the statements are not yours to turn. If you find one false, say at which input.
  Laid BY PROGRAM, IN A SANDBOX (cutbox-rows.mjs): the forced cells as the released guide's own fill.sh prints them over the translation c0767bd57677079b… (all of the seat's roots in one cut). By AI agents, Wed Nov 11 2026. No macro, syntax, notation, axiom, sorry.
-/
import Derived.Test.YtffncojcnbhblaaGreatDoorChecked
import GoSem.PinnedTables
import GoSem.Claim
import GoSem.ClaimJoined
import GoSem.ClaimMapViews
import Derived.JoinedTies
import Derived.KernelRfl
namespace Go.Proofs.YtffncojcnbhblaaGreatDoor
/- THE CELL 'sum', in the pinned program and in every row, IS THE sha256 OF THE DUMP (.gsa) THAT YtffncojcnbhblaaGreatDoorProg.lean LOADS. Nothing in Lean hashes anything: it is a label: what it is worth is what the hold of that sum in a sandbox is worth. -/
noncomputable def Tryz.pinned : Pinned := { name := "ytffncojcnbhblaagreatdoor", sum := "c0767bd57677079bc92b1eff0c2fdd92ecc9051b9024ce28ef087285e8404cfb", checked := Tryz.checked }
namespace Rows
def none {H : Type} : Left H := { results := [], args := [] }

/- WHAT THE LISTED PACKAGE-LEVEL VARIABLES READ AS WHEN THE CALL BEGINS. Each datum BY PROGRAM (the guide's laid-datum.mjs) off the statement by which the dump's own 'gosem.cut.vars' lays the variable. In a bare row this is a premise. The card (YtffncojcnbhblaaGreatDoorCards.lean) ties it to the program's text. -/
def laid_unicode_utf8_acceptRanges {H : Type} : DataW H := .agg [.agg [.lit (.int .u8 128), .lit (.int .u8 191)], .agg [.lit (.int .u8 160), .lit (.int .u8 191)], .agg [.lit (.int .u8 128), .lit (.int .u8 159)], .agg [.lit (.int .u8 144), .lit (.int .u8 191)], .agg [.lit (.int .u8 128), .lit (.int .u8 143)], .agg [.lit (.int .u8 0), .lit (.int .u8 0)], .agg [.lit (.int .u8 0), .lit (.int .u8 0)], .agg [.lit (.int .u8 0), .lit (.int .u8 0)], .agg [.lit (.int .u8 0), .lit (.int .u8 0)], .agg [.lit (.int .u8 0), .lit (.int .u8 0)], .agg [.lit (.int .u8 0), .lit (.int .u8 0)], .agg [.lit (.int .u8 0), .lit (.int .u8 0)], .agg [.lit (.int .u8 0), .lit (.int .u8 0)], .agg [.lit (.int .u8 0), .lit (.int .u8 0)], .agg [.lit (.int .u8 0), .lit (.int .u8 0)], .agg [.lit (.int .u8 0), .lit (.int .u8 0)]]
/-- One of Go's own tables, pinned by name: the form's constant. -/
def laid_unicode_utf8_first : DataW Unit := Go.Pinned.utf8First

/-- 'concourselaw13.ModelWrites': WHATEVER THE INPUT: true; the input reads as it did. -/
def modelWritesSpec : ChangeSpec := { name := "modelWrites", fn := fun _ => fun
  | [d1, d2, d3, d4] => { results := [.lit (.bool true)], args := [d1, d2, d3, d4] }
  | _ => none }
def modelWritesRow : OpenClaim := { program := "ytffncojcnbhblaagreatdoor", sum := "c0767bd57677079bc92b1eff0c2fdd92ecc9051b9024ce28ef087285e8404cfb", func := "concourse/concourselaw13.ModelWrites", spec := "modelWrites", inPlace := ["slices.overlaps[concourse/api.Inode]", "slices.overlaps[concourse/api.Entry]", "slices.overlaps[concourse/api.Desc]"], unfollowed := true, recurses := true, named := ["unicode/utf8.first", "unicode/utf8.acceptRanges"], apart := false, laid := [("unicode/utf8.acceptRanges", laid_unicode_utf8_acceptRanges), ("unicode/utf8.first", laid_unicode_utf8_first)] }
def ModelWritesSaid : Prop := modelWritesRow.holds Tryz.pinned (OpenSpec.ofChange modelWritesSpec)

/-- ITS FALSE NEIGHBOUR: 'it returns false'. Refute it at one input. -/
def modelWritesWrong : ChangeSpec := { name := "modelWrites", fn := fun _ => fun
  | [d1, d2, d3, d4] => { results := [.lit (.bool false)], args := [d1, d2, d3, d4] }
  | _ => none }
def ModelWritesWrongFalsely : Prop := modelWritesRow.holds Tryz.pinned (OpenSpec.ofChange modelWritesWrong)

/-- 'concourselaw13.ModelLists': WHATEVER THE INPUT: true; the input reads as it did. -/
def modelListsSpec : ChangeSpec := { name := "modelLists", fn := fun _ => fun
  | [d] => { results := [.lit (.bool true)], args := [d] }
  | _ => none }
def modelListsRow : OpenClaim := { program := "ytffncojcnbhblaagreatdoor", sum := "c0767bd57677079bc92b1eff0c2fdd92ecc9051b9024ce28ef087285e8404cfb", func := "concourse/concourselaw13.ModelLists", spec := "modelLists", inPlace := ["slices.overlaps[concourse/api.Inode]", "slices.overlaps[concourse/api.Entry]", "slices.overlaps[concourse/api.Desc]"], unfollowed := true, recurses := true, named := ["unicode/utf8.first", "unicode/utf8.acceptRanges"], apart := false, laid := [("unicode/utf8.acceptRanges", laid_unicode_utf8_acceptRanges), ("unicode/utf8.first", laid_unicode_utf8_first)] }
def ModelListsSaid : Prop := modelListsRow.holds Tryz.pinned (OpenSpec.ofChange modelListsSpec)

/-- ITS FALSE NEIGHBOUR: 'it returns false'. Refute it at one input. -/
def modelListsWrong : ChangeSpec := { name := "modelLists", fn := fun _ => fun
  | [d] => { results := [.lit (.bool false)], args := [d] }
  | _ => none }
def ModelListsWrongFalsely : Prop := modelListsRow.holds Tryz.pinned (OpenSpec.ofChange modelListsWrong)

/-- 'concourselaw13.ModelCodes': WHATEVER THE INPUT: true; the input reads as it did. -/
def modelCodesSpec : ChangeSpec := { name := "modelCodes", fn := fun _ => fun
  | [d1, d2, d3] => { results := [.lit (.bool true)], args := [d1, d2, d3] }
  | _ => none }
def modelCodesRow : OpenClaim := { program := "ytffncojcnbhblaagreatdoor", sum := "c0767bd57677079bc92b1eff0c2fdd92ecc9051b9024ce28ef087285e8404cfb", func := "concourse/concourselaw13.ModelCodes", spec := "modelCodes", inPlace := ["slices.overlaps[concourse/api.Inode]", "slices.overlaps[concourse/api.Entry]", "slices.overlaps[concourse/api.Desc]"], unfollowed := true, recurses := true, named := ["unicode/utf8.first", "unicode/utf8.acceptRanges"], apart := false, laid := [("unicode/utf8.acceptRanges", laid_unicode_utf8_acceptRanges), ("unicode/utf8.first", laid_unicode_utf8_first)] }
def ModelCodesSaid : Prop := modelCodesRow.holds Tryz.pinned (OpenSpec.ofChange modelCodesSpec)

/-- ITS FALSE NEIGHBOUR: 'it returns false'. Refute it at one input. -/
def modelCodesWrong : ChangeSpec := { name := "modelCodes", fn := fun _ => fun
  | [d1, d2, d3] => { results := [.lit (.bool false)], args := [d1, d2, d3] }
  | _ => none }
def ModelCodesWrongFalsely : Prop := modelCodesRow.holds Tryz.pinned (OpenSpec.ofChange modelCodesWrong)

/-- 'concourselaw13.ModelFiles': WHATEVER THE INPUT: true; the input reads as it did. -/
def modelFilesSpec : ChangeSpec := { name := "modelFiles", fn := fun _ => fun
  | [d1, d2, d3] => { results := [.lit (.bool true)], args := [d1, d2, d3] }
  | _ => none }
def modelFilesRow : OpenClaim := { program := "ytffncojcnbhblaagreatdoor", sum := "c0767bd57677079bc92b1eff0c2fdd92ecc9051b9024ce28ef087285e8404cfb", func := "concourse/concourselaw13.ModelFiles", spec := "modelFiles", inPlace := ["slices.overlaps[concourse/api.Inode]", "slices.overlaps[concourse/api.Entry]", "slices.overlaps[concourse/api.Desc]"], unfollowed := true, recurses := true, named := ["unicode/utf8.first", "unicode/utf8.acceptRanges"], apart := false, laid := [("unicode/utf8.acceptRanges", laid_unicode_utf8_acceptRanges), ("unicode/utf8.first", laid_unicode_utf8_first)] }
def ModelFilesSaid : Prop := modelFilesRow.holds Tryz.pinned (OpenSpec.ofChange modelFilesSpec)

/-- ITS FALSE NEIGHBOUR: 'it returns false'. Refute it at one input. -/
def modelFilesWrong : ChangeSpec := { name := "modelFiles", fn := fun _ => fun
  | [d1, d2, d3] => { results := [.lit (.bool false)], args := [d1, d2, d3] }
  | _ => none }
def ModelFilesWrongFalsely : Prop := modelFilesRow.holds Tryz.pinned (OpenSpec.ofChange modelFilesWrong)

/- THE SECOND FORM. 'bulk': how many values and letters a reading holds, each counted each time it is reached (what is shared counts as often as it is met; a slice's spare places count too). A statement '..UptoSaid' is the law's where the arguments, and the package variables that the reading takes, are together of bulk at most 1048576: NARROWER than '..Said'. Prove '..Said' where nothing that the law and all that it calls make is longer than what came in: it says more and counts as full. Else prove '..UptoSaid'. A law counts once. -/
mutual
def uptoBulk {H : Type} : DataW H → Nat
  | .lit (.string bytes) => bytes.length + 1
  | .lit _ => 1
  | .nil => 1
  | .ptr d => uptoBulk d + 1
  | .slice elems spare => uptoBulkAll elems + uptoBulkAll spare + 1
  | .agg parts => uptoBulkAll parts + 1
  | .iface _ d => uptoBulk d + 1
  | .map entries => uptoBulkEntries entries + 1
  | .held _ => 1
def uptoBulkAll {H : Type} : List (DataW H) → Nat
  | [] => 0
  | d :: r => uptoBulk d + uptoBulkAll r
def uptoBulkEntries {H : Type} : List (Lit × DataW H) → Nat
  | [] => 0
  | x :: r => uptoBulkEntry x + uptoBulkEntries r
def uptoBulkEntry {H : Type} : Lit × DataW H → Nat
  | (.string bytes, d) => bytes.length + uptoBulk d + 1
  | (_, d) => uptoBulk d + 1
 end
def uptoSmall : (H : Type) → List (DataW H) → Bool := fun _ ds => decide (uptoBulkAll ds ≤ 1048576)
def OpenSpec.upto (s : _root_.Go.ChangeSpec) : _root_.Go.OpenSpec := { _root_.Go.OpenSpec.ofChange s with cond := some uptoSmall }

/-- 'concourselaw13.ModelWrites', WHERE WHAT IT READS IS OF BULK AT MOST 1048576: true; the input reads as it did. -/
def modelWritesUptoRow : OpenClaim := { program := "ytffncojcnbhblaagreatdoor", sum := "c0767bd57677079bc92b1eff0c2fdd92ecc9051b9024ce28ef087285e8404cfb", func := "concourse/concourselaw13.ModelWrites", spec := "modelWrites", inPlace := ["slices.overlaps[concourse/api.Inode]", "slices.overlaps[concourse/api.Entry]", "slices.overlaps[concourse/api.Desc]"], unfollowed := true, recurses := true, named := ["unicode/utf8.first", "unicode/utf8.acceptRanges"], apart := false, laid := [("unicode/utf8.acceptRanges", laid_unicode_utf8_acceptRanges), ("unicode/utf8.first", laid_unicode_utf8_first)], narrowed := true }
def ModelWritesUptoSaid : Prop := modelWritesUptoRow.holds Tryz.pinned (OpenSpec.upto modelWritesSpec)

/-- 'concourselaw13.ModelLists', WHERE WHAT IT READS IS OF BULK AT MOST 1048576: true; the input reads as it did. -/
def modelListsUptoRow : OpenClaim := { program := "ytffncojcnbhblaagreatdoor", sum := "c0767bd57677079bc92b1eff0c2fdd92ecc9051b9024ce28ef087285e8404cfb", func := "concourse/concourselaw13.ModelLists", spec := "modelLists", inPlace := ["slices.overlaps[concourse/api.Inode]", "slices.overlaps[concourse/api.Entry]", "slices.overlaps[concourse/api.Desc]"], unfollowed := true, recurses := true, named := ["unicode/utf8.first", "unicode/utf8.acceptRanges"], apart := false, laid := [("unicode/utf8.acceptRanges", laid_unicode_utf8_acceptRanges), ("unicode/utf8.first", laid_unicode_utf8_first)], narrowed := true }
def ModelListsUptoSaid : Prop := modelListsUptoRow.holds Tryz.pinned (OpenSpec.upto modelListsSpec)

/-- 'concourselaw13.ModelCodes', WHERE WHAT IT READS IS OF BULK AT MOST 1048576: true; the input reads as it did. -/
def modelCodesUptoRow : OpenClaim := { program := "ytffncojcnbhblaagreatdoor", sum := "c0767bd57677079bc92b1eff0c2fdd92ecc9051b9024ce28ef087285e8404cfb", func := "concourse/concourselaw13.ModelCodes", spec := "modelCodes", inPlace := ["slices.overlaps[concourse/api.Inode]", "slices.overlaps[concourse/api.Entry]", "slices.overlaps[concourse/api.Desc]"], unfollowed := true, recurses := true, named := ["unicode/utf8.first", "unicode/utf8.acceptRanges"], apart := false, laid := [("unicode/utf8.acceptRanges", laid_unicode_utf8_acceptRanges), ("unicode/utf8.first", laid_unicode_utf8_first)], narrowed := true }
def ModelCodesUptoSaid : Prop := modelCodesUptoRow.holds Tryz.pinned (OpenSpec.upto modelCodesSpec)

/-- 'concourselaw13.ModelFiles', WHERE WHAT IT READS IS OF BULK AT MOST 1048576: true; the input reads as it did. -/
def modelFilesUptoRow : OpenClaim := { program := "ytffncojcnbhblaagreatdoor", sum := "c0767bd57677079bc92b1eff0c2fdd92ecc9051b9024ce28ef087285e8404cfb", func := "concourse/concourselaw13.ModelFiles", spec := "modelFiles", inPlace := ["slices.overlaps[concourse/api.Inode]", "slices.overlaps[concourse/api.Entry]", "slices.overlaps[concourse/api.Desc]"], unfollowed := true, recurses := true, named := ["unicode/utf8.first", "unicode/utf8.acceptRanges"], apart := false, laid := [("unicode/utf8.acceptRanges", laid_unicode_utf8_acceptRanges), ("unicode/utf8.first", laid_unicode_utf8_first)], narrowed := true }
def ModelFilesUptoSaid : Prop := modelFilesUptoRow.holds Tryz.pinned (OpenSpec.upto modelFilesSpec)

end Rows
end Go.Proofs.YtffncojcnbhblaaGreatDoor
