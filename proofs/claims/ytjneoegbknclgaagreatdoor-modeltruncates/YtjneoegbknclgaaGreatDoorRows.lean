/-
  NARROWER THAN 'FOR EVERY INPUT', by the rows' own cells (each row's printed sentence says how): ModelTruncates: laid · ModelLinked: laid · ModelRemoves: laid · ModelRenames: laid · ModelOpens: laid · ModelWrites: laid.
  DERIVED. THE GIVEN ROWS OF THIS SEAT. 6 by the template 'for every input the law returns true; each argument reads behind the call as it read before'; 0 by the template 'total and deterministic' (their statements: YtjneoegbknclgaaGreatDoorTotals.lean).
  GIVEN WITH THE SEED: the statements are not yours to turn. If you find one false, say at which input.
  Laid BY PROGRAM, IN A SANDBOX (cutbox-rows.mjs): the forced cells as the released guide's own fill.sh prints them over the translation 00493384e1f40f17… (all of the seat's roots in one cut). By AI agents, Wed Nov 11 2026. No macro, syntax, notation, axiom, sorry.
-/
import Derived.Test.YtjneoegbknclgaaGreatDoorChecked
import GoSem.PinnedTables
import GoSem.Claim
import GoSem.ClaimJoined
import GoSem.ClaimMapViews
import Derived.JoinedTies
import Derived.KernelRfl
namespace Go.Proofs.YtjneoegbknclgaaGreatDoor
/- THE CELL 'sum', in the pinned program and in every row, IS THE sha256 OF THE DUMP (.gsa) THAT YtjneoegbknclgaaGreatDoorProg.lean LOADS. Nothing in Lean hashes anything: it is a label: what it is worth is what the hold of that sum in a sandbox is worth. -/
noncomputable def Tryz.pinned : Pinned := { name := "ytjneoegbknclgaagreatdoor", sum := "00493384e1f40f17cad18047744603a4d1678b95a097e56d8b5535b474ad054c", checked := Tryz.checked }
namespace Rows
def none {H : Type} : Left H := { results := [], args := [] }

/- WHAT THE LISTED PACKAGE-LEVEL VARIABLES READ AS WHEN THE CALL BEGINS. Each datum BY PROGRAM (the guide's laid-datum.mjs) off the statement by which the dump's own 'gosem.cut.vars' lays the variable. In a bare row this is a premise. The card (YtjneoegbknclgaaGreatDoorCards.lean) ties it to the program's text. -/
def laid_unicode_utf8_acceptRanges {H : Type} : DataW H := .agg [.agg [.lit (.int .u8 128), .lit (.int .u8 191)], .agg [.lit (.int .u8 160), .lit (.int .u8 191)], .agg [.lit (.int .u8 128), .lit (.int .u8 159)], .agg [.lit (.int .u8 144), .lit (.int .u8 191)], .agg [.lit (.int .u8 128), .lit (.int .u8 143)], .agg [.lit (.int .u8 0), .lit (.int .u8 0)], .agg [.lit (.int .u8 0), .lit (.int .u8 0)], .agg [.lit (.int .u8 0), .lit (.int .u8 0)], .agg [.lit (.int .u8 0), .lit (.int .u8 0)], .agg [.lit (.int .u8 0), .lit (.int .u8 0)], .agg [.lit (.int .u8 0), .lit (.int .u8 0)], .agg [.lit (.int .u8 0), .lit (.int .u8 0)], .agg [.lit (.int .u8 0), .lit (.int .u8 0)], .agg [.lit (.int .u8 0), .lit (.int .u8 0)], .agg [.lit (.int .u8 0), .lit (.int .u8 0)], .agg [.lit (.int .u8 0), .lit (.int .u8 0)]]
/-- One of Go's own tables, pinned by name: the form's constant. -/
def laid_unicode_utf8_first : DataW Unit := Go.Pinned.utf8First

/-- 'concourselaw13.ModelTruncates': WHATEVER THE INPUT: true; the input reads as it did. -/
def modelTruncatesSpec : ChangeSpec := { name := "modelTruncates", fn := fun _ => fun
  | [d] => { results := [.lit (.bool true)], args := [d] }
  | _ => none }
def modelTruncatesRow : OpenClaim := { program := "ytjneoegbknclgaagreatdoor", sum := "00493384e1f40f17cad18047744603a4d1678b95a097e56d8b5535b474ad054c", func := "concourse/concourselaw13.ModelTruncates", spec := "modelTruncates", inPlace := ["slices.overlaps[concourse/api.Inode]", "slices.overlaps[concourse/api.Entry]", "slices.overlaps[concourse/api.Desc]"], unfollowed := true, recurses := true, named := ["unicode/utf8.first", "unicode/utf8.acceptRanges"], apart := false, laid := [("unicode/utf8.acceptRanges", laid_unicode_utf8_acceptRanges), ("unicode/utf8.first", laid_unicode_utf8_first)] }
def ModelTruncatesSaid : Prop := modelTruncatesRow.holds Tryz.pinned (OpenSpec.ofChange modelTruncatesSpec)

/-- ITS FALSE NEIGHBOUR: 'it returns false'. Refute it at one input. -/
def modelTruncatesWrong : ChangeSpec := { name := "modelTruncates", fn := fun _ => fun
  | [d] => { results := [.lit (.bool false)], args := [d] }
  | _ => none }
def ModelTruncatesWrongFalsely : Prop := modelTruncatesRow.holds Tryz.pinned (OpenSpec.ofChange modelTruncatesWrong)

/-- 'concourselaw13.ModelLinked': WHATEVER THE INPUT: true; the input reads as it did. -/
def modelLinkedSpec : ChangeSpec := { name := "modelLinked", fn := fun _ => fun
  | [d1, d2] => { results := [.lit (.bool true)], args := [d1, d2] }
  | _ => none }
def modelLinkedRow : OpenClaim := { program := "ytjneoegbknclgaagreatdoor", sum := "00493384e1f40f17cad18047744603a4d1678b95a097e56d8b5535b474ad054c", func := "concourse/concourselaw13.ModelLinked", spec := "modelLinked", inPlace := ["slices.overlaps[concourse/api.Inode]", "slices.overlaps[concourse/api.Entry]", "slices.overlaps[concourse/api.Desc]"], unfollowed := true, recurses := true, named := ["unicode/utf8.first", "unicode/utf8.acceptRanges"], apart := false, laid := [("unicode/utf8.acceptRanges", laid_unicode_utf8_acceptRanges), ("unicode/utf8.first", laid_unicode_utf8_first)] }
def ModelLinkedSaid : Prop := modelLinkedRow.holds Tryz.pinned (OpenSpec.ofChange modelLinkedSpec)

/-- ITS FALSE NEIGHBOUR: 'it returns false'. Refute it at one input. -/
def modelLinkedWrong : ChangeSpec := { name := "modelLinked", fn := fun _ => fun
  | [d1, d2] => { results := [.lit (.bool false)], args := [d1, d2] }
  | _ => none }
def ModelLinkedWrongFalsely : Prop := modelLinkedRow.holds Tryz.pinned (OpenSpec.ofChange modelLinkedWrong)

/-- 'concourselaw13.ModelRemoves': WHATEVER THE INPUT: true; the input reads as it did. -/
def modelRemovesSpec : ChangeSpec := { name := "modelRemoves", fn := fun _ => fun
  | [d1, d2] => { results := [.lit (.bool true)], args := [d1, d2] }
  | _ => none }
def modelRemovesRow : OpenClaim := { program := "ytjneoegbknclgaagreatdoor", sum := "00493384e1f40f17cad18047744603a4d1678b95a097e56d8b5535b474ad054c", func := "concourse/concourselaw13.ModelRemoves", spec := "modelRemoves", inPlace := ["slices.overlaps[concourse/api.Inode]", "slices.overlaps[concourse/api.Entry]", "slices.overlaps[concourse/api.Desc]"], unfollowed := true, recurses := true, named := ["unicode/utf8.first", "unicode/utf8.acceptRanges"], apart := false, laid := [("unicode/utf8.acceptRanges", laid_unicode_utf8_acceptRanges), ("unicode/utf8.first", laid_unicode_utf8_first)] }
def ModelRemovesSaid : Prop := modelRemovesRow.holds Tryz.pinned (OpenSpec.ofChange modelRemovesSpec)

/-- ITS FALSE NEIGHBOUR: 'it returns false'. Refute it at one input. -/
def modelRemovesWrong : ChangeSpec := { name := "modelRemoves", fn := fun _ => fun
  | [d1, d2] => { results := [.lit (.bool false)], args := [d1, d2] }
  | _ => none }
def ModelRemovesWrongFalsely : Prop := modelRemovesRow.holds Tryz.pinned (OpenSpec.ofChange modelRemovesWrong)

/-- 'concourselaw13.ModelRenames': WHATEVER THE INPUT: true; the input reads as it did. -/
def modelRenamesSpec : ChangeSpec := { name := "modelRenames", fn := fun _ => fun
  | [d1, d2] => { results := [.lit (.bool true)], args := [d1, d2] }
  | _ => none }
def modelRenamesRow : OpenClaim := { program := "ytjneoegbknclgaagreatdoor", sum := "00493384e1f40f17cad18047744603a4d1678b95a097e56d8b5535b474ad054c", func := "concourse/concourselaw13.ModelRenames", spec := "modelRenames", inPlace := ["slices.overlaps[concourse/api.Inode]", "slices.overlaps[concourse/api.Entry]", "slices.overlaps[concourse/api.Desc]"], unfollowed := true, recurses := true, named := ["unicode/utf8.first", "unicode/utf8.acceptRanges"], apart := false, laid := [("unicode/utf8.acceptRanges", laid_unicode_utf8_acceptRanges), ("unicode/utf8.first", laid_unicode_utf8_first)] }
def ModelRenamesSaid : Prop := modelRenamesRow.holds Tryz.pinned (OpenSpec.ofChange modelRenamesSpec)

/-- ITS FALSE NEIGHBOUR: 'it returns false'. Refute it at one input. -/
def modelRenamesWrong : ChangeSpec := { name := "modelRenames", fn := fun _ => fun
  | [d1, d2] => { results := [.lit (.bool false)], args := [d1, d2] }
  | _ => none }
def ModelRenamesWrongFalsely : Prop := modelRenamesRow.holds Tryz.pinned (OpenSpec.ofChange modelRenamesWrong)

/-- 'concourselaw13.ModelOpens': WHATEVER THE INPUT: true; the input reads as it did. -/
def modelOpensSpec : ChangeSpec := { name := "modelOpens", fn := fun _ => fun
  | [d1, d2, d3] => { results := [.lit (.bool true)], args := [d1, d2, d3] }
  | _ => none }
def modelOpensRow : OpenClaim := { program := "ytjneoegbknclgaagreatdoor", sum := "00493384e1f40f17cad18047744603a4d1678b95a097e56d8b5535b474ad054c", func := "concourse/concourselaw13.ModelOpens", spec := "modelOpens", inPlace := ["slices.overlaps[concourse/api.Inode]", "slices.overlaps[concourse/api.Entry]", "slices.overlaps[concourse/api.Desc]"], unfollowed := true, recurses := true, named := ["unicode/utf8.first", "unicode/utf8.acceptRanges"], apart := false, laid := [("unicode/utf8.acceptRanges", laid_unicode_utf8_acceptRanges), ("unicode/utf8.first", laid_unicode_utf8_first)] }
def ModelOpensSaid : Prop := modelOpensRow.holds Tryz.pinned (OpenSpec.ofChange modelOpensSpec)

/-- ITS FALSE NEIGHBOUR: 'it returns false'. Refute it at one input. -/
def modelOpensWrong : ChangeSpec := { name := "modelOpens", fn := fun _ => fun
  | [d1, d2, d3] => { results := [.lit (.bool false)], args := [d1, d2, d3] }
  | _ => none }
def ModelOpensWrongFalsely : Prop := modelOpensRow.holds Tryz.pinned (OpenSpec.ofChange modelOpensWrong)

/-- 'concourselaw13.ModelWrites': WHATEVER THE INPUT: true; the input reads as it did. -/
def modelWritesSpec : ChangeSpec := { name := "modelWrites", fn := fun _ => fun
  | [d1, d2, d3, d4] => { results := [.lit (.bool true)], args := [d1, d2, d3, d4] }
  | _ => none }
def modelWritesRow : OpenClaim := { program := "ytjneoegbknclgaagreatdoor", sum := "00493384e1f40f17cad18047744603a4d1678b95a097e56d8b5535b474ad054c", func := "concourse/concourselaw13.ModelWrites", spec := "modelWrites", inPlace := ["slices.overlaps[concourse/api.Inode]", "slices.overlaps[concourse/api.Entry]", "slices.overlaps[concourse/api.Desc]"], unfollowed := true, recurses := true, named := ["unicode/utf8.first", "unicode/utf8.acceptRanges"], apart := false, laid := [("unicode/utf8.acceptRanges", laid_unicode_utf8_acceptRanges), ("unicode/utf8.first", laid_unicode_utf8_first)] }
def ModelWritesSaid : Prop := modelWritesRow.holds Tryz.pinned (OpenSpec.ofChange modelWritesSpec)

/-- ITS FALSE NEIGHBOUR: 'it returns false'. Refute it at one input. -/
def modelWritesWrong : ChangeSpec := { name := "modelWrites", fn := fun _ => fun
  | [d1, d2, d3, d4] => { results := [.lit (.bool false)], args := [d1, d2, d3, d4] }
  | _ => none }
def ModelWritesWrongFalsely : Prop := modelWritesRow.holds Tryz.pinned (OpenSpec.ofChange modelWritesWrong)

/- THE SECOND FORM. 'bulk': how many values and letters a reading holds, each counted each time it is reached (what is shared counts as often as it is met; a slice's spare places count too). A statement '..UptoSaid' is the law's where the arguments, and the package variables that the reading takes, are together of bulk at most 1048576: NARROWER than '..Said'. Prove '..Said' where nothing that the law and all that it calls make is longer than what came in: it says more and counts as full. Else prove '..UptoSaid'. A law counts once. -/
mutual
def uptoBulk {H : Type} : DataW H → Nat
  | .lit (.string bytes) => bytes.length + 1
  | .lit _ => 1
  | .nil => 1
  | .ptr d => uptoBulk d + 1
  | .slice elems spare => uptoBulkAll elems + uptoBulkAll spare + 1
  | .agg parts => uptoBulkAll parts + 1
  | .iface _ d => uptoBulk d + 1
  | .map entries => uptoBulkEntries entries + 1
  | .held _ => 1
def uptoBulkAll {H : Type} : List (DataW H) → Nat
  | [] => 0
  | d :: r => uptoBulk d + uptoBulkAll r
def uptoBulkEntries {H : Type} : List (Lit × DataW H) → Nat
  | [] => 0
  | x :: r => uptoBulkEntry x + uptoBulkEntries r
def uptoBulkEntry {H : Type} : Lit × DataW H → Nat
  | (.string bytes, d) => bytes.length + uptoBulk d + 1
  | (_, d) => uptoBulk d + 1
 end
def uptoSmall : (H : Type) → List (DataW H) → Bool := fun _ ds => decide (uptoBulkAll ds ≤ 1048576)
def OpenSpec.upto (s : _root_.Go.ChangeSpec) : _root_.Go.OpenSpec := { _root_.Go.OpenSpec.ofChange s with cond := some uptoSmall }

/-- 'concourselaw13.ModelTruncates', WHERE WHAT IT READS IS OF BULK AT MOST 1048576: true; the input reads as it did. -/
def modelTruncatesUptoRow : OpenClaim := { program := "ytjneoegbknclgaagreatdoor", sum := "00493384e1f40f17cad18047744603a4d1678b95a097e56d8b5535b474ad054c", func := "concourse/concourselaw13.ModelTruncates", spec := "modelTruncates", inPlace := ["slices.overlaps[concourse/api.Inode]", "slices.overlaps[concourse/api.Entry]", "slices.overlaps[concourse/api.Desc]"], unfollowed := true, recurses := true, named := ["unicode/utf8.first", "unicode/utf8.acceptRanges"], apart := false, laid := [("unicode/utf8.acceptRanges", laid_unicode_utf8_acceptRanges), ("unicode/utf8.first", laid_unicode_utf8_first)], narrowed := true }
def ModelTruncatesUptoSaid : Prop := modelTruncatesUptoRow.holds Tryz.pinned (OpenSpec.upto modelTruncatesSpec)

/-- 'concourselaw13.ModelLinked', WHERE WHAT IT READS IS OF BULK AT MOST 1048576: true; the input reads as it did. -/
def modelLinkedUptoRow : OpenClaim := { program := "ytjneoegbknclgaagreatdoor", sum := "00493384e1f40f17cad18047744603a4d1678b95a097e56d8b5535b474ad054c", func := "concourse/concourselaw13.ModelLinked", spec := "modelLinked", inPlace := ["slices.overlaps[concourse/api.Inode]", "slices.overlaps[concourse/api.Entry]", "slices.overlaps[concourse/api.Desc]"], unfollowed := true, recurses := true, named := ["unicode/utf8.first", "unicode/utf8.acceptRanges"], apart := false, laid := [("unicode/utf8.acceptRanges", laid_unicode_utf8_acceptRanges), ("unicode/utf8.first", laid_unicode_utf8_first)], narrowed := true }
def ModelLinkedUptoSaid : Prop := modelLinkedUptoRow.holds Tryz.pinned (OpenSpec.upto modelLinkedSpec)

/-- 'concourselaw13.ModelRemoves', WHERE WHAT IT READS IS OF BULK AT MOST 1048576: true; the input reads as it did. -/
def modelRemovesUptoRow : OpenClaim := { program := "ytjneoegbknclgaagreatdoor", sum := "00493384e1f40f17cad18047744603a4d1678b95a097e56d8b5535b474ad054c", func := "concourse/concourselaw13.ModelRemoves", spec := "modelRemoves", inPlace := ["slices.overlaps[concourse/api.Inode]", "slices.overlaps[concourse/api.Entry]", "slices.overlaps[concourse/api.Desc]"], unfollowed := true, recurses := true, named := ["unicode/utf8.first", "unicode/utf8.acceptRanges"], apart := false, laid := [("unicode/utf8.acceptRanges", laid_unicode_utf8_acceptRanges), ("unicode/utf8.first", laid_unicode_utf8_first)], narrowed := true }
def ModelRemovesUptoSaid : Prop := modelRemovesUptoRow.holds Tryz.pinned (OpenSpec.upto modelRemovesSpec)

/-- 'concourselaw13.ModelRenames', WHERE WHAT IT READS IS OF BULK AT MOST 1048576: true; the input reads as it did. -/
def modelRenamesUptoRow : OpenClaim := { program := "ytjneoegbknclgaagreatdoor", sum := "00493384e1f40f17cad18047744603a4d1678b95a097e56d8b5535b474ad054c", func := "concourse/concourselaw13.ModelRenames", spec := "modelRenames", inPlace := ["slices.overlaps[concourse/api.Inode]", "slices.overlaps[concourse/api.Entry]", "slices.overlaps[concourse/api.Desc]"], unfollowed := true, recurses := true, named := ["unicode/utf8.first", "unicode/utf8.acceptRanges"], apart := false, laid := [("unicode/utf8.acceptRanges", laid_unicode_utf8_acceptRanges), ("unicode/utf8.first", laid_unicode_utf8_first)], narrowed := true }
def ModelRenamesUptoSaid : Prop := modelRenamesUptoRow.holds Tryz.pinned (OpenSpec.upto modelRenamesSpec)

/-- 'concourselaw13.ModelOpens', WHERE WHAT IT READS IS OF BULK AT MOST 1048576: true; the input reads as it did. -/
def modelOpensUptoRow : OpenClaim := { program := "ytjneoegbknclgaagreatdoor", sum := "00493384e1f40f17cad18047744603a4d1678b95a097e56d8b5535b474ad054c", func := "concourse/concourselaw13.ModelOpens", spec := "modelOpens", inPlace := ["slices.overlaps[concourse/api.Inode]", "slices.overlaps[concourse/api.Entry]", "slices.overlaps[concourse/api.Desc]"], unfollowed := true, recurses := true, named := ["unicode/utf8.first", "unicode/utf8.acceptRanges"], apart := false, laid := [("unicode/utf8.acceptRanges", laid_unicode_utf8_acceptRanges), ("unicode/utf8.first", laid_unicode_utf8_first)], narrowed := true }
def ModelOpensUptoSaid : Prop := modelOpensUptoRow.holds Tryz.pinned (OpenSpec.upto modelOpensSpec)

/-- 'concourselaw13.ModelWrites', WHERE WHAT IT READS IS OF BULK AT MOST 1048576: true; the input reads as it did. -/
def modelWritesUptoRow : OpenClaim := { program := "ytjneoegbknclgaagreatdoor", sum := "00493384e1f40f17cad18047744603a4d1678b95a097e56d8b5535b474ad054c", func := "concourse/concourselaw13.ModelWrites", spec := "modelWrites", inPlace := ["slices.overlaps[concourse/api.Inode]", "slices.overlaps[concourse/api.Entry]", "slices.overlaps[concourse/api.Desc]"], unfollowed := true, recurses := true, named := ["unicode/utf8.first", "unicode/utf8.acceptRanges"], apart := false, laid := [("unicode/utf8.acceptRanges", laid_unicode_utf8_acceptRanges), ("unicode/utf8.first", laid_unicode_utf8_first)], narrowed := true }
def ModelWritesUptoSaid : Prop := modelWritesUptoRow.holds Tryz.pinned (OpenSpec.upto modelWritesSpec)

end Rows
end Go.Proofs.YtjneoegbknclgaaGreatDoor
