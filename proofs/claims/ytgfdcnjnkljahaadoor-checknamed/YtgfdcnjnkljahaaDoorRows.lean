/-
  NARROWER THAN 'FOR EVERY INPUT', by the rows' own cells (each row's printed sentence says how): CheckRows: laid · CheckMissing: laid · CheckTwice: laid · CheckLost: laid · CheckNamed: laid.
  DERIVED. THE GIVEN ROWS OF THIS SEAT. 5 by the template 'for every input the law returns true; each argument reads behind the call as it read before'; 0 by the template 'total and deterministic' (their statements: YtgfdcnjnkljahaaDoorTotals.lean).
  GIVEN WITH THE SEED: the statements are not yours to turn. If you find one false, say at which input.
  Laid BY PROGRAM, IN A SANDBOX (cutbox-rows.mjs): the forced cells as the released guide's own fill.sh prints them over the translation afe2078dfc7d6048… (all of the seat's roots in one cut). By AI agents, Wed Nov 11 2026. No macro, syntax, notation, axiom, sorry.
-/
import Derived.Test.YtgfdcnjnkljahaaDoorChecked
import GoSem.PinnedTables
import GoSem.Claim
import GoSem.ClaimJoined
import GoSem.ClaimMapViews
import Derived.JoinedTies
import Derived.KernelRfl
namespace Go.Proofs.YtgfdcnjnkljahaaDoor
/- THE CELL 'sum', in the pinned program and in every row, IS THE sha256 OF THE DUMP (.gsa) THAT YtgfdcnjnkljahaaDoorProg.lean LOADS. Nothing in Lean hashes anything: it is a label: what it is worth is what the hold of that sum in a sandbox is worth. -/
noncomputable def Tryd.pinned : Pinned := { name := "ytgfdcnjnkljahaadoor", sum := "afe2078dfc7d6048c0647dacaf5798533a506c918c1ddb7dc581d4e1250101a8", checked := Tryd.checked }
namespace Rows
def none {H : Type} : Left H := { results := [], args := [] }

/- WHAT THE LISTED PACKAGE-LEVEL VARIABLES READ AS WHEN THE CALL BEGINS. Each datum BY PROGRAM (the guide's laid-datum.mjs) off the statement by which the dump's own 'gosem.cut.vars' lays the variable. In a bare row this is a premise. The card (YtgfdcnjnkljahaaDoorCards.lean) ties it to the program's text. -/
def laid_unicode_utf8_acceptRanges {H : Type} : DataW H := .agg [.agg [.lit (.int .u8 128), .lit (.int .u8 191)], .agg [.lit (.int .u8 160), .lit (.int .u8 191)], .agg [.lit (.int .u8 128), .lit (.int .u8 159)], .agg [.lit (.int .u8 144), .lit (.int .u8 191)], .agg [.lit (.int .u8 128), .lit (.int .u8 143)], .agg [.lit (.int .u8 0), .lit (.int .u8 0)], .agg [.lit (.int .u8 0), .lit (.int .u8 0)], .agg [.lit (.int .u8 0), .lit (.int .u8 0)], .agg [.lit (.int .u8 0), .lit (.int .u8 0)], .agg [.lit (.int .u8 0), .lit (.int .u8 0)], .agg [.lit (.int .u8 0), .lit (.int .u8 0)], .agg [.lit (.int .u8 0), .lit (.int .u8 0)], .agg [.lit (.int .u8 0), .lit (.int .u8 0)], .agg [.lit (.int .u8 0), .lit (.int .u8 0)], .agg [.lit (.int .u8 0), .lit (.int .u8 0)], .agg [.lit (.int .u8 0), .lit (.int .u8 0)]]
/-- One of Go's own tables, pinned by name: the form's constant. -/
def laid_unicode_utf8_first : DataW Unit := Go.Pinned.utf8First

/-- 'concourselaw20.CheckRows': WHATEVER THE INPUT: true; the input reads as it did. -/
def checkRowsSpec : ChangeSpec := { name := "checkRows", fn := fun _ => fun
  | [d] => { results := [.lit (.bool true)], args := [d] }
  | _ => none }
def checkRowsRow : OpenClaim := { program := "ytgfdcnjnkljahaadoor", sum := "afe2078dfc7d6048c0647dacaf5798533a506c918c1ddb7dc581d4e1250101a8", func := "concourse/concourselaw20.CheckRows", spec := "checkRows", unfollowed := true, recurses := true, named := ["unicode/utf8.first", "unicode/utf8.acceptRanges"], apart := false, laid := [("unicode/utf8.acceptRanges", laid_unicode_utf8_acceptRanges), ("unicode/utf8.first", laid_unicode_utf8_first)] }
def CheckRowsSaid : Prop := checkRowsRow.holds Tryd.pinned (OpenSpec.ofChange checkRowsSpec)

/-- ITS FALSE NEIGHBOUR: 'it returns false'. Refute it at one input. -/
def checkRowsWrong : ChangeSpec := { name := "checkRows", fn := fun _ => fun
  | [d] => { results := [.lit (.bool false)], args := [d] }
  | _ => none }
def CheckRowsWrongFalsely : Prop := checkRowsRow.holds Tryd.pinned (OpenSpec.ofChange checkRowsWrong)

/-- 'concourselaw20.CheckMissing': WHATEVER THE INPUT: true; the input reads as it did. -/
def checkMissingSpec : ChangeSpec := { name := "checkMissing", fn := fun _ => fun
  | [d] => { results := [.lit (.bool true)], args := [d] }
  | _ => none }
def checkMissingRow : OpenClaim := { program := "ytgfdcnjnkljahaadoor", sum := "afe2078dfc7d6048c0647dacaf5798533a506c918c1ddb7dc581d4e1250101a8", func := "concourse/concourselaw20.CheckMissing", spec := "checkMissing", unfollowed := true, recurses := true, named := ["unicode/utf8.first", "unicode/utf8.acceptRanges"], apart := false, laid := [("unicode/utf8.acceptRanges", laid_unicode_utf8_acceptRanges), ("unicode/utf8.first", laid_unicode_utf8_first)] }
def CheckMissingSaid : Prop := checkMissingRow.holds Tryd.pinned (OpenSpec.ofChange checkMissingSpec)

/-- ITS FALSE NEIGHBOUR: 'it returns false'. Refute it at one input. -/
def checkMissingWrong : ChangeSpec := { name := "checkMissing", fn := fun _ => fun
  | [d] => { results := [.lit (.bool false)], args := [d] }
  | _ => none }
def CheckMissingWrongFalsely : Prop := checkMissingRow.holds Tryd.pinned (OpenSpec.ofChange checkMissingWrong)

/-- 'concourselaw20.CheckTwice': WHATEVER THE INPUT: true; the input reads as it did. -/
def checkTwiceSpec : ChangeSpec := { name := "checkTwice", fn := fun _ => fun
  | [d] => { results := [.lit (.bool true)], args := [d] }
  | _ => none }
def checkTwiceRow : OpenClaim := { program := "ytgfdcnjnkljahaadoor", sum := "afe2078dfc7d6048c0647dacaf5798533a506c918c1ddb7dc581d4e1250101a8", func := "concourse/concourselaw20.CheckTwice", spec := "checkTwice", unfollowed := true, recurses := true, named := ["unicode/utf8.first", "unicode/utf8.acceptRanges"], apart := false, laid := [("unicode/utf8.acceptRanges", laid_unicode_utf8_acceptRanges), ("unicode/utf8.first", laid_unicode_utf8_first)] }
def CheckTwiceSaid : Prop := checkTwiceRow.holds Tryd.pinned (OpenSpec.ofChange checkTwiceSpec)

/-- ITS FALSE NEIGHBOUR: 'it returns false'. Refute it at one input. -/
def checkTwiceWrong : ChangeSpec := { name := "checkTwice", fn := fun _ => fun
  | [d] => { results := [.lit (.bool false)], args := [d] }
  | _ => none }
def CheckTwiceWrongFalsely : Prop := checkTwiceRow.holds Tryd.pinned (OpenSpec.ofChange checkTwiceWrong)

/-- 'concourselaw20.CheckLost': WHATEVER THE INPUT: true; the input reads as it did. -/
def checkLostSpec : ChangeSpec := { name := "checkLost", fn := fun _ => fun
  | [d] => { results := [.lit (.bool true)], args := [d] }
  | _ => none }
def checkLostRow : OpenClaim := { program := "ytgfdcnjnkljahaadoor", sum := "afe2078dfc7d6048c0647dacaf5798533a506c918c1ddb7dc581d4e1250101a8", func := "concourse/concourselaw20.CheckLost", spec := "checkLost", unfollowed := true, recurses := true, named := ["unicode/utf8.first", "unicode/utf8.acceptRanges"], apart := false, laid := [("unicode/utf8.acceptRanges", laid_unicode_utf8_acceptRanges), ("unicode/utf8.first", laid_unicode_utf8_first)] }
def CheckLostSaid : Prop := checkLostRow.holds Tryd.pinned (OpenSpec.ofChange checkLostSpec)

/-- ITS FALSE NEIGHBOUR: 'it returns false'. Refute it at one input. -/
def checkLostWrong : ChangeSpec := { name := "checkLost", fn := fun _ => fun
  | [d] => { results := [.lit (.bool false)], args := [d] }
  | _ => none }
def CheckLostWrongFalsely : Prop := checkLostRow.holds Tryd.pinned (OpenSpec.ofChange checkLostWrong)

/-- 'concourselaw20.CheckNamed': WHATEVER THE INPUT: true; the input reads as it did. -/
def checkNamedSpec : ChangeSpec := { name := "checkNamed", fn := fun _ => fun
  | [d] => { results := [.lit (.bool true)], args := [d] }
  | _ => none }
def checkNamedRow : OpenClaim := { program := "ytgfdcnjnkljahaadoor", sum := "afe2078dfc7d6048c0647dacaf5798533a506c918c1ddb7dc581d4e1250101a8", func := "concourse/concourselaw20.CheckNamed", spec := "checkNamed", unfollowed := true, recurses := true, named := ["unicode/utf8.first", "unicode/utf8.acceptRanges"], apart := false, laid := [("unicode/utf8.acceptRanges", laid_unicode_utf8_acceptRanges), ("unicode/utf8.first", laid_unicode_utf8_first)] }
def CheckNamedSaid : Prop := checkNamedRow.holds Tryd.pinned (OpenSpec.ofChange checkNamedSpec)

/-- ITS FALSE NEIGHBOUR: 'it returns false'. Refute it at one input. -/
def checkNamedWrong : ChangeSpec := { name := "checkNamed", fn := fun _ => fun
  | [d] => { results := [.lit (.bool false)], args := [d] }
  | _ => none }
def CheckNamedWrongFalsely : Prop := checkNamedRow.holds Tryd.pinned (OpenSpec.ofChange checkNamedWrong)

/- THE SECOND FORM. 'bulk': how many values and letters a reading holds, each counted each time it is reached (what is shared counts as often as it is met; a slice's spare places count too). A statement '..UptoSaid' is the law's where the arguments, and the package variables that the reading takes, are together of bulk at most 1048576: NARROWER than '..Said'. Prove '..Said' where nothing that the law and all that it calls make is longer than what came in: it says more and counts as full. Else prove '..UptoSaid'. A law counts once. -/
mutual
def uptoBulk {H : Type} : DataW H → Nat
  | .lit (.string bytes) => bytes.length + 1
  | .lit _ => 1
  | .nil => 1
  | .ptr d => uptoBulk d + 1
  | .slice elems spare => uptoBulkAll elems + uptoBulkAll spare + 1
  | .agg parts => uptoBulkAll parts + 1
  | .iface _ d => uptoBulk d + 1
  | .map entries => uptoBulkEntries entries + 1
  | .held _ => 1
def uptoBulkAll {H : Type} : List (DataW H) → Nat
  | [] => 0
  | d :: r => uptoBulk d + uptoBulkAll r
def uptoBulkEntries {H : Type} : List (Lit × DataW H) → Nat
  | [] => 0
  | x :: r => uptoBulkEntry x + uptoBulkEntries r
def uptoBulkEntry {H : Type} : Lit × DataW H → Nat
  | (.string bytes, d) => bytes.length + uptoBulk d + 1
  | (_, d) => uptoBulk d + 1
 end
def uptoSmall : (H : Type) → List (DataW H) → Bool := fun _ ds => decide (uptoBulkAll ds ≤ 1048576)
def OpenSpec.upto (s : _root_.Go.ChangeSpec) : _root_.Go.OpenSpec := { _root_.Go.OpenSpec.ofChange s with cond := some uptoSmall }

/-- 'concourselaw20.CheckRows', WHERE WHAT IT READS IS OF BULK AT MOST 1048576: true; the input reads as it did. -/
def checkRowsUptoRow : OpenClaim := { program := "ytgfdcnjnkljahaadoor", sum := "afe2078dfc7d6048c0647dacaf5798533a506c918c1ddb7dc581d4e1250101a8", func := "concourse/concourselaw20.CheckRows", spec := "checkRows", unfollowed := true, recurses := true, named := ["unicode/utf8.first", "unicode/utf8.acceptRanges"], apart := false, laid := [("unicode/utf8.acceptRanges", laid_unicode_utf8_acceptRanges), ("unicode/utf8.first", laid_unicode_utf8_first)], narrowed := true }
def CheckRowsUptoSaid : Prop := checkRowsUptoRow.holds Tryd.pinned (OpenSpec.upto checkRowsSpec)

/-- 'concourselaw20.CheckMissing', WHERE WHAT IT READS IS OF BULK AT MOST 1048576: true; the input reads as it did. -/
def checkMissingUptoRow : OpenClaim := { program := "ytgfdcnjnkljahaadoor", sum := "afe2078dfc7d6048c0647dacaf5798533a506c918c1ddb7dc581d4e1250101a8", func := "concourse/concourselaw20.CheckMissing", spec := "checkMissing", unfollowed := true, recurses := true, named := ["unicode/utf8.first", "unicode/utf8.acceptRanges"], apart := false, laid := [("unicode/utf8.acceptRanges", laid_unicode_utf8_acceptRanges), ("unicode/utf8.first", laid_unicode_utf8_first)], narrowed := true }
def CheckMissingUptoSaid : Prop := checkMissingUptoRow.holds Tryd.pinned (OpenSpec.upto checkMissingSpec)

/-- 'concourselaw20.CheckTwice', WHERE WHAT IT READS IS OF BULK AT MOST 1048576: true; the input reads as it did. -/
def checkTwiceUptoRow : OpenClaim := { program := "ytgfdcnjnkljahaadoor", sum := "afe2078dfc7d6048c0647dacaf5798533a506c918c1ddb7dc581d4e1250101a8", func := "concourse/concourselaw20.CheckTwice", spec := "checkTwice", unfollowed := true, recurses := true, named := ["unicode/utf8.first", "unicode/utf8.acceptRanges"], apart := false, laid := [("unicode/utf8.acceptRanges", laid_unicode_utf8_acceptRanges), ("unicode/utf8.first", laid_unicode_utf8_first)], narrowed := true }
def CheckTwiceUptoSaid : Prop := checkTwiceUptoRow.holds Tryd.pinned (OpenSpec.upto checkTwiceSpec)

/-- 'concourselaw20.CheckLost', WHERE WHAT IT READS IS OF BULK AT MOST 1048576: true; the input reads as it did. -/
def checkLostUptoRow : OpenClaim := { program := "ytgfdcnjnkljahaadoor", sum := "afe2078dfc7d6048c0647dacaf5798533a506c918c1ddb7dc581d4e1250101a8", func := "concourse/concourselaw20.CheckLost", spec := "checkLost", unfollowed := true, recurses := true, named := ["unicode/utf8.first", "unicode/utf8.acceptRanges"], apart := false, laid := [("unicode/utf8.acceptRanges", laid_unicode_utf8_acceptRanges), ("unicode/utf8.first", laid_unicode_utf8_first)], narrowed := true }
def CheckLostUptoSaid : Prop := checkLostUptoRow.holds Tryd.pinned (OpenSpec.upto checkLostSpec)

/-- 'concourselaw20.CheckNamed', WHERE WHAT IT READS IS OF BULK AT MOST 1048576: true; the input reads as it did. -/
def checkNamedUptoRow : OpenClaim := { program := "ytgfdcnjnkljahaadoor", sum := "afe2078dfc7d6048c0647dacaf5798533a506c918c1ddb7dc581d4e1250101a8", func := "concourse/concourselaw20.CheckNamed", spec := "checkNamed", unfollowed := true, recurses := true, named := ["unicode/utf8.first", "unicode/utf8.acceptRanges"], apart := false, laid := [("unicode/utf8.acceptRanges", laid_unicode_utf8_acceptRanges), ("unicode/utf8.first", laid_unicode_utf8_first)], narrowed := true }
def CheckNamedUptoSaid : Prop := checkNamedUptoRow.holds Tryd.pinned (OpenSpec.upto checkNamedSpec)

end Rows
end Go.Proofs.YtgfdcnjnkljahaaDoor
