/-
  NARROWER THAN 'FOR EVERY INPUT', by the rows' own cells (each row's printed sentence says how): AllocActs: laid · AllocApart: laid · AllocAgain: laid · AllocShare: laid.
  DERIVED. THE GIVEN ROWS OF THIS SEAT. 4 by the template 'for every input the law returns true; each argument reads behind the call as it read before'; 0 by the template 'total and deterministic' (their statements: YtagnkdeeiligcaaDoorTotals.lean).
  GIVEN WITH THE SEED: the statements are not yours to turn. If you find one false, say at which input.
  Laid BY PROGRAM, IN A SANDBOX (cutbox-rows.mjs): the forced cells as the released guide's own fill.sh prints them over the translation 604e293989e2d3f6… (all of the seat's roots in one cut). By AI agents, Wed Nov 11 2026. No macro, syntax, notation, axiom, sorry.
-/
import Derived.Test.YtagnkdeeiligcaaDoorChecked
import GoSem.Claim
import GoSem.ClaimJoined
import GoSem.ClaimMapViews
import Derived.JoinedTies
import Derived.KernelRfl
namespace Go.Proofs.YtagnkdeeiligcaaDoor
/- THE CELL 'sum', in the pinned program and in every row, IS THE sha256 OF THE DUMP (.gsa) THAT YtagnkdeeiligcaaDoorProg.lean LOADS. Nothing in Lean hashes anything: it is a label: what it is worth is what the hold of that sum in a sandbox is worth. -/
noncomputable def Tryd.pinned : Pinned := { name := "ytagnkdeeiligcaadoor", sum := "604e293989e2d3f62d8e2cc14f723feabd7439a57a832acb6c05141557b55156", checked := Tryd.checked }
namespace Rows
def none {H : Type} : Left H := { results := [], args := [] }

/- WHAT THE LISTED PACKAGE-LEVEL VARIABLES READ AS WHEN THE CALL BEGINS. Each datum BY PROGRAM (the guide's laid-datum.mjs) off the statement by which the dump's own 'gosem.cut.vars' lays the variable. In a bare row this is a premise. The card (YtagnkdeeiligcaaDoorCards.lean) ties it to the program's text. -/
def laid_math_bits_deBruijn32tab {H : Type} : DataW H := .agg [.lit (.int .u8 0), .lit (.int .u8 1), .lit (.int .u8 28), .lit (.int .u8 2), .lit (.int .u8 29), .lit (.int .u8 14), .lit (.int .u8 24), .lit (.int .u8 3), .lit (.int .u8 30), .lit (.int .u8 22), .lit (.int .u8 20), .lit (.int .u8 15), .lit (.int .u8 25), .lit (.int .u8 17), .lit (.int .u8 4), .lit (.int .u8 8), .lit (.int .u8 31), .lit (.int .u8 27), .lit (.int .u8 13), .lit (.int .u8 23), .lit (.int .u8 21), .lit (.int .u8 19), .lit (.int .u8 16), .lit (.int .u8 7), .lit (.int .u8 26), .lit (.int .u8 12), .lit (.int .u8 18), .lit (.int .u8 6), .lit (.int .u8 11), .lit (.int .u8 5), .lit (.int .u8 10), .lit (.int .u8 9)]

/-- 'concourselaw4.AllocActs': WHATEVER THE INPUT: true; the input reads as it did. -/
def allocActsSpec : ChangeSpec := { name := "allocActs", fn := fun _ => fun
  | [d1, d2, d3, d4] => { results := [.lit (.bool true)], args := [d1, d2, d3, d4] }
  | _ => none }
def allocActsRow : OpenClaim := { program := "ytagnkdeeiligcaadoor", sum := "604e293989e2d3f62d8e2cc14f723feabd7439a57a832acb6c05141557b55156", func := "concourse/concourselaw4.AllocActs", spec := "allocActs", unfollowed := true, recurses := true, named := ["math/bits.deBruijn32tab"], apart := false, laid := [("math/bits.deBruijn32tab", laid_math_bits_deBruijn32tab)] }
def AllocActsSaid : Prop := allocActsRow.holds Tryd.pinned (OpenSpec.ofChange allocActsSpec)

/-- ITS FALSE NEIGHBOUR: 'it returns false'. Refute it at one input. -/
def allocActsWrong : ChangeSpec := { name := "allocActs", fn := fun _ => fun
  | [d1, d2, d3, d4] => { results := [.lit (.bool false)], args := [d1, d2, d3, d4] }
  | _ => none }
def AllocActsWrongFalsely : Prop := allocActsRow.holds Tryd.pinned (OpenSpec.ofChange allocActsWrong)

/-- 'concourselaw4.AllocApart': WHATEVER THE INPUT: true; the input reads as it did. -/
def allocApartSpec : ChangeSpec := { name := "allocApart", fn := fun _ => fun
  | [d1, d2] => { results := [.lit (.bool true)], args := [d1, d2] }
  | _ => none }
def allocApartRow : OpenClaim := { program := "ytagnkdeeiligcaadoor", sum := "604e293989e2d3f62d8e2cc14f723feabd7439a57a832acb6c05141557b55156", func := "concourse/concourselaw4.AllocApart", spec := "allocApart", unfollowed := true, recurses := true, named := ["math/bits.deBruijn32tab"], apart := false, laid := [("math/bits.deBruijn32tab", laid_math_bits_deBruijn32tab)] }
def AllocApartSaid : Prop := allocApartRow.holds Tryd.pinned (OpenSpec.ofChange allocApartSpec)

/-- ITS FALSE NEIGHBOUR: 'it returns false'. Refute it at one input. -/
def allocApartWrong : ChangeSpec := { name := "allocApart", fn := fun _ => fun
  | [d1, d2] => { results := [.lit (.bool false)], args := [d1, d2] }
  | _ => none }
def AllocApartWrongFalsely : Prop := allocApartRow.holds Tryd.pinned (OpenSpec.ofChange allocApartWrong)

/-- 'concourselaw4.AllocAgain': WHATEVER THE INPUT: true; the input reads as it did. -/
def allocAgainSpec : ChangeSpec := { name := "allocAgain", fn := fun _ => fun
  | [d1, d2] => { results := [.lit (.bool true)], args := [d1, d2] }
  | _ => none }
def allocAgainRow : OpenClaim := { program := "ytagnkdeeiligcaadoor", sum := "604e293989e2d3f62d8e2cc14f723feabd7439a57a832acb6c05141557b55156", func := "concourse/concourselaw4.AllocAgain", spec := "allocAgain", unfollowed := true, recurses := true, named := ["math/bits.deBruijn32tab"], apart := false, laid := [("math/bits.deBruijn32tab", laid_math_bits_deBruijn32tab)] }
def AllocAgainSaid : Prop := allocAgainRow.holds Tryd.pinned (OpenSpec.ofChange allocAgainSpec)

/-- ITS FALSE NEIGHBOUR: 'it returns false'. Refute it at one input. -/
def allocAgainWrong : ChangeSpec := { name := "allocAgain", fn := fun _ => fun
  | [d1, d2] => { results := [.lit (.bool false)], args := [d1, d2] }
  | _ => none }
def AllocAgainWrongFalsely : Prop := allocAgainRow.holds Tryd.pinned (OpenSpec.ofChange allocAgainWrong)

/-- 'concourselaw4.AllocShare': WHATEVER THE INPUT: true; the input reads as it did. -/
def allocShareSpec : ChangeSpec := { name := "allocShare", fn := fun _ => fun
  | [d1, d2] => { results := [.lit (.bool true)], args := [d1, d2] }
  | _ => none }
def allocShareRow : OpenClaim := { program := "ytagnkdeeiligcaadoor", sum := "604e293989e2d3f62d8e2cc14f723feabd7439a57a832acb6c05141557b55156", func := "concourse/concourselaw4.AllocShare", spec := "allocShare", unfollowed := true, recurses := true, named := ["math/bits.deBruijn32tab"], apart := false, laid := [("math/bits.deBruijn32tab", laid_math_bits_deBruijn32tab)] }
def AllocShareSaid : Prop := allocShareRow.holds Tryd.pinned (OpenSpec.ofChange allocShareSpec)

/-- ITS FALSE NEIGHBOUR: 'it returns false'. Refute it at one input. -/
def allocShareWrong : ChangeSpec := { name := "allocShare", fn := fun _ => fun
  | [d1, d2] => { results := [.lit (.bool false)], args := [d1, d2] }
  | _ => none }
def AllocShareWrongFalsely : Prop := allocShareRow.holds Tryd.pinned (OpenSpec.ofChange allocShareWrong)

/- THE SECOND FORM. 'bulk': how many values and letters a reading holds, each counted each time it is reached (what is shared counts as often as it is met; a slice's spare places count too). A statement '..UptoSaid' is the law's where the arguments, and the package variables that the reading takes, are together of bulk at most 1048576: NARROWER than '..Said'. Prove '..Said' where nothing that the law and all that it calls make is longer than what came in: it says more and counts as full. Else prove '..UptoSaid'. A law counts once. -/
mutual
def uptoBulk {H : Type} : DataW H → Nat
  | .lit (.string bytes) => bytes.length + 1
  | .lit _ => 1
  | .nil => 1
  | .ptr d => uptoBulk d + 1
  | .slice elems spare => uptoBulkAll elems + uptoBulkAll spare + 1
  | .agg parts => uptoBulkAll parts + 1
  | .iface _ d => uptoBulk d + 1
  | .map entries => uptoBulkEntries entries + 1
  | .held _ => 1
def uptoBulkAll {H : Type} : List (DataW H) → Nat
  | [] => 0
  | d :: r => uptoBulk d + uptoBulkAll r
def uptoBulkEntries {H : Type} : List (Lit × DataW H) → Nat
  | [] => 0
  | x :: r => uptoBulkEntry x + uptoBulkEntries r
def uptoBulkEntry {H : Type} : Lit × DataW H → Nat
  | (.string bytes, d) => bytes.length + uptoBulk d + 1
  | (_, d) => uptoBulk d + 1
 end
def uptoSmall : (H : Type) → List (DataW H) → Bool := fun _ ds => decide (uptoBulkAll ds ≤ 1048576)
def OpenSpec.upto (s : _root_.Go.ChangeSpec) : _root_.Go.OpenSpec := { _root_.Go.OpenSpec.ofChange s with cond := some uptoSmall }

/-- 'concourselaw4.AllocActs', WHERE WHAT IT READS IS OF BULK AT MOST 1048576: true; the input reads as it did. -/
def allocActsUptoRow : OpenClaim := { program := "ytagnkdeeiligcaadoor", sum := "604e293989e2d3f62d8e2cc14f723feabd7439a57a832acb6c05141557b55156", func := "concourse/concourselaw4.AllocActs", spec := "allocActs", unfollowed := true, recurses := true, named := ["math/bits.deBruijn32tab"], apart := false, laid := [("math/bits.deBruijn32tab", laid_math_bits_deBruijn32tab)], narrowed := true }
def AllocActsUptoSaid : Prop := allocActsUptoRow.holds Tryd.pinned (OpenSpec.upto allocActsSpec)

/-- 'concourselaw4.AllocApart', WHERE WHAT IT READS IS OF BULK AT MOST 1048576: true; the input reads as it did. -/
def allocApartUptoRow : OpenClaim := { program := "ytagnkdeeiligcaadoor", sum := "604e293989e2d3f62d8e2cc14f723feabd7439a57a832acb6c05141557b55156", func := "concourse/concourselaw4.AllocApart", spec := "allocApart", unfollowed := true, recurses := true, named := ["math/bits.deBruijn32tab"], apart := false, laid := [("math/bits.deBruijn32tab", laid_math_bits_deBruijn32tab)], narrowed := true }
def AllocApartUptoSaid : Prop := allocApartUptoRow.holds Tryd.pinned (OpenSpec.upto allocApartSpec)

/-- 'concourselaw4.AllocAgain', WHERE WHAT IT READS IS OF BULK AT MOST 1048576: true; the input reads as it did. -/
def allocAgainUptoRow : OpenClaim := { program := "ytagnkdeeiligcaadoor", sum := "604e293989e2d3f62d8e2cc14f723feabd7439a57a832acb6c05141557b55156", func := "concourse/concourselaw4.AllocAgain", spec := "allocAgain", unfollowed := true, recurses := true, named := ["math/bits.deBruijn32tab"], apart := false, laid := [("math/bits.deBruijn32tab", laid_math_bits_deBruijn32tab)], narrowed := true }
def AllocAgainUptoSaid : Prop := allocAgainUptoRow.holds Tryd.pinned (OpenSpec.upto allocAgainSpec)

/-- 'concourselaw4.AllocShare', WHERE WHAT IT READS IS OF BULK AT MOST 1048576: true; the input reads as it did. -/
def allocShareUptoRow : OpenClaim := { program := "ytagnkdeeiligcaadoor", sum := "604e293989e2d3f62d8e2cc14f723feabd7439a57a832acb6c05141557b55156", func := "concourse/concourselaw4.AllocShare", spec := "allocShare", unfollowed := true, recurses := true, named := ["math/bits.deBruijn32tab"], apart := false, laid := [("math/bits.deBruijn32tab", laid_math_bits_deBruijn32tab)], narrowed := true }
def AllocShareUptoSaid : Prop := allocShareUptoRow.holds Tryd.pinned (OpenSpec.upto allocShareSpec)

end Rows
end Go.Proofs.YtagnkdeeiligcaaDoor
