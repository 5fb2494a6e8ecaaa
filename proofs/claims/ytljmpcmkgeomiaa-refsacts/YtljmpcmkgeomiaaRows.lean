/-
  No cell of these rows narrows 'for every input' (looked for: loops, veiled, ifaces, maps, wideKeys, modest, calm, conditions, laid).
  DERIVED. THE GIVEN ROWS OF THIS SEAT. 4 by the template 'for every input the law returns true; each argument reads behind the call as it read before'; 0 by the template 'total and deterministic' (their statements: YtljmpcmkgeomiaaTotals.lean).
  GIVEN WITH THE SEED: the statements are not yours to turn. If you find one false, say at which input.
  Laid BY PROGRAM, IN A SANDBOX (cutbox-rows.mjs): the forced cells as the released guide's own fill.sh prints them over the translation 329f9c37d6980353… (all of the seat's roots in one cut). By AI agents, Wed Nov 11 2026. No macro, syntax, notation, axiom, sorry.
-/
import Derived.Test.YtljmpcmkgeomiaaChecked
import GoSem.Claim
import GoSem.ClaimJoined
import GoSem.ClaimMapViews
import Derived.JoinedTies
import Derived.KernelRfl
namespace Go.Proofs.Ytljmpcmkgeomiaa
/- THE CELL 'sum', in the pinned program and in every row, IS THE sha256 OF THE DUMP (.gsa) THAT YtljmpcmkgeomiaaProg.lean LOADS. Nothing in Lean hashes anything: it is a label: what it is worth is what the hold of that sum in a sandbox is worth. -/
noncomputable def Try.pinned : Pinned := { name := "ytljmpcmkgeomiaa", sum := "329f9c37d6980353013d543122e9ee30cbabd42965415c578b45cce33bba2174", checked := Try.checked }
namespace Rows
def none {H : Type} : Left H := { results := [], args := [] }

/-- 'concourselaw6.RefsActs': WHATEVER THE INPUT: true; the input reads as it did. -/
def refsActsSpec : ChangeSpec := { name := "refsActs", fn := fun _ => fun
  | [d1, d2, d3] => { results := [.lit (.bool true)], args := [d1, d2, d3] }
  | _ => none }
def refsActsRow : OpenClaim := { program := "ytljmpcmkgeomiaa", sum := "329f9c37d6980353013d543122e9ee30cbabd42965415c578b45cce33bba2174", func := "concourse/concourselaw6.RefsActs", spec := "refsActs", unfollowed := true, recurses := true, apart := false }
def RefsActsSaid : Prop := refsActsRow.holds Try.pinned (OpenSpec.ofChange refsActsSpec)

/-- ITS FALSE NEIGHBOUR: 'it returns false'. Refute it at one input. -/
def refsActsWrong : ChangeSpec := { name := "refsActs", fn := fun _ => fun
  | [d1, d2, d3] => { results := [.lit (.bool false)], args := [d1, d2, d3] }
  | _ => none }
def RefsActsWrongFalsely : Prop := refsActsRow.holds Try.pinned (OpenSpec.ofChange refsActsWrong)

/-- 'concourselaw6.RefsApart': WHATEVER THE INPUT: true; the input reads as it did. -/
def refsApartSpec : ChangeSpec := { name := "refsApart", fn := fun _ => fun
  | [d1, d2] => { results := [.lit (.bool true)], args := [d1, d2] }
  | _ => none }
def refsApartRow : OpenClaim := { program := "ytljmpcmkgeomiaa", sum := "329f9c37d6980353013d543122e9ee30cbabd42965415c578b45cce33bba2174", func := "concourse/concourselaw6.RefsApart", spec := "refsApart", unfollowed := true, recurses := true, apart := false }
def RefsApartSaid : Prop := refsApartRow.holds Try.pinned (OpenSpec.ofChange refsApartSpec)

/-- ITS FALSE NEIGHBOUR: 'it returns false'. Refute it at one input. -/
def refsApartWrong : ChangeSpec := { name := "refsApart", fn := fun _ => fun
  | [d1, d2] => { results := [.lit (.bool false)], args := [d1, d2] }
  | _ => none }
def RefsApartWrongFalsely : Prop := refsApartRow.holds Try.pinned (OpenSpec.ofChange refsApartWrong)

/-- 'concourselaw6.RefsTrue': WHATEVER THE INPUT: true; the input reads as it did. -/
def refsTrueSpec : ChangeSpec := { name := "refsTrue", fn := fun _ => fun
  | [d] => { results := [.lit (.bool true)], args := [d] }
  | _ => none }
def refsTrueRow : OpenClaim := { program := "ytljmpcmkgeomiaa", sum := "329f9c37d6980353013d543122e9ee30cbabd42965415c578b45cce33bba2174", func := "concourse/concourselaw6.RefsTrue", spec := "refsTrue", unfollowed := true, recurses := true, apart := false }
def RefsTrueSaid : Prop := refsTrueRow.holds Try.pinned (OpenSpec.ofChange refsTrueSpec)

/-- ITS FALSE NEIGHBOUR: 'it returns false'. Refute it at one input. -/
def refsTrueWrong : ChangeSpec := { name := "refsTrue", fn := fun _ => fun
  | [d] => { results := [.lit (.bool false)], args := [d] }
  | _ => none }
def RefsTrueWrongFalsely : Prop := refsTrueRow.holds Try.pinned (OpenSpec.ofChange refsTrueWrong)

/-- 'concourselaw6.RefsDies': WHATEVER THE INPUT: true; the input reads as it did. -/
def refsDiesSpec : ChangeSpec := { name := "refsDies", fn := fun _ => fun
  | [d1, d2] => { results := [.lit (.bool true)], args := [d1, d2] }
  | _ => none }
def refsDiesRow : OpenClaim := { program := "ytljmpcmkgeomiaa", sum := "329f9c37d6980353013d543122e9ee30cbabd42965415c578b45cce33bba2174", func := "concourse/concourselaw6.RefsDies", spec := "refsDies", unfollowed := true, recurses := true, apart := false }
def RefsDiesSaid : Prop := refsDiesRow.holds Try.pinned (OpenSpec.ofChange refsDiesSpec)

/-- ITS FALSE NEIGHBOUR: 'it returns false'. Refute it at one input. -/
def refsDiesWrong : ChangeSpec := { name := "refsDies", fn := fun _ => fun
  | [d1, d2] => { results := [.lit (.bool false)], args := [d1, d2] }
  | _ => none }
def RefsDiesWrongFalsely : Prop := refsDiesRow.holds Try.pinned (OpenSpec.ofChange refsDiesWrong)

/- THE SECOND FORM. 'bulk': how many values and letters a reading holds, each counted each time it is reached (what is shared counts as often as it is met; a slice's spare places count too). A statement '..UptoSaid' is the law's where the arguments, and the package variables that the reading takes, are together of bulk at most 1048576: NARROWER than '..Said'. Prove '..Said' where nothing that the law and all that it calls make is longer than what came in: it says more and counts as full. Else prove '..UptoSaid'. A law counts once. -/
mutual
def uptoBulk {H : Type} : DataW H → Nat
  | .lit (.string bytes) => bytes.length + 1
  | .lit _ => 1
  | .nil => 1
  | .ptr d => uptoBulk d + 1
  | .slice elems spare => uptoBulkAll elems + uptoBulkAll spare + 1
  | .agg parts => uptoBulkAll parts + 1
  | .iface _ d => uptoBulk d + 1
  | .map entries => uptoBulkEntries entries + 1
  | .held _ => 1
def uptoBulkAll {H : Type} : List (DataW H) → Nat
  | [] => 0
  | d :: r => uptoBulk d + uptoBulkAll r
def uptoBulkEntries {H : Type} : List (Lit × DataW H) → Nat
  | [] => 0
  | x :: r => uptoBulkEntry x + uptoBulkEntries r
def uptoBulkEntry {H : Type} : Lit × DataW H → Nat
  | (.string bytes, d) => bytes.length + uptoBulk d + 1
  | (_, d) => uptoBulk d + 1
 end
def uptoSmall : (H : Type) → List (DataW H) → Bool := fun _ ds => decide (uptoBulkAll ds ≤ 1048576)
def OpenSpec.upto (s : _root_.Go.ChangeSpec) : _root_.Go.OpenSpec := { _root_.Go.OpenSpec.ofChange s with cond := some uptoSmall }

/-- 'concourselaw6.RefsActs', WHERE WHAT IT READS IS OF BULK AT MOST 1048576: true; the input reads as it did. -/
def refsActsUptoRow : OpenClaim := { program := "ytljmpcmkgeomiaa", sum := "329f9c37d6980353013d543122e9ee30cbabd42965415c578b45cce33bba2174", func := "concourse/concourselaw6.RefsActs", spec := "refsActs", unfollowed := true, recurses := true, apart := false, narrowed := true }
def RefsActsUptoSaid : Prop := refsActsUptoRow.holds Try.pinned (OpenSpec.upto refsActsSpec)

/-- 'concourselaw6.RefsApart', WHERE WHAT IT READS IS OF BULK AT MOST 1048576: true; the input reads as it did. -/
def refsApartUptoRow : OpenClaim := { program := "ytljmpcmkgeomiaa", sum := "329f9c37d6980353013d543122e9ee30cbabd42965415c578b45cce33bba2174", func := "concourse/concourselaw6.RefsApart", spec := "refsApart", unfollowed := true, recurses := true, apart := false, narrowed := true }
def RefsApartUptoSaid : Prop := refsApartUptoRow.holds Try.pinned (OpenSpec.upto refsApartSpec)

/-- 'concourselaw6.RefsTrue', WHERE WHAT IT READS IS OF BULK AT MOST 1048576: true; the input reads as it did. -/
def refsTrueUptoRow : OpenClaim := { program := "ytljmpcmkgeomiaa", sum := "329f9c37d6980353013d543122e9ee30cbabd42965415c578b45cce33bba2174", func := "concourse/concourselaw6.RefsTrue", spec := "refsTrue", unfollowed := true, recurses := true, apart := false, narrowed := true }
def RefsTrueUptoSaid : Prop := refsTrueUptoRow.holds Try.pinned (OpenSpec.upto refsTrueSpec)

/-- 'concourselaw6.RefsDies', WHERE WHAT IT READS IS OF BULK AT MOST 1048576: true; the input reads as it did. -/
def refsDiesUptoRow : OpenClaim := { program := "ytljmpcmkgeomiaa", sum := "329f9c37d6980353013d543122e9ee30cbabd42965415c578b45cce33bba2174", func := "concourse/concourselaw6.RefsDies", spec := "refsDies", unfollowed := true, recurses := true, apart := false, narrowed := true }
def RefsDiesUptoSaid : Prop := refsDiesUptoRow.holds Try.pinned (OpenSpec.upto refsDiesSpec)

end Rows
end Go.Proofs.Ytljmpcmkgeomiaa
