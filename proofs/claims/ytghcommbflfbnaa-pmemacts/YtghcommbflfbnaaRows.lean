/-
  No cell of these rows narrows 'for every input' (looked for: loops, veiled, ifaces, maps, wideKeys, modest, calm, conditions, laid).
  DERIVED. THE GIVEN ROWS OF THIS SEAT. 6 by the template 'for every input the law returns true; each argument reads behind the call as it read before'; 0 by the template 'total and deterministic' (their statements: YtghcommbflfbnaaTotals.lean).
  GIVEN WITH THE SEED: the statements are not yours to turn. If you find one false, say at which input.
  Laid BY PROGRAM, IN A SANDBOX (cutbox-rows.mjs): the forced cells as the released guide's own fill.sh prints them over the translation ea7688836ceb7e72… (all of the seat's roots in one cut). By AI agents, Wed Nov 11 2026. No macro, syntax, notation, axiom, sorry.
-/
import Derived.Test.YtghcommbflfbnaaChecked
import GoSem.Claim
import GoSem.ClaimJoined
import GoSem.ClaimMapViews
import Derived.JoinedTies
import Derived.KernelRfl
namespace Go.Proofs.Ytghcommbflfbnaa
/- THE CELL 'sum', in the pinned program and in every row, IS THE sha256 OF THE DUMP (.gsa) THAT YtghcommbflfbnaaProg.lean LOADS. Nothing in Lean hashes anything: it is a label: what it is worth is what the hold of that sum in a sandbox is worth. -/
noncomputable def Try.pinned : Pinned := { name := "ytghcommbflfbnaa", sum := "ea7688836ceb7e7201a9b12aeaf4b5401c8cdb84900ead3e7c21f6eb7b207719", checked := Try.checked }
namespace Rows
def none {H : Type} : Left H := { results := [], args := [] }

/-- 'concourselaw1.PmemActs': WHATEVER THE INPUT: true; the input reads as it did. -/
def pmemActsSpec : ChangeSpec := { name := "pmemActs", fn := fun _ => fun
  | [d1, d2] => { results := [.lit (.bool true)], args := [d1, d2] }
  | _ => none }
def pmemActsRow : OpenClaim := { program := "ytghcommbflfbnaa", sum := "ea7688836ceb7e7201a9b12aeaf4b5401c8cdb84900ead3e7c21f6eb7b207719", func := "concourse/concourselaw1.PmemActs", spec := "pmemActs", inPlace := ["maps.clone"], unfollowed := true, recurses := true, apart := false }
def PmemActsSaid : Prop := pmemActsRow.holds Try.pinned (OpenSpec.ofChange pmemActsSpec)

/-- ITS FALSE NEIGHBOUR: 'it returns false'. Refute it at one input. -/
def pmemActsWrong : ChangeSpec := { name := "pmemActs", fn := fun _ => fun
  | [d1, d2] => { results := [.lit (.bool false)], args := [d1, d2] }
  | _ => none }
def PmemActsWrongFalsely : Prop := pmemActsRow.holds Try.pinned (OpenSpec.ofChange pmemActsWrong)

/-- 'concourselaw1.PmemFenced': WHATEVER THE INPUT: true; the input reads as it did. -/
def pmemFencedSpec : ChangeSpec := { name := "pmemFenced", fn := fun _ => fun
  | [d1, d2, d3] => { results := [.lit (.bool true)], args := [d1, d2, d3] }
  | _ => none }
def pmemFencedRow : OpenClaim := { program := "ytghcommbflfbnaa", sum := "ea7688836ceb7e7201a9b12aeaf4b5401c8cdb84900ead3e7c21f6eb7b207719", func := "concourse/concourselaw1.PmemFenced", spec := "pmemFenced", unfollowed := true, recurses := true, apart := false }
def PmemFencedSaid : Prop := pmemFencedRow.holds Try.pinned (OpenSpec.ofChange pmemFencedSpec)

/-- ITS FALSE NEIGHBOUR: 'it returns false'. Refute it at one input. -/
def pmemFencedWrong : ChangeSpec := { name := "pmemFenced", fn := fun _ => fun
  | [d1, d2, d3] => { results := [.lit (.bool false)], args := [d1, d2, d3] }
  | _ => none }
def PmemFencedWrongFalsely : Prop := pmemFencedRow.holds Try.pinned (OpenSpec.ofChange pmemFencedWrong)

/-- 'concourselaw1.PmemFuses': WHATEVER THE INPUT: true; the input reads as it did. -/
def pmemFusesSpec : ChangeSpec := { name := "pmemFuses", fn := fun _ => fun
  | [d1, d2] => { results := [.lit (.bool true)], args := [d1, d2] }
  | _ => none }
def pmemFusesRow : OpenClaim := { program := "ytghcommbflfbnaa", sum := "ea7688836ceb7e7201a9b12aeaf4b5401c8cdb84900ead3e7c21f6eb7b207719", func := "concourse/concourselaw1.PmemFuses", spec := "pmemFuses", unfollowed := true, recurses := true, apart := false }
def PmemFusesSaid : Prop := pmemFusesRow.holds Try.pinned (OpenSpec.ofChange pmemFusesSpec)

/-- ITS FALSE NEIGHBOUR: 'it returns false'. Refute it at one input. -/
def pmemFusesWrong : ChangeSpec := { name := "pmemFuses", fn := fun _ => fun
  | [d1, d2] => { results := [.lit (.bool false)], args := [d1, d2] }
  | _ => none }
def PmemFusesWrongFalsely : Prop := pmemFusesRow.holds Try.pinned (OpenSpec.ofChange pmemFusesWrong)

/-- 'concourselaw1.PmemUnfenced': WHATEVER THE INPUT: true; the input reads as it did. -/
def pmemUnfencedSpec : ChangeSpec := { name := "pmemUnfenced", fn := fun _ => fun
  | [d1, d2, d3] => { results := [.lit (.bool true)], args := [d1, d2, d3] }
  | _ => none }
def pmemUnfencedRow : OpenClaim := { program := "ytghcommbflfbnaa", sum := "ea7688836ceb7e7201a9b12aeaf4b5401c8cdb84900ead3e7c21f6eb7b207719", func := "concourse/concourselaw1.PmemUnfenced", spec := "pmemUnfenced", unfollowed := true, recurses := true, apart := false }
def PmemUnfencedSaid : Prop := pmemUnfencedRow.holds Try.pinned (OpenSpec.ofChange pmemUnfencedSpec)

/-- ITS FALSE NEIGHBOUR: 'it returns false'. Refute it at one input. -/
def pmemUnfencedWrong : ChangeSpec := { name := "pmemUnfenced", fn := fun _ => fun
  | [d1, d2, d3] => { results := [.lit (.bool false)], args := [d1, d2, d3] }
  | _ => none }
def PmemUnfencedWrongFalsely : Prop := pmemUnfencedRow.holds Try.pinned (OpenSpec.ofChange pmemUnfencedWrong)

/-- 'concourselaw1.PmemLast': WHATEVER THE INPUT: true; the input reads as it did. -/
def pmemLastSpec : ChangeSpec := { name := "pmemLast", fn := fun _ => fun
  | [d1, d2, d3] => { results := [.lit (.bool true)], args := [d1, d2, d3] }
  | _ => none }
def pmemLastRow : OpenClaim := { program := "ytghcommbflfbnaa", sum := "ea7688836ceb7e7201a9b12aeaf4b5401c8cdb84900ead3e7c21f6eb7b207719", func := "concourse/concourselaw1.PmemLast", spec := "pmemLast", unfollowed := true, recurses := true, apart := false }
def PmemLastSaid : Prop := pmemLastRow.holds Try.pinned (OpenSpec.ofChange pmemLastSpec)

/-- ITS FALSE NEIGHBOUR: 'it returns false'. Refute it at one input. -/
def pmemLastWrong : ChangeSpec := { name := "pmemLast", fn := fun _ => fun
  | [d1, d2, d3] => { results := [.lit (.bool false)], args := [d1, d2, d3] }
  | _ => none }
def PmemLastWrongFalsely : Prop := pmemLastRow.holds Try.pinned (OpenSpec.ofChange pmemLastWrong)

/-- 'concourselaw1.PmemSizes': WHATEVER THE INPUT: true; the input reads as it did. -/
def pmemSizesSpec : ChangeSpec := { name := "pmemSizes", fn := fun _ => fun
  | [d1, d2] => { results := [.lit (.bool true)], args := [d1, d2] }
  | _ => none }
def pmemSizesRow : OpenClaim := { program := "ytghcommbflfbnaa", sum := "ea7688836ceb7e7201a9b12aeaf4b5401c8cdb84900ead3e7c21f6eb7b207719", func := "concourse/concourselaw1.PmemSizes", spec := "pmemSizes", unfollowed := true, recurses := true, apart := false }
def PmemSizesSaid : Prop := pmemSizesRow.holds Try.pinned (OpenSpec.ofChange pmemSizesSpec)

/-- ITS FALSE NEIGHBOUR: 'it returns false'. Refute it at one input. -/
def pmemSizesWrong : ChangeSpec := { name := "pmemSizes", fn := fun _ => fun
  | [d1, d2] => { results := [.lit (.bool false)], args := [d1, d2] }
  | _ => none }
def PmemSizesWrongFalsely : Prop := pmemSizesRow.holds Try.pinned (OpenSpec.ofChange pmemSizesWrong)

/- THE SECOND FORM. 'bulk': how many values and letters a reading holds, each counted each time it is reached (what is shared counts as often as it is met; a slice's spare places count too). A statement '..UptoSaid' is the law's where the arguments, and the package variables that the reading takes, are together of bulk at most 1048576: NARROWER than '..Said'. Prove '..Said' where nothing that the law and all that it calls make is longer than what came in: it says more and counts as full. Else prove '..UptoSaid'. A law counts once. -/
mutual
def uptoBulk {H : Type} : DataW H → Nat
  | .lit (.string bytes) => bytes.length + 1
  | .lit _ => 1
  | .nil => 1
  | .ptr d => uptoBulk d + 1
  | .slice elems spare => uptoBulkAll elems + uptoBulkAll spare + 1
  | .agg parts => uptoBulkAll parts + 1
  | .iface _ d => uptoBulk d + 1
  | .map entries => uptoBulkEntries entries + 1
  | .held _ => 1
def uptoBulkAll {H : Type} : List (DataW H) → Nat
  | [] => 0
  | d :: r => uptoBulk d + uptoBulkAll r
def uptoBulkEntries {H : Type} : List (Lit × DataW H) → Nat
  | [] => 0
  | x :: r => uptoBulkEntry x + uptoBulkEntries r
def uptoBulkEntry {H : Type} : Lit × DataW H → Nat
  | (.string bytes, d) => bytes.length + uptoBulk d + 1
  | (_, d) => uptoBulk d + 1
 end
def uptoSmall : (H : Type) → List (DataW H) → Bool := fun _ ds => decide (uptoBulkAll ds ≤ 1048576)
def OpenSpec.upto (s : _root_.Go.ChangeSpec) : _root_.Go.OpenSpec := { _root_.Go.OpenSpec.ofChange s with cond := some uptoSmall }

/-- 'concourselaw1.PmemActs', WHERE WHAT IT READS IS OF BULK AT MOST 1048576: true; the input reads as it did. -/
def pmemActsUptoRow : OpenClaim := { program := "ytghcommbflfbnaa", sum := "ea7688836ceb7e7201a9b12aeaf4b5401c8cdb84900ead3e7c21f6eb7b207719", func := "concourse/concourselaw1.PmemActs", spec := "pmemActs", inPlace := ["maps.clone"], unfollowed := true, recurses := true, apart := false, narrowed := true }
def PmemActsUptoSaid : Prop := pmemActsUptoRow.holds Try.pinned (OpenSpec.upto pmemActsSpec)

/-- 'concourselaw1.PmemFenced', WHERE WHAT IT READS IS OF BULK AT MOST 1048576: true; the input reads as it did. -/
def pmemFencedUptoRow : OpenClaim := { program := "ytghcommbflfbnaa", sum := "ea7688836ceb7e7201a9b12aeaf4b5401c8cdb84900ead3e7c21f6eb7b207719", func := "concourse/concourselaw1.PmemFenced", spec := "pmemFenced", unfollowed := true, recurses := true, apart := false, narrowed := true }
def PmemFencedUptoSaid : Prop := pmemFencedUptoRow.holds Try.pinned (OpenSpec.upto pmemFencedSpec)

/-- 'concourselaw1.PmemFuses', WHERE WHAT IT READS IS OF BULK AT MOST 1048576: true; the input reads as it did. -/
def pmemFusesUptoRow : OpenClaim := { program := "ytghcommbflfbnaa", sum := "ea7688836ceb7e7201a9b12aeaf4b5401c8cdb84900ead3e7c21f6eb7b207719", func := "concourse/concourselaw1.PmemFuses", spec := "pmemFuses", unfollowed := true, recurses := true, apart := false, narrowed := true }
def PmemFusesUptoSaid : Prop := pmemFusesUptoRow.holds Try.pinned (OpenSpec.upto pmemFusesSpec)

/-- 'concourselaw1.PmemUnfenced', WHERE WHAT IT READS IS OF BULK AT MOST 1048576: true; the input reads as it did. -/
def pmemUnfencedUptoRow : OpenClaim := { program := "ytghcommbflfbnaa", sum := "ea7688836ceb7e7201a9b12aeaf4b5401c8cdb84900ead3e7c21f6eb7b207719", func := "concourse/concourselaw1.PmemUnfenced", spec := "pmemUnfenced", unfollowed := true, recurses := true, apart := false, narrowed := true }
def PmemUnfencedUptoSaid : Prop := pmemUnfencedUptoRow.holds Try.pinned (OpenSpec.upto pmemUnfencedSpec)

/-- 'concourselaw1.PmemLast', WHERE WHAT IT READS IS OF BULK AT MOST 1048576: true; the input reads as it did. -/
def pmemLastUptoRow : OpenClaim := { program := "ytghcommbflfbnaa", sum := "ea7688836ceb7e7201a9b12aeaf4b5401c8cdb84900ead3e7c21f6eb7b207719", func := "concourse/concourselaw1.PmemLast", spec := "pmemLast", unfollowed := true, recurses := true, apart := false, narrowed := true }
def PmemLastUptoSaid : Prop := pmemLastUptoRow.holds Try.pinned (OpenSpec.upto pmemLastSpec)

/-- 'concourselaw1.PmemSizes', WHERE WHAT IT READS IS OF BULK AT MOST 1048576: true; the input reads as it did. -/
def pmemSizesUptoRow : OpenClaim := { program := "ytghcommbflfbnaa", sum := "ea7688836ceb7e7201a9b12aeaf4b5401c8cdb84900ead3e7c21f6eb7b207719", func := "concourse/concourselaw1.PmemSizes", spec := "pmemSizes", unfollowed := true, recurses := true, apart := false, narrowed := true }
def PmemSizesUptoSaid : Prop := pmemSizesUptoRow.holds Try.pinned (OpenSpec.upto pmemSizesSpec)

end Rows
end Go.Proofs.Ytghcommbflfbnaa
