/-
  No cell of these rows narrows 'for every input' (looked for: loops, veiled, ifaces, maps, wideKeys, modest, calm, conditions, laid).
  DERIVED. THE GIVEN ROWS OF THIS SEAT. 5 by the template 'for every input the law returns true; each argument reads behind the call as it read before'; 0 by the template 'total and deterministic' (their statements: YtehfmmmkhjjjfaaTotals.lean).
  GIVEN WITH THE SEED: the statements are not yours to turn. If you find one false, say at which input.
  Laid BY PROGRAM, IN A SANDBOX (cutbox-rows.mjs): the forced cells as the released guide's own fill.sh prints them over the translation f894ceb86c7b60c8… (all of the seat's roots in one cut). By AI agents, Wed Nov 11 2026. No macro, syntax, notation, axiom, sorry.
-/
import Derived.Test.YtehfmmmkhjjjfaaChecked
import GoSem.Claim
import GoSem.ClaimJoined
import GoSem.ClaimMapViews
import Derived.JoinedTies
import Derived.KernelRfl
namespace Go.Proofs.Ytehfmmmkhjjjfaa
/- THE CELL 'sum', in the pinned program and in every row, IS THE sha256 OF THE DUMP (.gsa) THAT YtehfmmmkhjjjfaaProg.lean LOADS. Nothing in Lean hashes anything: it is a label: what it is worth is what the hold of that sum in a sandbox is worth. -/
noncomputable def Try.pinned : Pinned := { name := "ytehfmmmkhjjjfaa", sum := "f894ceb86c7b60c808c25a16392262adf103c78d5549556d39a9a3e0e1b2b211", checked := Try.checked }
namespace Rows
def none {H : Type} : Left H := { results := [], args := [] }

/-- 'concourselaw3.SchedPicks': WHATEVER THE INPUT: true; the input reads as it did. -/
def schedPicksSpec : ChangeSpec := { name := "schedPicks", fn := fun _ => fun
  | [d1, d2, d3, d4] => { results := [.lit (.bool true)], args := [d1, d2, d3, d4] }
  | _ => none }
def schedPicksRow : OpenClaim := { program := "ytehfmmmkhjjjfaa", sum := "f894ceb86c7b60c808c25a16392262adf103c78d5549556d39a9a3e0e1b2b211", func := "concourse/concourselaw3.SchedPicks", spec := "schedPicks", apart := false }
def SchedPicksSaid : Prop := schedPicksRow.holds Try.pinned (OpenSpec.ofChange schedPicksSpec)

/-- ITS FALSE NEIGHBOUR: 'it returns false'. Refute it at one input. -/
def schedPicksWrong : ChangeSpec := { name := "schedPicks", fn := fun _ => fun
  | [d1, d2, d3, d4] => { results := [.lit (.bool false)], args := [d1, d2, d3, d4] }
  | _ => none }
def SchedPicksWrongFalsely : Prop := schedPicksRow.holds Try.pinned (OpenSpec.ofChange schedPicksWrong)

/-- 'concourselaw3.SchedFairs': WHATEVER THE INPUT: true; the input reads as it did. -/
def schedFairsSpec : ChangeSpec := { name := "schedFairs", fn := fun _ => fun
  | [d1, d2, d3] => { results := [.lit (.bool true)], args := [d1, d2, d3] }
  | _ => none }
def schedFairsRow : OpenClaim := { program := "ytehfmmmkhjjjfaa", sum := "f894ceb86c7b60c808c25a16392262adf103c78d5549556d39a9a3e0e1b2b211", func := "concourse/concourselaw3.SchedFairs", spec := "schedFairs", apart := false }
def SchedFairsSaid : Prop := schedFairsRow.holds Try.pinned (OpenSpec.ofChange schedFairsSpec)

/-- ITS FALSE NEIGHBOUR: 'it returns false'. Refute it at one input. -/
def schedFairsWrong : ChangeSpec := { name := "schedFairs", fn := fun _ => fun
  | [d1, d2, d3] => { results := [.lit (.bool false)], args := [d1, d2, d3] }
  | _ => none }
def SchedFairsWrongFalsely : Prop := schedFairsRow.holds Try.pinned (OpenSpec.ofChange schedFairsWrong)

/-- 'concourselaw3.SchedRound': WHATEVER THE INPUT: true; the input reads as it did. -/
def schedRoundSpec : ChangeSpec := { name := "schedRound", fn := fun _ => fun
  | [d1, d2] => { results := [.lit (.bool true)], args := [d1, d2] }
  | _ => none }
def schedRoundRow : OpenClaim := { program := "ytehfmmmkhjjjfaa", sum := "f894ceb86c7b60c808c25a16392262adf103c78d5549556d39a9a3e0e1b2b211", func := "concourse/concourselaw3.SchedRound", spec := "schedRound", apart := false }
def SchedRoundSaid : Prop := schedRoundRow.holds Try.pinned (OpenSpec.ofChange schedRoundSpec)

/-- ITS FALSE NEIGHBOUR: 'it returns false'. Refute it at one input. -/
def schedRoundWrong : ChangeSpec := { name := "schedRound", fn := fun _ => fun
  | [d1, d2] => { results := [.lit (.bool false)], args := [d1, d2] }
  | _ => none }
def SchedRoundWrongFalsely : Prop := schedRoundRow.holds Try.pinned (OpenSpec.ofChange schedRoundWrong)

/-- 'concourselaw3.SchedReady': WHATEVER THE INPUT: true; the input reads as it did. -/
def schedReadySpec : ChangeSpec := { name := "schedReady", fn := fun _ => fun
  | [d1, d2] => { results := [.lit (.bool true)], args := [d1, d2] }
  | _ => none }
def schedReadyRow : OpenClaim := { program := "ytehfmmmkhjjjfaa", sum := "f894ceb86c7b60c808c25a16392262adf103c78d5549556d39a9a3e0e1b2b211", func := "concourse/concourselaw3.SchedReady", spec := "schedReady", apart := false }
def SchedReadySaid : Prop := schedReadyRow.holds Try.pinned (OpenSpec.ofChange schedReadySpec)

/-- ITS FALSE NEIGHBOUR: 'it returns false'. Refute it at one input. -/
def schedReadyWrong : ChangeSpec := { name := "schedReady", fn := fun _ => fun
  | [d1, d2] => { results := [.lit (.bool false)], args := [d1, d2] }
  | _ => none }
def SchedReadyWrongFalsely : Prop := schedReadyRow.holds Try.pinned (OpenSpec.ofChange schedReadyWrong)

/-- 'concourselaw3.SchedWide': WHATEVER THE INPUT: true; the input reads as it did. -/
def schedWideSpec : ChangeSpec := { name := "schedWide", fn := fun _ => fun
  | [d1, d2, d3, d4] => { results := [.lit (.bool true)], args := [d1, d2, d3, d4] }
  | _ => none }
def schedWideRow : OpenClaim := { program := "ytehfmmmkhjjjfaa", sum := "f894ceb86c7b60c808c25a16392262adf103c78d5549556d39a9a3e0e1b2b211", func := "concourse/concourselaw3.SchedWide", spec := "schedWide", apart := false }
def SchedWideSaid : Prop := schedWideRow.holds Try.pinned (OpenSpec.ofChange schedWideSpec)

/-- ITS FALSE NEIGHBOUR: 'it returns false'. Refute it at one input. -/
def schedWideWrong : ChangeSpec := { name := "schedWide", fn := fun _ => fun
  | [d1, d2, d3, d4] => { results := [.lit (.bool false)], args := [d1, d2, d3, d4] }
  | _ => none }
def SchedWideWrongFalsely : Prop := schedWideRow.holds Try.pinned (OpenSpec.ofChange schedWideWrong)

/- THE SECOND FORM. 'bulk': how many values and letters a reading holds, each counted each time it is reached (what is shared counts as often as it is met; a slice's spare places count too). A statement '..UptoSaid' is the law's where the arguments, and the package variables that the reading takes, are together of bulk at most 1048576: NARROWER than '..Said'. Prove '..Said' where nothing that the law and all that it calls make is longer than what came in: it says more and counts as full. Else prove '..UptoSaid'. A law counts once. -/
mutual
def uptoBulk {H : Type} : DataW H → Nat
  | .lit (.string bytes) => bytes.length + 1
  | .lit _ => 1
  | .nil => 1
  | .ptr d => uptoBulk d + 1
  | .slice elems spare => uptoBulkAll elems + uptoBulkAll spare + 1
  | .agg parts => uptoBulkAll parts + 1
  | .iface _ d => uptoBulk d + 1
  | .map entries => uptoBulkEntries entries + 1
  | .held _ => 1
def uptoBulkAll {H : Type} : List (DataW H) → Nat
  | [] => 0
  | d :: r => uptoBulk d + uptoBulkAll r
def uptoBulkEntries {H : Type} : List (Lit × DataW H) → Nat
  | [] => 0
  | x :: r => uptoBulkEntry x + uptoBulkEntries r
def uptoBulkEntry {H : Type} : Lit × DataW H → Nat
  | (.string bytes, d) => bytes.length + uptoBulk d + 1
  | (_, d) => uptoBulk d + 1
 end
def uptoSmall : (H : Type) → List (DataW H) → Bool := fun _ ds => decide (uptoBulkAll ds ≤ 1048576)
def OpenSpec.upto (s : _root_.Go.ChangeSpec) : _root_.Go.OpenSpec := { _root_.Go.OpenSpec.ofChange s with cond := some uptoSmall }

/-- 'concourselaw3.SchedPicks', WHERE WHAT IT READS IS OF BULK AT MOST 1048576: true; the input reads as it did. -/
def schedPicksUptoRow : OpenClaim := { program := "ytehfmmmkhjjjfaa", sum := "f894ceb86c7b60c808c25a16392262adf103c78d5549556d39a9a3e0e1b2b211", func := "concourse/concourselaw3.SchedPicks", spec := "schedPicks", apart := false, narrowed := true }
def SchedPicksUptoSaid : Prop := schedPicksUptoRow.holds Try.pinned (OpenSpec.upto schedPicksSpec)

/-- 'concourselaw3.SchedFairs', WHERE WHAT IT READS IS OF BULK AT MOST 1048576: true; the input reads as it did. -/
def schedFairsUptoRow : OpenClaim := { program := "ytehfmmmkhjjjfaa", sum := "f894ceb86c7b60c808c25a16392262adf103c78d5549556d39a9a3e0e1b2b211", func := "concourse/concourselaw3.SchedFairs", spec := "schedFairs", apart := false, narrowed := true }
def SchedFairsUptoSaid : Prop := schedFairsUptoRow.holds Try.pinned (OpenSpec.upto schedFairsSpec)

/-- 'concourselaw3.SchedRound', WHERE WHAT IT READS IS OF BULK AT MOST 1048576: true; the input reads as it did. -/
def schedRoundUptoRow : OpenClaim := { program := "ytehfmmmkhjjjfaa", sum := "f894ceb86c7b60c808c25a16392262adf103c78d5549556d39a9a3e0e1b2b211", func := "concourse/concourselaw3.SchedRound", spec := "schedRound", apart := false, narrowed := true }
def SchedRoundUptoSaid : Prop := schedRoundUptoRow.holds Try.pinned (OpenSpec.upto schedRoundSpec)

/-- 'concourselaw3.SchedReady', WHERE WHAT IT READS IS OF BULK AT MOST 1048576: true; the input reads as it did. -/
def schedReadyUptoRow : OpenClaim := { program := "ytehfmmmkhjjjfaa", sum := "f894ceb86c7b60c808c25a16392262adf103c78d5549556d39a9a3e0e1b2b211", func := "concourse/concourselaw3.SchedReady", spec := "schedReady", apart := false, narrowed := true }
def SchedReadyUptoSaid : Prop := schedReadyUptoRow.holds Try.pinned (OpenSpec.upto schedReadySpec)

/-- 'concourselaw3.SchedWide', WHERE WHAT IT READS IS OF BULK AT MOST 1048576: true; the input reads as it did. -/
def schedWideUptoRow : OpenClaim := { program := "ytehfmmmkhjjjfaa", sum := "f894ceb86c7b60c808c25a16392262adf103c78d5549556d39a9a3e0e1b2b211", func := "concourse/concourselaw3.SchedWide", spec := "schedWide", apart := false, narrowed := true }
def SchedWideUptoSaid : Prop := schedWideUptoRow.holds Try.pinned (OpenSpec.upto schedWideSpec)

end Rows
end Go.Proofs.Ytehfmmmkhjjjfaa
