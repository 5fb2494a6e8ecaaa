/-
  No cell of these rows narrows 'for every input' (looked for: loops, veiled, ifaces, maps, wideKeys, modest, calm, conditions, laid).
  DERIVED. THE GIVEN ROWS OF THIS SEAT. 4 by the template 'for every input the law returns true; each argument reads behind the call as it read before'; 0 by the template 'total and deterministic' (their statements: YthndjlcibiaoiaaTotals.lean).
  GIVEN WITH THE SEED: the statements are not yours to turn. If you find one false, say at which input.
  Laid BY PROGRAM, IN A SANDBOX (cutbox-rows.mjs): the forced cells as the released guide's own fill.sh prints them over the translation 27cc1f1b21f25b87… (all of the seat's roots in one cut). By AI agents, Wed Nov 11 2026. No macro, syntax, notation, axiom, sorry.
-/
import Derived.Test.YthndjlcibiaoiaaChecked
import GoSem.Claim
import GoSem.ClaimJoined
import GoSem.ClaimMapViews
import Derived.JoinedTies
import Derived.KernelRfl
namespace Go.Proofs.Ythndjlcibiaoiaa
/- THE CELL 'sum', in the pinned program and in every row, IS THE sha256 OF THE DUMP (.gsa) THAT YthndjlcibiaoiaaProg.lean LOADS. Nothing in Lean hashes anything: it is a label: what it is worth is what the hold of that sum in a sandbox is worth. -/
noncomputable def Try.pinned : Pinned := { name := "ythndjlcibiaoiaa", sum := "27cc1f1b21f25b871b5da4bb5c57542f72aeb92569e171191a4834978e67906b", checked := Try.checked }
namespace Rows
def none {H : Type} : Left H := { results := [], args := [] }

/-- 'concourselaw7.RadixActs': WHATEVER THE INPUT: true; the input reads as it did. -/
def radixActsSpec : ChangeSpec := { name := "radixActs", fn := fun _ => fun
  | [d] => { results := [.lit (.bool true)], args := [d] }
  | _ => none }
def radixActsRow : OpenClaim := { program := "ythndjlcibiaoiaa", sum := "27cc1f1b21f25b871b5da4bb5c57542f72aeb92569e171191a4834978e67906b", func := "concourse/concourselaw7.RadixActs", spec := "radixActs", unfollowed := true, recurses := true, apart := false }
def RadixActsSaid : Prop := radixActsRow.holds Try.pinned (OpenSpec.ofChange radixActsSpec)

/-- ITS FALSE NEIGHBOUR: 'it returns false'. Refute it at one input. -/
def radixActsWrong : ChangeSpec := { name := "radixActs", fn := fun _ => fun
  | [d] => { results := [.lit (.bool false)], args := [d] }
  | _ => none }
def RadixActsWrongFalsely : Prop := radixActsRow.holds Try.pinned (OpenSpec.ofChange radixActsWrong)

/-- 'concourselaw7.RadixApart': WHATEVER THE INPUT: true; the input reads as it did. -/
def radixApartSpec : ChangeSpec := { name := "radixApart", fn := fun _ => fun
  | [d1, d2] => { results := [.lit (.bool true)], args := [d1, d2] }
  | _ => none }
def radixApartRow : OpenClaim := { program := "ythndjlcibiaoiaa", sum := "27cc1f1b21f25b871b5da4bb5c57542f72aeb92569e171191a4834978e67906b", func := "concourse/concourselaw7.RadixApart", spec := "radixApart", unfollowed := true, recurses := true, apart := false }
def RadixApartSaid : Prop := radixApartRow.holds Try.pinned (OpenSpec.ofChange radixApartSpec)

/-- ITS FALSE NEIGHBOUR: 'it returns false'. Refute it at one input. -/
def radixApartWrong : ChangeSpec := { name := "radixApart", fn := fun _ => fun
  | [d1, d2] => { results := [.lit (.bool false)], args := [d1, d2] }
  | _ => none }
def RadixApartWrongFalsely : Prop := radixApartRow.holds Try.pinned (OpenSpec.ofChange radixApartWrong)

/-- 'concourselaw7.RadixCuts': WHATEVER THE INPUT: true; the input reads as it did. -/
def radixCutsSpec : ChangeSpec := { name := "radixCuts", fn := fun _ => fun
  | [d1, d2] => { results := [.lit (.bool true)], args := [d1, d2] }
  | _ => none }
def radixCutsRow : OpenClaim := { program := "ythndjlcibiaoiaa", sum := "27cc1f1b21f25b871b5da4bb5c57542f72aeb92569e171191a4834978e67906b", func := "concourse/concourselaw7.RadixCuts", spec := "radixCuts", unfollowed := true, recurses := true, apart := false }
def RadixCutsSaid : Prop := radixCutsRow.holds Try.pinned (OpenSpec.ofChange radixCutsSpec)

/-- ITS FALSE NEIGHBOUR: 'it returns false'. Refute it at one input. -/
def radixCutsWrong : ChangeSpec := { name := "radixCuts", fn := fun _ => fun
  | [d1, d2] => { results := [.lit (.bool false)], args := [d1, d2] }
  | _ => none }
def RadixCutsWrongFalsely : Prop := radixCutsRow.holds Try.pinned (OpenSpec.ofChange radixCutsWrong)

/-- 'concourselaw7.RadixReads': WHATEVER THE INPUT: true; the input reads as it did. -/
def radixReadsSpec : ChangeSpec := { name := "radixReads", fn := fun _ => fun
  | [d] => { results := [.lit (.bool true)], args := [d] }
  | _ => none }
def radixReadsRow : OpenClaim := { program := "ythndjlcibiaoiaa", sum := "27cc1f1b21f25b871b5da4bb5c57542f72aeb92569e171191a4834978e67906b", func := "concourse/concourselaw7.RadixReads", spec := "radixReads", unfollowed := true, recurses := true, apart := false }
def RadixReadsSaid : Prop := radixReadsRow.holds Try.pinned (OpenSpec.ofChange radixReadsSpec)

/-- ITS FALSE NEIGHBOUR: 'it returns false'. Refute it at one input. -/
def radixReadsWrong : ChangeSpec := { name := "radixReads", fn := fun _ => fun
  | [d] => { results := [.lit (.bool false)], args := [d] }
  | _ => none }
def RadixReadsWrongFalsely : Prop := radixReadsRow.holds Try.pinned (OpenSpec.ofChange radixReadsWrong)

/- THE SECOND FORM. 'bulk': how many values and letters a reading holds, each counted each time it is reached (what is shared counts as often as it is met; a slice's spare places count too). A statement '..UptoSaid' is the law's where the arguments, and the package variables that the reading takes, are together of bulk at most 1048576: NARROWER than '..Said'. Prove '..Said' where nothing that the law and all that it calls make is longer than what came in: it says more and counts as full. Else prove '..UptoSaid'. A law counts once. -/
mutual
def uptoBulk {H : Type} : DataW H → Nat
  | .lit (.string bytes) => bytes.length + 1
  | .lit _ => 1
  | .nil => 1
  | .ptr d => uptoBulk d + 1
  | .slice elems spare => uptoBulkAll elems + uptoBulkAll spare + 1
  | .agg parts => uptoBulkAll parts + 1
  | .iface _ d => uptoBulk d + 1
  | .map entries => uptoBulkEntries entries + 1
  | .held _ => 1
def uptoBulkAll {H : Type} : List (DataW H) → Nat
  | [] => 0
  | d :: r => uptoBulk d + uptoBulkAll r
def uptoBulkEntries {H : Type} : List (Lit × DataW H) → Nat
  | [] => 0
  | x :: r => uptoBulkEntry x + uptoBulkEntries r
def uptoBulkEntry {H : Type} : Lit × DataW H → Nat
  | (.string bytes, d) => bytes.length + uptoBulk d + 1
  | (_, d) => uptoBulk d + 1
 end
def uptoSmall : (H : Type) → List (DataW H) → Bool := fun _ ds => decide (uptoBulkAll ds ≤ 1048576)
def OpenSpec.upto (s : _root_.Go.ChangeSpec) : _root_.Go.OpenSpec := { _root_.Go.OpenSpec.ofChange s with cond := some uptoSmall }

/-- 'concourselaw7.RadixActs', WHERE WHAT IT READS IS OF BULK AT MOST 1048576: true; the input reads as it did. -/
def radixActsUptoRow : OpenClaim := { program := "ythndjlcibiaoiaa", sum := "27cc1f1b21f25b871b5da4bb5c57542f72aeb92569e171191a4834978e67906b", func := "concourse/concourselaw7.RadixActs", spec := "radixActs", unfollowed := true, recurses := true, apart := false, narrowed := true }
def RadixActsUptoSaid : Prop := radixActsUptoRow.holds Try.pinned (OpenSpec.upto radixActsSpec)

/-- 'concourselaw7.RadixApart', WHERE WHAT IT READS IS OF BULK AT MOST 1048576: true; the input reads as it did. -/
def radixApartUptoRow : OpenClaim := { program := "ythndjlcibiaoiaa", sum := "27cc1f1b21f25b871b5da4bb5c57542f72aeb92569e171191a4834978e67906b", func := "concourse/concourselaw7.RadixApart", spec := "radixApart", unfollowed := true, recurses := true, apart := false, narrowed := true }
def RadixApartUptoSaid : Prop := radixApartUptoRow.holds Try.pinned (OpenSpec.upto radixApartSpec)

/-- 'concourselaw7.RadixCuts', WHERE WHAT IT READS IS OF BULK AT MOST 1048576: true; the input reads as it did. -/
def radixCutsUptoRow : OpenClaim := { program := "ythndjlcibiaoiaa", sum := "27cc1f1b21f25b871b5da4bb5c57542f72aeb92569e171191a4834978e67906b", func := "concourse/concourselaw7.RadixCuts", spec := "radixCuts", unfollowed := true, recurses := true, apart := false, narrowed := true }
def RadixCutsUptoSaid : Prop := radixCutsUptoRow.holds Try.pinned (OpenSpec.upto radixCutsSpec)

/-- 'concourselaw7.RadixReads', WHERE WHAT IT READS IS OF BULK AT MOST 1048576: true; the input reads as it did. -/
def radixReadsUptoRow : OpenClaim := { program := "ythndjlcibiaoiaa", sum := "27cc1f1b21f25b871b5da4bb5c57542f72aeb92569e171191a4834978e67906b", func := "concourse/concourselaw7.RadixReads", spec := "radixReads", unfollowed := true, recurses := true, apart := false, narrowed := true }
def RadixReadsUptoSaid : Prop := radixReadsUptoRow.holds Try.pinned (OpenSpec.upto radixReadsSpec)

end Rows
end Go.Proofs.Ythndjlcibiaoiaa
