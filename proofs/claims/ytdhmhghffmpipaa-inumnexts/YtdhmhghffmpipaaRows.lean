/-
  No cell of these rows narrows 'for every input' (looked for: loops, veiled, ifaces, maps, wideKeys, modest, calm, conditions, laid).
  DERIVED. THE GIVEN ROWS OF THIS SEAT. 4 by the template 'for every input the law returns true; each argument reads behind the call as it read before'; 0 by the template 'total and deterministic' (their statements: YtdhmhghffmpipaaTotals.lean).
  GIVEN WITH THE SEED: the statements are not yours to turn. If you find one false, say at which input.
  Laid BY PROGRAM, IN A SANDBOX (cutbox-rows.mjs): the forced cells as the released guide's own fill.sh prints them over the translation 815af175b1b32626… (all of the seat's roots in one cut). By AI agents, Wed Nov 11 2026. No macro, syntax, notation, axiom, sorry.
-/
import Derived.Test.YtdhmhghffmpipaaChecked
import GoSem.Claim
import GoSem.ClaimJoined
import GoSem.ClaimMapViews
import Derived.JoinedTies
import Derived.KernelRfl
namespace Go.Proofs.Ytdhmhghffmpipaa
/- THE CELL 'sum', in the pinned program and in every row, IS THE sha256 OF THE DUMP (.gsa) THAT YtdhmhghffmpipaaProg.lean LOADS. Nothing in Lean hashes anything: it is a label: what it is worth is what the hold of that sum in a sandbox is worth. -/
noncomputable def Try.pinned : Pinned := { name := "ytdhmhghffmpipaa", sum := "815af175b1b32626949479d26b124e3ce59eec14b576c133e268b718e4595568", checked := Try.checked }
namespace Rows
def none {H : Type} : Left H := { results := [], args := [] }

/-- 'concourselaw10.InumNexts': WHATEVER THE INPUT: true; the input reads as it did. -/
def inumNextsSpec : ChangeSpec := { name := "inumNexts", fn := fun _ => fun
  | [d1, d2] => { results := [.lit (.bool true)], args := [d1, d2] }
  | _ => none }
def inumNextsRow : OpenClaim := { program := "ytdhmhghffmpipaa", sum := "815af175b1b32626949479d26b124e3ce59eec14b576c133e268b718e4595568", func := "concourse/concourselaw10.InumNexts", spec := "inumNexts", unfollowed := true, recurses := true, apart := false }
def InumNextsSaid : Prop := inumNextsRow.holds Try.pinned (OpenSpec.ofChange inumNextsSpec)

/-- ITS FALSE NEIGHBOUR: 'it returns false'. Refute it at one input. -/
def inumNextsWrong : ChangeSpec := { name := "inumNexts", fn := fun _ => fun
  | [d1, d2] => { results := [.lit (.bool false)], args := [d1, d2] }
  | _ => none }
def InumNextsWrongFalsely : Prop := inumNextsRow.holds Try.pinned (OpenSpec.ofChange inumNextsWrong)

/-- 'concourselaw10.InumFull': WHATEVER THE INPUT: true; the input reads as it did. -/
def inumFullSpec : ChangeSpec := { name := "inumFull", fn := fun _ => fun
  | [d1, d2] => { results := [.lit (.bool true)], args := [d1, d2] }
  | _ => none }
def inumFullRow : OpenClaim := { program := "ytdhmhghffmpipaa", sum := "815af175b1b32626949479d26b124e3ce59eec14b576c133e268b718e4595568", func := "concourse/concourselaw10.InumFull", spec := "inumFull", unfollowed := true, recurses := true, apart := false }
def InumFullSaid : Prop := inumFullRow.holds Try.pinned (OpenSpec.ofChange inumFullSpec)

/-- ITS FALSE NEIGHBOUR: 'it returns false'. Refute it at one input. -/
def inumFullWrong : ChangeSpec := { name := "inumFull", fn := fun _ => fun
  | [d1, d2] => { results := [.lit (.bool false)], args := [d1, d2] }
  | _ => none }
def InumFullWrongFalsely : Prop := inumFullRow.holds Try.pinned (OpenSpec.ofChange inumFullWrong)

/-- 'concourselaw10.InumCores': WHATEVER THE INPUT: true; the input reads as it did. -/
def inumCoresSpec : ChangeSpec := { name := "inumCores", fn := fun _ => fun
  | [d] => { results := [.lit (.bool true)], args := [d] }
  | _ => none }
def inumCoresRow : OpenClaim := { program := "ytdhmhghffmpipaa", sum := "815af175b1b32626949479d26b124e3ce59eec14b576c133e268b718e4595568", func := "concourse/concourselaw10.InumCores", spec := "inumCores", unfollowed := true, recurses := true, apart := false }
def InumCoresSaid : Prop := inumCoresRow.holds Try.pinned (OpenSpec.ofChange inumCoresSpec)

/-- ITS FALSE NEIGHBOUR: 'it returns false'. Refute it at one input. -/
def inumCoresWrong : ChangeSpec := { name := "inumCores", fn := fun _ => fun
  | [d] => { results := [.lit (.bool false)], args := [d] }
  | _ => none }
def InumCoresWrongFalsely : Prop := inumCoresRow.holds Try.pinned (OpenSpec.ofChange inumCoresWrong)

/-- 'concourselaw10.InumOnce': WHATEVER THE INPUT: true; the input reads as it did. -/
def inumOnceSpec : ChangeSpec := { name := "inumOnce", fn := fun _ => fun
  | [d1, d2] => { results := [.lit (.bool true)], args := [d1, d2] }
  | _ => none }
def inumOnceRow : OpenClaim := { program := "ytdhmhghffmpipaa", sum := "815af175b1b32626949479d26b124e3ce59eec14b576c133e268b718e4595568", func := "concourse/concourselaw10.InumOnce", spec := "inumOnce", unfollowed := true, recurses := true, apart := false }
def InumOnceSaid : Prop := inumOnceRow.holds Try.pinned (OpenSpec.ofChange inumOnceSpec)

/-- ITS FALSE NEIGHBOUR: 'it returns false'. Refute it at one input. -/
def inumOnceWrong : ChangeSpec := { name := "inumOnce", fn := fun _ => fun
  | [d1, d2] => { results := [.lit (.bool false)], args := [d1, d2] }
  | _ => none }
def InumOnceWrongFalsely : Prop := inumOnceRow.holds Try.pinned (OpenSpec.ofChange inumOnceWrong)

/- THE SECOND FORM. 'bulk': how many values and letters a reading holds, each counted each time it is reached (what is shared counts as often as it is met; a slice's spare places count too). A statement '..UptoSaid' is the law's where the arguments, and the package variables that the reading takes, are together of bulk at most 1048576: NARROWER than '..Said'. Prove '..Said' where nothing that the law and all that it calls make is longer than what came in: it says more and counts as full. Else prove '..UptoSaid'. A law counts once. -/
mutual
def uptoBulk {H : Type} : DataW H → Nat
  | .lit (.string bytes) => bytes.length + 1
  | .lit _ => 1
  | .nil => 1
  | .ptr d => uptoBulk d + 1
  | .slice elems spare => uptoBulkAll elems + uptoBulkAll spare + 1
  | .agg parts => uptoBulkAll parts + 1
  | .iface _ d => uptoBulk d + 1
  | .map entries => uptoBulkEntries entries + 1
  | .held _ => 1
def uptoBulkAll {H : Type} : List (DataW H) → Nat
  | [] => 0
  | d :: r => uptoBulk d + uptoBulkAll r
def uptoBulkEntries {H : Type} : List (Lit × DataW H) → Nat
  | [] => 0
  | x :: r => uptoBulkEntry x + uptoBulkEntries r
def uptoBulkEntry {H : Type} : Lit × DataW H → Nat
  | (.string bytes, d) => bytes.length + uptoBulk d + 1
  | (_, d) => uptoBulk d + 1
 end
def uptoSmall : (H : Type) → List (DataW H) → Bool := fun _ ds => decide (uptoBulkAll ds ≤ 1048576)
def OpenSpec.upto (s : _root_.Go.ChangeSpec) : _root_.Go.OpenSpec := { _root_.Go.OpenSpec.ofChange s with cond := some uptoSmall }

/-- 'concourselaw10.InumNexts', WHERE WHAT IT READS IS OF BULK AT MOST 1048576: true; the input reads as it did. -/
def inumNextsUptoRow : OpenClaim := { program := "ytdhmhghffmpipaa", sum := "815af175b1b32626949479d26b124e3ce59eec14b576c133e268b718e4595568", func := "concourse/concourselaw10.InumNexts", spec := "inumNexts", unfollowed := true, recurses := true, apart := false, narrowed := true }
def InumNextsUptoSaid : Prop := inumNextsUptoRow.holds Try.pinned (OpenSpec.upto inumNextsSpec)

/-- 'concourselaw10.InumFull', WHERE WHAT IT READS IS OF BULK AT MOST 1048576: true; the input reads as it did. -/
def inumFullUptoRow : OpenClaim := { program := "ytdhmhghffmpipaa", sum := "815af175b1b32626949479d26b124e3ce59eec14b576c133e268b718e4595568", func := "concourse/concourselaw10.InumFull", spec := "inumFull", unfollowed := true, recurses := true, apart := false, narrowed := true }
def InumFullUptoSaid : Prop := inumFullUptoRow.holds Try.pinned (OpenSpec.upto inumFullSpec)

/-- 'concourselaw10.InumCores', WHERE WHAT IT READS IS OF BULK AT MOST 1048576: true; the input reads as it did. -/
def inumCoresUptoRow : OpenClaim := { program := "ytdhmhghffmpipaa", sum := "815af175b1b32626949479d26b124e3ce59eec14b576c133e268b718e4595568", func := "concourse/concourselaw10.InumCores", spec := "inumCores", unfollowed := true, recurses := true, apart := false, narrowed := true }
def InumCoresUptoSaid : Prop := inumCoresUptoRow.holds Try.pinned (OpenSpec.upto inumCoresSpec)

/-- 'concourselaw10.InumOnce', WHERE WHAT IT READS IS OF BULK AT MOST 1048576: true; the input reads as it did. -/
def inumOnceUptoRow : OpenClaim := { program := "ytdhmhghffmpipaa", sum := "815af175b1b32626949479d26b124e3ce59eec14b576c133e268b718e4595568", func := "concourse/concourselaw10.InumOnce", spec := "inumOnce", unfollowed := true, recurses := true, apart := false, narrowed := true }
def InumOnceUptoSaid : Prop := inumOnceUptoRow.holds Try.pinned (OpenSpec.upto inumOnceSpec)

end Rows
end Go.Proofs.Ytdhmhghffmpipaa
