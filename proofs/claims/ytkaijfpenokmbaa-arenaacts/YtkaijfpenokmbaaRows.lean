/-
  No cell of these rows narrows 'for every input' (looked for: loops, veiled, ifaces, maps, wideKeys, modest, calm, conditions, laid).
  DERIVED. THE GIVEN ROWS OF THIS SEAT. 5 by the template 'for every input the law returns true; each argument reads behind the call as it read before'; 0 by the template 'total and deterministic' (their statements: YtkaijfpenokmbaaTotals.lean).
  GIVEN WITH THE SEED: the statements are not yours to turn. If you find one false, say at which input.
  Laid BY PROGRAM, IN A SANDBOX (cutbox-rows.mjs): the forced cells as the released guide's own fill.sh prints them over the translation 9f495871b928f270… (all of the seat's roots in one cut). By AI agents, Wed Nov 11 2026. No macro, syntax, notation, axiom, sorry.
-/
import Derived.Test.YtkaijfpenokmbaaChecked
import GoSem.Claim
import GoSem.ClaimJoined
import GoSem.ClaimMapViews
import Derived.JoinedTies
import Derived.KernelRfl
namespace Go.Proofs.Ytkaijfpenokmbaa
/- THE CELL 'sum', in the pinned program and in every row, IS THE sha256 OF THE DUMP (.gsa) THAT YtkaijfpenokmbaaProg.lean LOADS. Nothing in Lean hashes anything: it is a label: what it is worth is what the hold of that sum in a sandbox is worth. -/
noncomputable def Try.pinned : Pinned := { name := "ytkaijfpenokmbaa", sum := "9f495871b928f270888b62480118090b3e40b1ad605ac6e45f77e951240fd61b", checked := Try.checked }
namespace Rows
def none {H : Type} : Left H := { results := [], args := [] }

/-- 'concourselaw2.ArenaActs': WHATEVER THE INPUT: true; the input reads as it did. -/
def arenaActsSpec : ChangeSpec := { name := "arenaActs", fn := fun _ => fun
  | [d1, d2, d3] => { results := [.lit (.bool true)], args := [d1, d2, d3] }
  | _ => none }
def arenaActsRow : OpenClaim := { program := "ytkaijfpenokmbaa", sum := "9f495871b928f270888b62480118090b3e40b1ad605ac6e45f77e951240fd61b", func := "concourse/concourselaw2.ArenaActs", spec := "arenaActs", unfollowed := true, recurses := true, apart := false }
def ArenaActsSaid : Prop := arenaActsRow.holds Try.pinned (OpenSpec.ofChange arenaActsSpec)

/-- ITS FALSE NEIGHBOUR: 'it returns false'. Refute it at one input. -/
def arenaActsWrong : ChangeSpec := { name := "arenaActs", fn := fun _ => fun
  | [d1, d2, d3] => { results := [.lit (.bool false)], args := [d1, d2, d3] }
  | _ => none }
def ArenaActsWrongFalsely : Prop := arenaActsRow.holds Try.pinned (OpenSpec.ofChange arenaActsWrong)

/-- 'concourselaw2.ArenaCas': WHATEVER THE INPUT: true; the input reads as it did. -/
def arenaCasSpec : ChangeSpec := { name := "arenaCas", fn := fun _ => fun
  | [d1, d2] => { results := [.lit (.bool true)], args := [d1, d2] }
  | _ => none }
def arenaCasRow : OpenClaim := { program := "ytkaijfpenokmbaa", sum := "9f495871b928f270888b62480118090b3e40b1ad605ac6e45f77e951240fd61b", func := "concourse/concourselaw2.ArenaCas", spec := "arenaCas", unfollowed := true, recurses := true, apart := false }
def ArenaCasSaid : Prop := arenaCasRow.holds Try.pinned (OpenSpec.ofChange arenaCasSpec)

/-- ITS FALSE NEIGHBOUR: 'it returns false'. Refute it at one input. -/
def arenaCasWrong : ChangeSpec := { name := "arenaCas", fn := fun _ => fun
  | [d1, d2] => { results := [.lit (.bool false)], args := [d1, d2] }
  | _ => none }
def ArenaCasWrongFalsely : Prop := arenaCasRow.holds Try.pinned (OpenSpec.ofChange arenaCasWrong)

/-- 'concourselaw2.ArenaReads': WHATEVER THE INPUT: true; the input reads as it did. -/
def arenaReadsSpec : ChangeSpec := { name := "arenaReads", fn := fun _ => fun
  | [d1, d2, d3] => { results := [.lit (.bool true)], args := [d1, d2, d3] }
  | _ => none }
def arenaReadsRow : OpenClaim := { program := "ytkaijfpenokmbaa", sum := "9f495871b928f270888b62480118090b3e40b1ad605ac6e45f77e951240fd61b", func := "concourse/concourselaw2.ArenaReads", spec := "arenaReads", unfollowed := true, recurses := true, apart := false }
def ArenaReadsSaid : Prop := arenaReadsRow.holds Try.pinned (OpenSpec.ofChange arenaReadsSpec)

/-- ITS FALSE NEIGHBOUR: 'it returns false'. Refute it at one input. -/
def arenaReadsWrong : ChangeSpec := { name := "arenaReads", fn := fun _ => fun
  | [d1, d2, d3] => { results := [.lit (.bool false)], args := [d1, d2, d3] }
  | _ => none }
def ArenaReadsWrongFalsely : Prop := arenaReadsRow.holds Try.pinned (OpenSpec.ofChange arenaReadsWrong)

/-- 'concourselaw2.ArenaSums': WHATEVER THE INPUT: true; the input reads as it did. -/
def arenaSumsSpec : ChangeSpec := { name := "arenaSums", fn := fun _ => fun
  | [d] => { results := [.lit (.bool true)], args := [d] }
  | _ => none }
def arenaSumsRow : OpenClaim := { program := "ytkaijfpenokmbaa", sum := "9f495871b928f270888b62480118090b3e40b1ad605ac6e45f77e951240fd61b", func := "concourse/concourselaw2.ArenaSums", spec := "arenaSums", unfollowed := true, recurses := true, apart := false }
def ArenaSumsSaid : Prop := arenaSumsRow.holds Try.pinned (OpenSpec.ofChange arenaSumsSpec)

/-- ITS FALSE NEIGHBOUR: 'it returns false'. Refute it at one input. -/
def arenaSumsWrong : ChangeSpec := { name := "arenaSums", fn := fun _ => fun
  | [d] => { results := [.lit (.bool false)], args := [d] }
  | _ => none }
def ArenaSumsWrongFalsely : Prop := arenaSumsRow.holds Try.pinned (OpenSpec.ofChange arenaSumsWrong)

/-- 'concourselaw2.ArenaCores': WHATEVER THE INPUT: true; the input reads as it did. -/
def arenaCoresSpec : ChangeSpec := { name := "arenaCores", fn := fun _ => fun
  | [d1, d2] => { results := [.lit (.bool true)], args := [d1, d2] }
  | _ => none }
def arenaCoresRow : OpenClaim := { program := "ytkaijfpenokmbaa", sum := "9f495871b928f270888b62480118090b3e40b1ad605ac6e45f77e951240fd61b", func := "concourse/concourselaw2.ArenaCores", spec := "arenaCores", unfollowed := true, recurses := true, apart := false }
def ArenaCoresSaid : Prop := arenaCoresRow.holds Try.pinned (OpenSpec.ofChange arenaCoresSpec)

/-- ITS FALSE NEIGHBOUR: 'it returns false'. Refute it at one input. -/
def arenaCoresWrong : ChangeSpec := { name := "arenaCores", fn := fun _ => fun
  | [d1, d2] => { results := [.lit (.bool false)], args := [d1, d2] }
  | _ => none }
def ArenaCoresWrongFalsely : Prop := arenaCoresRow.holds Try.pinned (OpenSpec.ofChange arenaCoresWrong)

/- THE SECOND FORM. 'bulk': how many values and letters a reading holds, each counted each time it is reached (what is shared counts as often as it is met; a slice's spare places count too). A statement '..UptoSaid' is the law's where the arguments, and the package variables that the reading takes, are together of bulk at most 1048576: NARROWER than '..Said'. Prove '..Said' where nothing that the law and all that it calls make is longer than what came in: it says more and counts as full. Else prove '..UptoSaid'. A law counts once. -/
mutual
def uptoBulk {H : Type} : DataW H → Nat
  | .lit (.string bytes) => bytes.length + 1
  | .lit _ => 1
  | .nil => 1
  | .ptr d => uptoBulk d + 1
  | .slice elems spare => uptoBulkAll elems + uptoBulkAll spare + 1
  | .agg parts => uptoBulkAll parts + 1
  | .iface _ d => uptoBulk d + 1
  | .map entries => uptoBulkEntries entries + 1
  | .held _ => 1
def uptoBulkAll {H : Type} : List (DataW H) → Nat
  | [] => 0
  | d :: r => uptoBulk d + uptoBulkAll r
def uptoBulkEntries {H : Type} : List (Lit × DataW H) → Nat
  | [] => 0
  | x :: r => uptoBulkEntry x + uptoBulkEntries r
def uptoBulkEntry {H : Type} : Lit × DataW H → Nat
  | (.string bytes, d) => bytes.length + uptoBulk d + 1
  | (_, d) => uptoBulk d + 1
 end
def uptoSmall : (H : Type) → List (DataW H) → Bool := fun _ ds => decide (uptoBulkAll ds ≤ 1048576)
def OpenSpec.upto (s : _root_.Go.ChangeSpec) : _root_.Go.OpenSpec := { _root_.Go.OpenSpec.ofChange s with cond := some uptoSmall }

/-- 'concourselaw2.ArenaActs', WHERE WHAT IT READS IS OF BULK AT MOST 1048576: true; the input reads as it did. -/
def arenaActsUptoRow : OpenClaim := { program := "ytkaijfpenokmbaa", sum := "9f495871b928f270888b62480118090b3e40b1ad605ac6e45f77e951240fd61b", func := "concourse/concourselaw2.ArenaActs", spec := "arenaActs", unfollowed := true, recurses := true, apart := false, narrowed := true }
def ArenaActsUptoSaid : Prop := arenaActsUptoRow.holds Try.pinned (OpenSpec.upto arenaActsSpec)

/-- 'concourselaw2.ArenaCas', WHERE WHAT IT READS IS OF BULK AT MOST 1048576: true; the input reads as it did. -/
def arenaCasUptoRow : OpenClaim := { program := "ytkaijfpenokmbaa", sum := "9f495871b928f270888b62480118090b3e40b1ad605ac6e45f77e951240fd61b", func := "concourse/concourselaw2.ArenaCas", spec := "arenaCas", unfollowed := true, recurses := true, apart := false, narrowed := true }
def ArenaCasUptoSaid : Prop := arenaCasUptoRow.holds Try.pinned (OpenSpec.upto arenaCasSpec)

/-- 'concourselaw2.ArenaReads', WHERE WHAT IT READS IS OF BULK AT MOST 1048576: true; the input reads as it did. -/
def arenaReadsUptoRow : OpenClaim := { program := "ytkaijfpenokmbaa", sum := "9f495871b928f270888b62480118090b3e40b1ad605ac6e45f77e951240fd61b", func := "concourse/concourselaw2.ArenaReads", spec := "arenaReads", unfollowed := true, recurses := true, apart := false, narrowed := true }
def ArenaReadsUptoSaid : Prop := arenaReadsUptoRow.holds Try.pinned (OpenSpec.upto arenaReadsSpec)

/-- 'concourselaw2.ArenaSums', WHERE WHAT IT READS IS OF BULK AT MOST 1048576: true; the input reads as it did. -/
def arenaSumsUptoRow : OpenClaim := { program := "ytkaijfpenokmbaa", sum := "9f495871b928f270888b62480118090b3e40b1ad605ac6e45f77e951240fd61b", func := "concourse/concourselaw2.ArenaSums", spec := "arenaSums", unfollowed := true, recurses := true, apart := false, narrowed := true }
def ArenaSumsUptoSaid : Prop := arenaSumsUptoRow.holds Try.pinned (OpenSpec.upto arenaSumsSpec)

/-- 'concourselaw2.ArenaCores', WHERE WHAT IT READS IS OF BULK AT MOST 1048576: true; the input reads as it did. -/
def arenaCoresUptoRow : OpenClaim := { program := "ytkaijfpenokmbaa", sum := "9f495871b928f270888b62480118090b3e40b1ad605ac6e45f77e951240fd61b", func := "concourse/concourselaw2.ArenaCores", spec := "arenaCores", unfollowed := true, recurses := true, apart := false, narrowed := true }
def ArenaCoresUptoSaid : Prop := arenaCoresUptoRow.holds Try.pinned (OpenSpec.upto arenaCoresSpec)

end Rows
end Go.Proofs.Ytkaijfpenokmbaa
