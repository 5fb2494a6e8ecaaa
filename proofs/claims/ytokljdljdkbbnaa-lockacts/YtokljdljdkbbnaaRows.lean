/-
  No cell of these rows narrows 'for every input' (looked for: loops, veiled, ifaces, maps, wideKeys, modest, calm, conditions, laid).
  DERIVED. THE GIVEN ROWS OF THIS SEAT. 4 by the template 'for every input the law returns true; each argument reads behind the call as it read before'; 0 by the template 'total and deterministic' (their statements: YtokljdljdkbbnaaTotals.lean).
  GIVEN WITH THE SEED: the statements are not yours to turn. If you find one false, say at which input.
  Laid BY PROGRAM, IN A SANDBOX (cutbox-rows.mjs): the forced cells as the released guide's own fill.sh prints them over the translation de0dc394b3d1bbe5… (all of the seat's roots in one cut). By AI agents, Wed Nov 11 2026. No macro, syntax, notation, axiom, sorry.
-/
import Derived.Test.YtokljdljdkbbnaaChecked
import GoSem.Claim
import GoSem.ClaimJoined
import GoSem.ClaimMapViews
import Derived.JoinedTies
import Derived.KernelRfl
namespace Go.Proofs.Ytokljdljdkbbnaa
/- THE CELL 'sum', in the pinned program and in every row, IS THE sha256 OF THE DUMP (.gsa) THAT YtokljdljdkbbnaaProg.lean LOADS. Nothing in Lean hashes anything: it is a label: what it is worth is what the hold of that sum in a sandbox is worth. -/
noncomputable def Try.pinned : Pinned := { name := "ytokljdljdkbbnaa", sum := "de0dc394b3d1bbe5c446ff93323019b069d2ac3b02dbff75c56298ff27202c7d", checked := Try.checked }
namespace Rows
def none {H : Type} : Left H := { results := [], args := [] }

/-- 'concourselaw5.LockActs': WHATEVER THE INPUT: true; the input reads as it did. -/
def lockActsSpec : ChangeSpec := { name := "lockActs", fn := fun _ => fun
  | [d] => { results := [.lit (.bool true)], args := [d] }
  | _ => none }
def lockActsRow : OpenClaim := { program := "ytokljdljdkbbnaa", sum := "de0dc394b3d1bbe5c446ff93323019b069d2ac3b02dbff75c56298ff27202c7d", func := "concourse/concourselaw5.LockActs", spec := "lockActs", unfollowed := true, recurses := true, apart := false }
def LockActsSaid : Prop := lockActsRow.holds Try.pinned (OpenSpec.ofChange lockActsSpec)

/-- ITS FALSE NEIGHBOUR: 'it returns false'. Refute it at one input. -/
def lockActsWrong : ChangeSpec := { name := "lockActs", fn := fun _ => fun
  | [d] => { results := [.lit (.bool false)], args := [d] }
  | _ => none }
def LockActsWrongFalsely : Prop := lockActsRow.holds Try.pinned (OpenSpec.ofChange lockActsWrong)

/-- 'concourselaw5.LockOne': WHATEVER THE INPUT: true; the input reads as it did. -/
def lockOneSpec : ChangeSpec := { name := "lockOne", fn := fun _ => fun
  | [d] => { results := [.lit (.bool true)], args := [d] }
  | _ => none }
def lockOneRow : OpenClaim := { program := "ytokljdljdkbbnaa", sum := "de0dc394b3d1bbe5c446ff93323019b069d2ac3b02dbff75c56298ff27202c7d", func := "concourse/concourselaw5.LockOne", spec := "lockOne", unfollowed := true, recurses := true, apart := false }
def LockOneSaid : Prop := lockOneRow.holds Try.pinned (OpenSpec.ofChange lockOneSpec)

/-- ITS FALSE NEIGHBOUR: 'it returns false'. Refute it at one input. -/
def lockOneWrong : ChangeSpec := { name := "lockOne", fn := fun _ => fun
  | [d] => { results := [.lit (.bool false)], args := [d] }
  | _ => none }
def LockOneWrongFalsely : Prop := lockOneRow.holds Try.pinned (OpenSpec.ofChange lockOneWrong)

/-- 'concourselaw5.LockSeq': WHATEVER THE INPUT: true; the input reads as it did. -/
def lockSeqSpec : ChangeSpec := { name := "lockSeq", fn := fun _ => fun
  | [d] => { results := [.lit (.bool true)], args := [d] }
  | _ => none }
def lockSeqRow : OpenClaim := { program := "ytokljdljdkbbnaa", sum := "de0dc394b3d1bbe5c446ff93323019b069d2ac3b02dbff75c56298ff27202c7d", func := "concourse/concourselaw5.LockSeq", spec := "lockSeq", unfollowed := true, recurses := true, apart := false }
def LockSeqSaid : Prop := lockSeqRow.holds Try.pinned (OpenSpec.ofChange lockSeqSpec)

/-- ITS FALSE NEIGHBOUR: 'it returns false'. Refute it at one input. -/
def lockSeqWrong : ChangeSpec := { name := "lockSeq", fn := fun _ => fun
  | [d] => { results := [.lit (.bool false)], args := [d] }
  | _ => none }
def LockSeqWrongFalsely : Prop := lockSeqRow.holds Try.pinned (OpenSpec.ofChange lockSeqWrong)

/-- 'concourselaw5.LockWords': WHATEVER THE INPUT: true; the input reads as it did. -/
def lockWordsSpec : ChangeSpec := { name := "lockWords", fn := fun _ => fun
  | [d1, d2] => { results := [.lit (.bool true)], args := [d1, d2] }
  | _ => none }
def lockWordsRow : OpenClaim := { program := "ytokljdljdkbbnaa", sum := "de0dc394b3d1bbe5c446ff93323019b069d2ac3b02dbff75c56298ff27202c7d", func := "concourse/concourselaw5.LockWords", spec := "lockWords", unfollowed := true, recurses := true, apart := false }
def LockWordsSaid : Prop := lockWordsRow.holds Try.pinned (OpenSpec.ofChange lockWordsSpec)

/-- ITS FALSE NEIGHBOUR: 'it returns false'. Refute it at one input. -/
def lockWordsWrong : ChangeSpec := { name := "lockWords", fn := fun _ => fun
  | [d1, d2] => { results := [.lit (.bool false)], args := [d1, d2] }
  | _ => none }
def LockWordsWrongFalsely : Prop := lockWordsRow.holds Try.pinned (OpenSpec.ofChange lockWordsWrong)

/- THE SECOND FORM. 'bulk': how many values and letters a reading holds, each counted each time it is reached (what is shared counts as often as it is met; a slice's spare places count too). A statement '..UptoSaid' is the law's where the arguments, and the package variables that the reading takes, are together of bulk at most 1048576: NARROWER than '..Said'. Prove '..Said' where nothing that the law and all that it calls make is longer than what came in: it says more and counts as full. Else prove '..UptoSaid'. A law counts once. -/
mutual
def uptoBulk {H : Type} : DataW H → Nat
  | .lit (.string bytes) => bytes.length + 1
  | .lit _ => 1
  | .nil => 1
  | .ptr d => uptoBulk d + 1
  | .slice elems spare => uptoBulkAll elems + uptoBulkAll spare + 1
  | .agg parts => uptoBulkAll parts + 1
  | .iface _ d => uptoBulk d + 1
  | .map entries => uptoBulkEntries entries + 1
  | .held _ => 1
def uptoBulkAll {H : Type} : List (DataW H) → Nat
  | [] => 0
  | d :: r => uptoBulk d + uptoBulkAll r
def uptoBulkEntries {H : Type} : List (Lit × DataW H) → Nat
  | [] => 0
  | x :: r => uptoBulkEntry x + uptoBulkEntries r
def uptoBulkEntry {H : Type} : Lit × DataW H → Nat
  | (.string bytes, d) => bytes.length + uptoBulk d + 1
  | (_, d) => uptoBulk d + 1
 end
def uptoSmall : (H : Type) → List (DataW H) → Bool := fun _ ds => decide (uptoBulkAll ds ≤ 1048576)
def OpenSpec.upto (s : _root_.Go.ChangeSpec) : _root_.Go.OpenSpec := { _root_.Go.OpenSpec.ofChange s with cond := some uptoSmall }

/-- 'concourselaw5.LockActs', WHERE WHAT IT READS IS OF BULK AT MOST 1048576: true; the input reads as it did. -/
def lockActsUptoRow : OpenClaim := { program := "ytokljdljdkbbnaa", sum := "de0dc394b3d1bbe5c446ff93323019b069d2ac3b02dbff75c56298ff27202c7d", func := "concourse/concourselaw5.LockActs", spec := "lockActs", unfollowed := true, recurses := true, apart := false, narrowed := true }
def LockActsUptoSaid : Prop := lockActsUptoRow.holds Try.pinned (OpenSpec.upto lockActsSpec)

/-- 'concourselaw5.LockOne', WHERE WHAT IT READS IS OF BULK AT MOST 1048576: true; the input reads as it did. -/
def lockOneUptoRow : OpenClaim := { program := "ytokljdljdkbbnaa", sum := "de0dc394b3d1bbe5c446ff93323019b069d2ac3b02dbff75c56298ff27202c7d", func := "concourse/concourselaw5.LockOne", spec := "lockOne", unfollowed := true, recurses := true, apart := false, narrowed := true }
def LockOneUptoSaid : Prop := lockOneUptoRow.holds Try.pinned (OpenSpec.upto lockOneSpec)

/-- 'concourselaw5.LockSeq', WHERE WHAT IT READS IS OF BULK AT MOST 1048576: true; the input reads as it did. -/
def lockSeqUptoRow : OpenClaim := { program := "ytokljdljdkbbnaa", sum := "de0dc394b3d1bbe5c446ff93323019b069d2ac3b02dbff75c56298ff27202c7d", func := "concourse/concourselaw5.LockSeq", spec := "lockSeq", unfollowed := true, recurses := true, apart := false, narrowed := true }
def LockSeqUptoSaid : Prop := lockSeqUptoRow.holds Try.pinned (OpenSpec.upto lockSeqSpec)

/-- 'concourselaw5.LockWords', WHERE WHAT IT READS IS OF BULK AT MOST 1048576: true; the input reads as it did. -/
def lockWordsUptoRow : OpenClaim := { program := "ytokljdljdkbbnaa", sum := "de0dc394b3d1bbe5c446ff93323019b069d2ac3b02dbff75c56298ff27202c7d", func := "concourse/concourselaw5.LockWords", spec := "lockWords", unfollowed := true, recurses := true, apart := false, narrowed := true }
def LockWordsUptoSaid : Prop := lockWordsUptoRow.holds Try.pinned (OpenSpec.upto lockWordsSpec)

end Rows
end Go.Proofs.Ytokljdljdkbbnaa
