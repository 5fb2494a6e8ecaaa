/-
  No cell of these rows narrows 'for every input' (looked for: loops, veiled, ifaces, maps, wideKeys, modest, calm, conditions, laid).
  DERIVED. THE GIVEN ROWS OF THIS SEAT. 3 by the template 'for every input the law returns true; each argument reads behind the call as it read before'; 0 by the template 'total and deterministic' (their statements: YtndcbpbigbjfeaaTotals.lean).
  GIVEN WITH THE SEED: the statements are not yours to turn. If you find one false, say at which input.
  Laid BY PROGRAM, IN A SANDBOX (cutbox-rows.mjs): the forced cells as the released guide's own fill.sh prints them over the translation a59d2cb54a9dffaf… (all of the seat's roots in one cut). By AI agents, Wed Nov 11 2026. No macro, syntax, notation, axiom, sorry.
-/
import Derived.Test.YtndcbpbigbjfeaaChecked
import GoSem.Claim
import GoSem.ClaimJoined
import GoSem.ClaimMapViews
import Derived.JoinedTies
import Derived.KernelRfl
namespace Go.Proofs.Ytndcbpbigbjfeaa
/- THE CELL 'sum', in the pinned program and in every row, IS THE sha256 OF THE DUMP (.gsa) THAT YtndcbpbigbjfeaaProg.lean LOADS. Nothing in Lean hashes anything: it is a label: what it is worth is what the hold of that sum in a sandbox is worth. -/
noncomputable def Try.pinned : Pinned := { name := "ytndcbpbigbjfeaa", sum := "a59d2cb54a9dffaf678d802241801bc9c9cfb82976fc8b4728dca9bab323a0e0", checked := Try.checked }
namespace Rows
def none {H : Type} : Left H := { results := [], args := [] }

/-- 'concourselaw23.Traces': WHATEVER THE INPUT: true; the input reads as it did. -/
def tracesSpec : ChangeSpec := { name := "traces", fn := fun _ => fun
  | [d1, d2] => { results := [.lit (.bool true)], args := [d1, d2] }
  | _ => none }
def tracesRow : OpenClaim := { program := "ytndcbpbigbjfeaa", sum := "a59d2cb54a9dffaf678d802241801bc9c9cfb82976fc8b4728dca9bab323a0e0", func := "concourse/concourselaw23.Traces", spec := "traces", unfollowed := true, recurses := true, apart := false }
def TracesSaid : Prop := tracesRow.holds Try.pinned (OpenSpec.ofChange tracesSpec)

/-- ITS FALSE NEIGHBOUR: 'it returns false'. Refute it at one input. -/
def tracesWrong : ChangeSpec := { name := "traces", fn := fun _ => fun
  | [d1, d2] => { results := [.lit (.bool false)], args := [d1, d2] }
  | _ => none }
def TracesWrongFalsely : Prop := tracesRow.holds Try.pinned (OpenSpec.ofChange tracesWrong)

/-- 'concourselaw23.TraceEither': WHATEVER THE INPUT: true; the input reads as it did. -/
def traceEitherSpec : ChangeSpec := { name := "traceEither", fn := fun _ => fun
  | [d1, d2] => { results := [.lit (.bool true)], args := [d1, d2] }
  | _ => none }
def traceEitherRow : OpenClaim := { program := "ytndcbpbigbjfeaa", sum := "a59d2cb54a9dffaf678d802241801bc9c9cfb82976fc8b4728dca9bab323a0e0", func := "concourse/concourselaw23.TraceEither", spec := "traceEither", unfollowed := true, recurses := true, apart := false }
def TraceEitherSaid : Prop := traceEitherRow.holds Try.pinned (OpenSpec.ofChange traceEitherSpec)

/-- ITS FALSE NEIGHBOUR: 'it returns false'. Refute it at one input. -/
def traceEitherWrong : ChangeSpec := { name := "traceEither", fn := fun _ => fun
  | [d1, d2] => { results := [.lit (.bool false)], args := [d1, d2] }
  | _ => none }
def TraceEitherWrongFalsely : Prop := traceEitherRow.holds Try.pinned (OpenSpec.ofChange traceEitherWrong)

/-- 'concourselaw23.TraceWords': WHATEVER THE INPUT: true; the input reads as it did. -/
def traceWordsSpec : ChangeSpec := { name := "traceWords", fn := fun _ => fun
  | [d1, d2] => { results := [.lit (.bool true)], args := [d1, d2] }
  | _ => none }
def traceWordsRow : OpenClaim := { program := "ytndcbpbigbjfeaa", sum := "a59d2cb54a9dffaf678d802241801bc9c9cfb82976fc8b4728dca9bab323a0e0", func := "concourse/concourselaw23.TraceWords", spec := "traceWords", unfollowed := true, recurses := true, apart := false }
def TraceWordsSaid : Prop := traceWordsRow.holds Try.pinned (OpenSpec.ofChange traceWordsSpec)

/-- ITS FALSE NEIGHBOUR: 'it returns false'. Refute it at one input. -/
def traceWordsWrong : ChangeSpec := { name := "traceWords", fn := fun _ => fun
  | [d1, d2] => { results := [.lit (.bool false)], args := [d1, d2] }
  | _ => none }
def TraceWordsWrongFalsely : Prop := traceWordsRow.holds Try.pinned (OpenSpec.ofChange traceWordsWrong)

/- THE SECOND FORM. 'bulk': how many values and letters a reading holds, each counted each time it is reached (what is shared counts as often as it is met; a slice's spare places count too). A statement '..UptoSaid' is the law's where the arguments, and the package variables that the reading takes, are together of bulk at most 1048576: NARROWER than '..Said'. Prove '..Said' where nothing that the law and all that it calls make is longer than what came in: it says more and counts as full. Else prove '..UptoSaid'. A law counts once. -/
mutual
def uptoBulk {H : Type} : DataW H → Nat
  | .lit (.string bytes) => bytes.length + 1
  | .lit _ => 1
  | .nil => 1
  | .ptr d => uptoBulk d + 1
  | .slice elems spare => uptoBulkAll elems + uptoBulkAll spare + 1
  | .agg parts => uptoBulkAll parts + 1
  | .iface _ d => uptoBulk d + 1
  | .map entries => uptoBulkEntries entries + 1
  | .held _ => 1
def uptoBulkAll {H : Type} : List (DataW H) → Nat
  | [] => 0
  | d :: r => uptoBulk d + uptoBulkAll r
def uptoBulkEntries {H : Type} : List (Lit × DataW H) → Nat
  | [] => 0
  | x :: r => uptoBulkEntry x + uptoBulkEntries r
def uptoBulkEntry {H : Type} : Lit × DataW H → Nat
  | (.string bytes, d) => bytes.length + uptoBulk d + 1
  | (_, d) => uptoBulk d + 1
 end
def uptoSmall : (H : Type) → List (DataW H) → Bool := fun _ ds => decide (uptoBulkAll ds ≤ 1048576)
def OpenSpec.upto (s : _root_.Go.ChangeSpec) : _root_.Go.OpenSpec := { _root_.Go.OpenSpec.ofChange s with cond := some uptoSmall }

/-- 'concourselaw23.Traces', WHERE WHAT IT READS IS OF BULK AT MOST 1048576: true; the input reads as it did. -/
def tracesUptoRow : OpenClaim := { program := "ytndcbpbigbjfeaa", sum := "a59d2cb54a9dffaf678d802241801bc9c9cfb82976fc8b4728dca9bab323a0e0", func := "concourse/concourselaw23.Traces", spec := "traces", unfollowed := true, recurses := true, apart := false, narrowed := true }
def TracesUptoSaid : Prop := tracesUptoRow.holds Try.pinned (OpenSpec.upto tracesSpec)

/-- 'concourselaw23.TraceEither', WHERE WHAT IT READS IS OF BULK AT MOST 1048576: true; the input reads as it did. -/
def traceEitherUptoRow : OpenClaim := { program := "ytndcbpbigbjfeaa", sum := "a59d2cb54a9dffaf678d802241801bc9c9cfb82976fc8b4728dca9bab323a0e0", func := "concourse/concourselaw23.TraceEither", spec := "traceEither", unfollowed := true, recurses := true, apart := false, narrowed := true }
def TraceEitherUptoSaid : Prop := traceEitherUptoRow.holds Try.pinned (OpenSpec.upto traceEitherSpec)

/-- 'concourselaw23.TraceWords', WHERE WHAT IT READS IS OF BULK AT MOST 1048576: true; the input reads as it did. -/
def traceWordsUptoRow : OpenClaim := { program := "ytndcbpbigbjfeaa", sum := "a59d2cb54a9dffaf678d802241801bc9c9cfb82976fc8b4728dca9bab323a0e0", func := "concourse/concourselaw23.TraceWords", spec := "traceWords", unfollowed := true, recurses := true, apart := false, narrowed := true }
def TraceWordsUptoSaid : Prop := traceWordsUptoRow.holds Try.pinned (OpenSpec.upto traceWordsSpec)

end Rows
end Go.Proofs.Ytndcbpbigbjfeaa
