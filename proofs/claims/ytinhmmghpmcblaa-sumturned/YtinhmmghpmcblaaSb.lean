/-
  The digits of a number: the program's Hex and the document's come to the same text.
-/
import Derived.Test.YtinhmmghpmcblaaSa
namespace Go.Proofs.Ytinhmmghpmcblaa
open Go.RowKit Go.Lib
set_option linter.unusedVariables false

/-- A row of bytes of the call's own. -/
structure Bs (t : Nat) (w0 W : World) (B : Nat) (xs : List Int) : Prop where
  kept : Kept [] w0 W
  new : w0.heap.size ≤ B
  here : W.heap[B]? = some (.cells (xs.map (Value.int .u8)).toArray t (0, 0))

theorem Bs.cell {t : Nat} {w0 W : World} {B : Nat} {xs : List Int} (h : Bs t w0 W B xs) {i : Nat} (hi : i < xs.length) : W.cell? ⟨B, i, none⟩ = some (.int .u8 (xs.getD i 0)) := by
  simp [World.cell?, h.here, hi]

theorem Bs.frozen {t : Nat} {w0 W : World} {B : Nat} {xs : List Int} (h : Bs t w0 W B xs) (i : Nat) : W.frozen? ⟨B, i, none⟩ = false := by
  simp [World.frozen?, h.here]

theorem Bs.set {t : Nat} {w0 W : World} {B : Nat} {xs : List Int} (h : Bs t w0 W B xs) (i : Nat) (v : Int) : Bs t w0 (W.setCell ⟨B, i, none⟩ (.int .u8 v)) B (xs.set i v) := by
  refine ⟨h.kept.setCell (Or.inr h.new) _, h.new, ?_⟩
  rw [heap_setCell_same W B i _ t _ h.here]
  simp [List.map_set]

theorem Bs.made {w0 w : World} (t : Nat) (h : Kept [] w0 w) (n : Nat) : Bs t w0 (w.alloc (.cells ((List.replicate n (0 : Int)).map (Value.int .u8)).toArray t)) w.heap.size (List.replicate n 0) :=
  ⟨h.alloc _, h.size, by show (w.heap.push _)[w.heap.size]? = _; simp⟩

theorem info5 : (Try.prog.info? 5).map (fun i => (i.zero, i.size, i.bytes)) = some (some (.int .u8 0), 1, 1) := by kernel_rfl

theorem make_bytes (n : Nat) (h : n ≤ 65536) (w : World) : (Instr.makeSlice 28 (.int .i64 (n : Int)) (.int .i64 (n : Int))).run Try.prog w = .ok (.slice (some ⟨w.heap.size, 0, none⟩) n n) (w.alloc (.cells ((List.replicate n (0 : Int)).map (Value.int .u8)).toArray 5)) := by
  obtain ⟨i0, hi, hx⟩ : ∃ i0, Try.prog.info? 5 = some i0 ∧ (i0.zero, i0.size, i0.bytes) = (some (Value.int .u8 0), 1, 1) := by
    cases hi : Try.prog.info? 5 with
    | none => have := info5; rw [hi] at this; cases this
    | some i0 => have := info5; rw [hi] at this; exact ⟨i0, rfl, Option.some.inj this⟩
  obtain ⟨hz0, hz1, hz2⟩ : i0.zero = some (Value.int .u8 0) ∧ i0.size = 1 ∧ i0.bytes = 1 := by simpa using hx
  have := run_make (P := Try.prog) w 28 5 i0 (.int .u8 0) Try.underlying28 hi hz0 .i64 .i64 n n (by omega) (by omega) (by rw [hz2]; omega) (by omega)
  rw [this]
  have e : madeCells (Value.int .u8 0).cells ((n : Int).toNat * i0.size) = ((List.replicate n (0 : Int)).map (Value.int .u8)).toArray := by
    apply Array.ext'
    rw [hz1]
    simp [toList_madeCells_one, Value.cells]
  rw [e]
  simp

theorem Bs.conv {t : Nat} {w0 W : World} {B : Nat} {xs : List Int} (h : Bs t w0 W B xs) (n : Nat) (hn : xs.length = n) (c : Nat) : (convert 28 9 (.slice (some ⟨B, 0, none⟩) n c)).run Try.prog W = .ok (.string (strOfNums xs)) W :=
  run_convert_bytes_arg (P := Try.prog) W 28 5 Try.underlying28 Try.underlying5 B 0 n c xs hn (fun i hi => by rw [Nat.zero_add]; exact h.cell (by omega)) 9 Try.underlying9

/-- A digit as a byte. -/
def dg (d : Nat) : Int := ((#[48, 49, 50, 51, 52, 53, 54, 55, 56, 57, 97, 98, 99, 100, 101, 102] : Array UInt8).getD d 0).toNat

theorem dg_at {d : Nat} (h : d < 16) : (((⟨#[48, 49, 50, 51, 52, 53, 54, 55, 56, 57, 97, 98, 99, 100, 101, 102]⟩ : ByteArray)[d]'h).toNat : Int) = dg d := by
  have : ∀ d : Fin 16, (((⟨#[48, 49, 50, 51, 52, 53, 54, 55, 56, 57, 97, 98, 99, 100, 101, 102]⟩ : ByteArray)[d.1]'d.2).toNat : Int) = dg d.1 := by decide +kernel
  exact this ⟨d, h⟩

/-- The digits of x from place k down, into a row. -/
def hexS : Nat → Nat → List Int → List Int
  | 0, _, l => l
  | k + 1, x, l => hexS k (x / 16) (l.set k (dg (x % 16)))

def hexL (x : Nat) : List Int := hexS 16 x (List.replicate 16 0)

theorem hexS_length (k : Nat) : ∀ x l, (hexS k x l).length = l.length := by
  induction k with
  | zero => intro x l; rfl
  | succ k ih => intro x l; rw [hexS, ih, List.length_set]

theorem hexL_length (x : Nat) : (hexL x).length = 16 := by unfold hexL; rw [hexS_length]; simp

/-- A number's digits as a text. -/
def hexT (x : Nat) : ByteArray := strOfNums (hexL x)

theorem hexT_size (x : Nat) : (hexT x).size = 16 := by unfold hexT; rw [strOfNums_size, hexL_length]

set_option maxRecDepth 100000 in
set_option maxHeartbeats 1000000 in
theorem p_hex (x : Nat) (hx : x < 18446744073709551616) (w : World) :
    Calls Try.prog 9 #[.int .u64 (x : Int)] w fun e w' => e = .returned (.string (hexT x)) ∧ Kept [] w w' := by
  have hmk : (Instr.makeSlice 28 (.int .i64 16) (.int .i64 16)).run Try.prog w = .ok (.slice (some ⟨w.heap.size, 0, none⟩) 16 16) (w.alloc (.cells ((List.replicate 16 (0 : Int)).map (Value.int .u8)).toArray 5)) := make_bytes 16 (by omega) w
  go_enter Try.func9, Try.ntmps9
  go_wp2_with fail
  go_loopw [0, 4] (fun x1 i wr => ∃ (y : Nat) (l : List Int) (j : Nat), x1 = .int .u64 (y : Int) ∧ i = .int .i64 ((j : Int) - 1) ∧ j ≤ 16 ∧ y < 18446744073709551616 ∧ l.length = 16 ∧ Hid (Bs 32 w wr w.heap.size l ∧ hexS j y l = hexL x)) (fun _ i _ => (intOf i + 1).toNat)
  case atStart => exact ⟨x, List.replicate 16 0, 16, rfl, rfl, by omega, hx, rfl, Bs.made 32 (Kept.refl _ _) 16, rfl⟩
  case round =>
    obtain ⟨y, l, j, rfl, rfl, hj, hy, hl, HJ⟩ := hrel
    obtain ⟨hb, hh⟩ := HJ.out
    have HB : Hid (Bs 32 w wr w.heap.size l) := hb
    have HH : Hid (hexS j y l = hexL x) := hh
    clear hb hh HJ
    cases j with
    | succ j =>
      have i1 : (0 : Int) ≤ (j : Int) := by omega
      have hm : y % 16 < 16 := Nat.mod_lt _ (by omega)
      have HN : Hid (hexS j (y / 16) (l.set j (dg (y % 16))) = hexL x) := HH.out
      have c1 := HB.out.cell (i := j) (by omega)
      have c2 := HB.out.frozen j
      clear HH
      go_wp2_with fail
      go_roundw
      case rel => exact ⟨y / 16, l.set j (dg (y % 16)), j, by go_num, by go_num, by omega, by omega, by simpa using hl, by rw [← dg_at hm]; exact HB.out.set j _, HN.out⟩
      case measure => simp [intOf]
    | zero =>
      have HE : Hid (l = hexL x) := HH.out
      clear HH
      have hc := HB.out.conv 16 hl 16
      go_wp2_with fail
      go_ret
      exact ⟨by rw [HE.out]; rfl, HB.out.kept⟩

set_option maxRecDepth 100000 in
set_option maxHeartbeats 1000000 in
theorem r_hex (x : Nat) (hx : x < 18446744073709551616) (w : World) :
    Calls Try.prog 10 #[.int .u64 (x : Int)] w fun e w' => e = .returned (.string (hexT x)) ∧ Kept [] w w' := by
  have hmk : (Instr.makeSlice 28 (.int .i64 16) (.int .i64 16)).run Try.prog w = .ok (.slice (some ⟨w.heap.size, 0, none⟩) 16 16) (w.alloc (.cells ((List.replicate 16 (0 : Int)).map (Value.int .u8)).toArray 5)) := make_bytes 16 (by omega) w
  go_enter Try.func10, Try.ntmps10
  go_wp2_with fail
  go_loopw [0, 5] (fun x1 i wr => ∃ (y : Nat) (l : List Int) (j : Nat), x1 = .int .u64 (y : Int) ∧ i = .int .i64 ((j : Int) - 1) ∧ j ≤ 16 ∧ y < 18446744073709551616 ∧ l.length = 16 ∧ Hid (Bs 5 w wr w.heap.size l ∧ hexS j y l = hexL x)) (fun _ i _ => (intOf i + 1).toNat)
  case atStart => exact ⟨x, List.replicate 16 0, 16, rfl, rfl, by omega, hx, rfl, Bs.made 5 (Kept.refl _ _) 16, rfl⟩
  case round =>
    obtain ⟨y, l, j, rfl, rfl, hj, hy, hl, HJ⟩ := hrel
    obtain ⟨hb, hh⟩ := HJ.out
    have HB : Hid (Bs 5 w wr w.heap.size l) := hb
    have HH : Hid (hexS j y l = hexL x) := hh
    clear hb hh HJ
    cases j with
    | succ j =>
      have i1 : (0 : Int) ≤ (j : Int) := by omega
      have hm : y % 16 < 16 := Nat.mod_lt _ (by omega)
      have HN : Hid (hexS j (y / 16) (l.set j (dg (y % 16))) = hexL x) := HH.out
      have c1 := HB.out.cell (i := j) (by omega)
      have c2 := HB.out.frozen j
      clear HH
      go_wp2_with fail
      go_roundw
      case rel => exact ⟨y / 16, l.set j (dg (y % 16)), j, by go_num, by go_num, by omega, by omega, by simpa using hl, by rw [← dg_at hm]; exact HB.out.set j _, HN.out⟩
      case measure => simp [intOf]
    | zero =>
      have HE : Hid (l = hexL x) := HH.out
      clear HH
      have hc := HB.out.conv 16 hl 16
      go_wp2_with fail
      go_ret
      exact ⟨by rw [HE.out]; rfl, HB.out.kept⟩

end Go.Proofs.Ytinhmmghpmcblaa
