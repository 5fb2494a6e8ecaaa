/-
  Package dir: two spellings held against each other, RuneLen, which slot of a bucket has a spelling.
-/
import Derived.Test.YtnbbcbjfejdceaaDoorPk
import Derived.Test.YtnbbcbjfejdceaaDoorDx
import Derived.ChangeKeysEq
import Derived.Laws.StructEq
namespace Go.Proofs.YtnbbcbjfejdceaaDoor
open Go.RowKit
set_option linter.unusedVariables false

theorem eq_in (a b x y : Int) (w : World) : (Op.equalIn 10000 69 (.agg #[.int .i64 a, .int .i64 b]) (.agg #[.int .i64 x, .int .i64 y])).run Tryd.prog w = .ok (a == x && b == y) w := by
  obtain ⟨i, hi⟩ := Option.isSome_iff_exists.1 (show (Tryd.prog.info? 3).isSome = true by kernel_rfl)
  rw [show (10000 : Nat) = 9999 + 1 from rfl, run_equalIn_array (P := Tryd.prog) w 9999 (t := 69) (e := 3) (n := 2) (i := i) _ _ Tryd.underlying69 hi]
  have u3 := Tryd.underlying3
  have a3 := Tryd.isAgg3
  have z3 := Tryd.sizeOf3
  have c3 : Tryd.prog.cellsOf 3 = 1 := by kernel_rfl
  rw [c3, show List.range 2 = [0, 1] from rfl]
  unfold Op.eqItems Op.eqItems Op.eqItems
  go_simp
  by_cases h1 : a = x <;> by_cases h2 : b = y <;> simp [h1, h2]

theorem eq_sp (a b x y : Int) (w : World) : (binOp .eql 69 (.agg #[.int .i64 a, .int .i64 b]) (.agg #[.int .i64 x, .int .i64 y])).run Tryd.prog w = .ok (.bool (a == x && b == y)) w := by
  rw [run_eql_struct, eq_in]; rfl

theorem neq_sp (a b x y : Int) (w : World) : (binOp .neq 69 (.agg #[.int .i64 a, .int .i64 b]) (.agg #[.int .i64 x, .int .i64 y])).run Tryd.prog w = .ok (.bool (!(a == x && b == y))) w := by
  rw [run_neq_struct, eq_in]; rfl

theorem rune_len {r : Int} {k : Nat} (h : (k = 1 ∧ 0 ≤ r ∧ r < 128) ∨ (k = 2 ∧ 128 ≤ r ∧ r ≤ 2047) ∨ (k = 3 ∧ 2048 ≤ r ∧ r ≤ 65535 ∧ (r < 55296 ∨ 57343 < r)) ∨ (k = 4 ∧ 65536 ≤ r ∧ r ≤ 1114111)) (w : World) :
    Calls Tryd.prog 52 #[.int .i32 r] w fun e w' => e = .returned (.int .i64 (k : Int)) ∧ w' = w := by
  have i0 : ¬ r < 0 := by omega
  rcases h with ⟨rfl, h1, h2⟩ | ⟨rfl, h1, h2⟩ | ⟨rfl, h1, h2, h3⟩ | ⟨rfl, h1, h2⟩
  · have i1 : r ≤ 127 := by omega
    go_enter Tryd.func52, Tryd.ntmps52
    go_wp2
    go_ret
    exact ⟨rfl, rfl⟩
  · have i1 : ¬ r ≤ 127 := by omega
    have i2 : r ≤ 2047 := by omega
    go_enter Tryd.func52, Tryd.ntmps52
    go_wp2
    go_ret
    exact ⟨rfl, rfl⟩
  · have i1 : ¬ r ≤ 127 := by omega
    have i2 : ¬ r ≤ 2047 := by omega
    by_cases h4 : r < 55296
    · have i3 : ¬ 55296 ≤ r := by omega
      have d3 : decide (55296 ≤ r) = false := by simp; omega
      clear h3
      go_enter Tryd.func52, Tryd.ntmps52
      go_wp2
      go_ret
      exact ⟨rfl, rfl⟩
    · have i3 : 55296 ≤ r := by omega
      have i4 : ¬ r ≤ 57343 := by omega
      have d3 : decide (55296 ≤ r) = true := by simp; omega
      have d4 : decide (r ≤ 57343) = false := by simp; omega
      clear h3
      go_enter Tryd.func52, Tryd.ntmps52
      go_wp2
      go_ret
      exact ⟨rfl, rfl⟩
  · have i1 : ¬ r ≤ 127 := by omega
    have i2 : ¬ r ≤ 2047 := by omega
    have i3 : 55296 ≤ r := by omega
    have i4 : ¬ r ≤ 57343 := by omega
    have i5 : ¬ r ≤ 65535 := by omega
    have d3 : decide (55296 ≤ r) = true := by simp; omega
    have d4 : decide (r ≤ 57343) = false := by simp; omega
    go_enter Tryd.func52, Tryd.ntmps52
    go_wp2
    go_ret
    exact ⟨rfl, rfl⟩

/-- A bucket's thirteen cells. -/
def bk (n : Int) (v : Nat → Int) : Array Value := #[.int .i64 n, .int .i64 (v 0), .int .i64 (v 1), .int .i64 (v 2), .int .i64 (v 3), .int .i64 (v 4), .int .i64 (v 5), .int .i64 (v 6), .int .i64 (v 7), .int .i64 (v 8), .int .i64 (v 9), .int .i64 (v 10), .int .i64 (v 11)]

theorem rdc_bk (n : Nat) (W : Nat → Int) : rdc n W 12 = bk (n : Int) (fun j => W (n * 12 + j)) := rfl

/-- Has slot i this spelling? -/
def hit (v : Nat → Int) (x y : Int) (i : Nat) : Bool := v (i * 3 + 1) == x && v (i * 3 + 2) == y

/-- Which slot has it: -1, if none. -/
def fnd (v : Nat → Int) (x y : Int) : Int := if hit v x y 0 then 0 else if hit v x y 1 then 1 else if hit v x y 2 then 2 else if hit v x y 3 then 3 else -1

theorem ix0 (v : Nat → Int) (w : World) : (Instr.index 72 (.agg #[.int .i64 (v 0), .int .i64 (v 1), .int .i64 (v 2), .int .i64 (v 3), .int .i64 (v 4), .int .i64 (v 5), .int .i64 (v 6), .int .i64 (v 7), .int .i64 (v 8), .int .i64 (v 9), .int .i64 (v 10), .int .i64 (v 11)]) (.int .i64 0)).run Tryd.prog w = .ok (.agg #[.int .i64 (v 0), .int .i64 (v 1), .int .i64 (v 2)]) w := by kernel_rfl
theorem ix1 (v : Nat → Int) (w : World) : (Instr.index 72 (.agg #[.int .i64 (v 0), .int .i64 (v 1), .int .i64 (v 2), .int .i64 (v 3), .int .i64 (v 4), .int .i64 (v 5), .int .i64 (v 6), .int .i64 (v 7), .int .i64 (v 8), .int .i64 (v 9), .int .i64 (v 10), .int .i64 (v 11)]) (.int .i64 1)).run Tryd.prog w = .ok (.agg #[.int .i64 (v 3), .int .i64 (v 4), .int .i64 (v 5)]) w := by kernel_rfl
theorem ix2 (v : Nat → Int) (w : World) : (Instr.index 72 (.agg #[.int .i64 (v 0), .int .i64 (v 1), .int .i64 (v 2), .int .i64 (v 3), .int .i64 (v 4), .int .i64 (v 5), .int .i64 (v 6), .int .i64 (v 7), .int .i64 (v 8), .int .i64 (v 9), .int .i64 (v 10), .int .i64 (v 11)]) (.int .i64 2)).run Tryd.prog w = .ok (.agg #[.int .i64 (v 6), .int .i64 (v 7), .int .i64 (v 8)]) w := by kernel_rfl
theorem ix3 (v : Nat → Int) (w : World) : (Instr.index 72 (.agg #[.int .i64 (v 0), .int .i64 (v 1), .int .i64 (v 2), .int .i64 (v 3), .int .i64 (v 4), .int .i64 (v 5), .int .i64 (v 6), .int .i64 (v 7), .int .i64 (v 8), .int .i64 (v 9), .int .i64 (v 10), .int .i64 (v 11)]) (.int .i64 3)).run Tryd.prog w = .ok (.agg #[.int .i64 (v 9), .int .i64 (v 10), .int .i64 (v 11)]) w := by kernel_rfl

theorem more_no {p : Nat → Bool} {j : Nat} (h : ∀ i, i < j → p i = false) (hj : p j = false) : ∀ i, i < j + 1 → p i = false := fun i hi => by
  rcases Nat.lt_succ_iff_lt_or_eq.1 hi with h1 | h1
  · exact h i h1
  · rw [h1]; exact hj

theorem hit_no {v : Nat → Int} {x y : Int} {i : Nat} (h : hit v x y i = false) {a c : Nat} (ha : a = i * 3 + 1) (hc : c = i * 3 + 2) : (v a == x && v c == y) = false := by subst ha hc; exact h

set_option maxRecDepth 100000 in
set_option maxHeartbeats 2000000 in
theorem b_find (n : Int) (v : Nat → Int) (x y : Int) (w : World) :
    Calls Tryd.prog 31 #[.agg (bk n v), .agg #[.int .i64 x, .int .i64 y]] w fun e w' => e = .returned (.int .i64 (fnd v x y)) ∧ Kept [] w w' := by
  unfold bk
  have heq := fun a b w => eq_sp a b x y w
  have x0 := ix0 v
  have x1 := ix1 v
  have x2 := ix2 v
  have x3 := ix3 v
  go_enter Tryd.func31, Tryd.ntmps31
  go_wp2
  go_loopw [9] (fun i wr => ∃ j : Nat, i = .int .i64 (j : Int) ∧ j ≤ 4 ∧ Hid (Kept [] w wr ∧ ∀ i, i < j → hit v x y i = false) ∧ wr.cell? ⟨w.heap.size + 1, 0, none⟩ = some (.int .i64 x) ∧ wr.cell? ⟨w.heap.size + 1, 1, none⟩ = some (.int .i64 y)) (fun i _ => (4 - intOf i).toNat)
  case atStart => exact ⟨0, rfl, by omega, ⟨((Kept.refl [] w).alloc _).alloc _, fun i hi => by omega⟩, (cell_of_row _ _ _ _ _ _ (heap_alloc2_new _ _ _)).trans rfl, (cell_of_row _ _ _ _ _ _ (heap_alloc2_new _ _ _)).trans rfl⟩
  case round =>
    obtain ⟨j, rfl, hj, HK, q0, q1⟩ := hrel
    have q0' := fun o => ((Kept.refl [] wr).alloc o).cell q0 (by simp)
    have q1' := fun o => ((Kept.refl [] wr).alloc o).cell q1 (by simp)
    rcases (show j = 0 ∨ j = 1 ∨ j = 2 ∨ j = 3 ∨ j = 4 by omega) with rfl | rfl | rfl | rfl | rfl
    · -- slot 0
      rcases hb : hit v x y 0 with _ | _
      · have h1 : (v 1 == x && v 2 == y) = false := hb
        have H2 : Hid (Kept [] w wr ∧ ∀ i, i < 1 → hit v x y i = false) := ⟨HK.out.1, more_no HK.out.2 hb⟩
        clear hb HK
        go_wp2
        go_roundw
        case rel => exact ⟨1, rfl, by omega, ⟨H2.out.1.alloc _, H2.out.2⟩, q0' _, q1' _⟩
        case measure => simp [intOf]
      · have h1 : (v 1 == x && v 2 == y) = true := hb
        have H2 : Hid (fnd v x y = 0 ∧ Kept [] w wr) := ⟨by unfold fnd; rw [if_pos hb], HK.out.1⟩
        clear hb HK
        go_wp2
        go_ret
        exact ⟨ret_int H2.out.1.symm, H2.out.2.alloc _⟩
    · -- slot 1
      rcases hb : hit v x y 1 with _ | _
      · have h1 : (v 4 == x && v 5 == y) = false := hb
        have H2 : Hid (Kept [] w wr ∧ ∀ i, i < 2 → hit v x y i = false) := ⟨HK.out.1, more_no HK.out.2 hb⟩
        clear hb HK
        go_wp2
        go_roundw
        case rel => exact ⟨2, rfl, by omega, ⟨H2.out.1.alloc _, H2.out.2⟩, q0' _, q1' _⟩
        case measure => simp [intOf]
      · have h1 : (v 4 == x && v 5 == y) = true := hb
        have H2 : Hid (fnd v x y = 1 ∧ Kept [] w wr) := ⟨by unfold fnd; rw [if_neg (by rw [HK.out.2 0 (by omega)]; simp), if_pos hb], HK.out.1⟩
        clear hb HK
        go_wp2
        go_ret
        exact ⟨ret_int H2.out.1.symm, H2.out.2.alloc _⟩
    · -- slot 2
      rcases hb : hit v x y 2 with _ | _
      · have h1 : (v 7 == x && v 8 == y) = false := hb
        have H2 : Hid (Kept [] w wr ∧ ∀ i, i < 3 → hit v x y i = false) := ⟨HK.out.1, more_no HK.out.2 hb⟩
        clear hb HK
        go_wp2
        go_roundw
        case rel => exact ⟨3, rfl, by omega, ⟨H2.out.1.alloc _, H2.out.2⟩, q0' _, q1' _⟩
        case measure => simp [intOf]
      · have h1 : (v 7 == x && v 8 == y) = true := hb
        have H2 : Hid (fnd v x y = 2 ∧ Kept [] w wr) := ⟨by unfold fnd; rw [if_neg (by rw [HK.out.2 0 (by omega)]; simp), if_neg (by rw [HK.out.2 1 (by omega)]; simp), if_pos hb], HK.out.1⟩
        clear hb HK
        go_wp2
        go_ret
        exact ⟨ret_int H2.out.1.symm, H2.out.2.alloc _⟩
    · -- slot 3
      rcases hb : hit v x y 3 with _ | _
      · have h1 : (v 10 == x && v 11 == y) = false := hb
        have H2 : Hid (Kept [] w wr ∧ ∀ i, i < 4 → hit v x y i = false) := ⟨HK.out.1, more_no HK.out.2 hb⟩
        clear hb HK
        go_wp2
        go_roundw
        case rel => exact ⟨4, rfl, by omega, ⟨H2.out.1.alloc _, H2.out.2⟩, q0' _, q1' _⟩
        case measure => simp [intOf]
      · have h1 : (v 10 == x && v 11 == y) = true := hb
        have H2 : Hid (fnd v x y = 3 ∧ Kept [] w wr) := ⟨by unfold fnd; rw [if_neg (by rw [HK.out.2 0 (by omega)]; simp), if_neg (by rw [HK.out.2 1 (by omega)]; simp), if_neg (by rw [HK.out.2 2 (by omega)]; simp), if_pos hb], HK.out.1⟩
        clear hb HK
        go_wp2
        go_ret
        exact ⟨ret_int H2.out.1.symm, H2.out.2.alloc _⟩
    · have H2 : Hid (fnd v x y = -1 ∧ Kept [] w wr) := ⟨by unfold fnd; rw [if_neg (by rw [HK.out.2 0 (by omega)]; simp), if_neg (by rw [HK.out.2 1 (by omega)]; simp), if_neg (by rw [HK.out.2 2 (by omega)]; simp), if_neg (by rw [HK.out.2 3 (by omega)]; simp)], HK.out.1⟩
      clear HK
      go_wp2
      go_ret
      exact ⟨ret_int H2.out.1.symm, H2.out.2⟩

end Go.Proofs.YtnbbcbjfejdceaaDoor
