/-
  A directory of package dir: a bucket read whole, a slot written, the words cleared, how it is made.
-/
import Derived.Test.YtnbbcbjfejdceaaDoorSx
import Derived.Deep.RegionHeld3
namespace Go.Proofs.YtnbbcbjfejdceaaDoor
open Go.RowKit
set_option linter.unusedVariables false

section
variable {I : Trc → Prop} {S : List (Nat × Obj)} {w0 w : World} {b g f k L N : Nat} {W V : Nat → Int}

/-- I lets core c read a bucket. -/
def Rd (I : Trc → Prop) (c f n : Nat) : Prop := ∀ q, n * 12 ≤ q → q < n * 12 + 12 → ∀ t, I t → I (tput t c (((f + q : Nat) : Int), false))
/-- I lets core c write a bucket. -/
def Wr (I : Trc → Prop) (c f n : Nat) : Prop := ∀ q, n * 12 ≤ q → q < n * 12 + 12 → ∀ t, I t → I (tput t c (((f + q : Nat) : Int), true))

theorem z13 (n : Nat) (W : Nat → Int) : rdc n W 0 = #[.int .i64 (n : Int), .int .i64 0, .int .i64 0, .int .i64 0, .int .i64 0, .int .i64 0, .int .i64 0, .int .i64 0, .int .i64 0, .int .i64 0, .int .i64 0, .int .i64 0, .int .i64 0] := rfl

/-- A bucket's block before anything lies in it. -/
def zb : Obj := .cells #[.int .i64 0, .int .i64 0, .int .i64 0, .int .i64 0, .int .i64 0, .int .i64 0, .int .i64 0, .int .i64 0, .int .i64 0, .int .i64 0, .int .i64 0, .int .i64 0, .int .i64 0] 74 (0, 0)

set_option maxRecDepth 100000 in
set_option maxHeartbeats 4000000 in
theorem d_read (h : Db I S w0 w b g f k L N W) (c n : Nat) (x : Int) (hx : x = (n : Int)) (hc : c < k) (hn : n < 8) (hI : Rd I c f n) (hN : N < 900000) :
    Calls Tryd.prog 34 #[.pointer (some ⟨g, 0, none⟩), .int .i64 (c : Int), .int .i64 x] w fun e w' => e = .returned (.agg (bk (n : Int) fun j => W (n * 12 + j))) ∧ Db I S w0 w' b g f k L (N + 12) W := by
  subst hx
  have HH : Hid (Db I S w0 w b g f k L N W ∧ Rd I c f n) := ⟨h, hI⟩
  have H0 : Hid (Db I ((w.heap.size + 1, .cells (rdc n W 0) 74 (0, 0)) :: (w.heap.size, zb) :: S) w0 ((w.alloc zb).alloc (.cells (rdc n W 0) 74 (0, 0))) b g f k L N W) := by
    have := (h.push zb).push (.cells (rdc n W 0) 74 (0, 0))
    rw [show (w.alloc zb).heap.size = w.heap.size + 1 by simp] at this
    exact this
  rw [z13] at H0
  unfold zb at H0
  have bn2 : ∀ x ∈ (w.heap.size, zb) :: S, x.1 ≠ w.heap.size + 1 := fun x hx e => by
    rcases List.mem_cons.1 hx with rfl | hx
    · simp at e
    · have := lt_of_heap (h.at_ hx); omega
  have bn0 : ∀ x ∈ S, x.1 ≠ w.heap.size := h.ne_new
  have hfit := h.fit
  have hlhi := h.lhi
  clear h hI
  go_enter Tryd.func34, Tryd.ntmps34
  go_wp2_with fail
  go_loopw [13] (fun i wr => ∃ j : Nat, i = .int .i64 (j : Int) ∧ j ≤ 4 ∧ Hid (Db I ((w.heap.size + 1, .cells (rdc n W (j * 3)) 74 (0, 0)) :: (w.heap.size, zb) :: S) w0 wr b g f k L (N + j * 3) W)) (fun i _ => (4 - intOf i).toNat)
  case atStart => exact ⟨0, rfl, by omega, H0.out⟩
  case round =>
    clear H0
    obtain ⟨j, rfl, hj, HJ⟩ := hrel
    by_cases hlt : j < 4
    · have i0 : (j : Int) < 4 := by omega
      have i1 : (0 : Int) ≤ (j : Int) := by omega
      go_wp2_with fail
      refine (d_slotAt HJ.out n j _ _ rfl rfl hn hlt).mono ?_
      rintro e w1 ⟨rfl, hw1⟩
      have hw1' := hw1.symm
      subst hw1'
      clear hw1
      go_wp2_with fail
      refine (d_load (I' := I) HJ.out c (n * 12 + j * 3) _ rfl hc (by omega) (HH.out.2 _ (by omega) (by omega)) (by omega)).mono ?_
      rintro e w2 ⟨rfl, h2⟩
      have hb := h2.at_ (List.mem_cons_self ..)
      have f0 : w2.frozen? ⟨w.heap.size + 1, 1 + j * 3, none⟩ = false := frozen_of_row _ _ _ _ _ hb
      have c0 : w2.cell? ⟨w.heap.size + 1, 1 + j * 3, none⟩ = some (.int .i64 0) := by rw [cell_of_row _ _ _ _ _ _ hb, rdc_get _ _ _ _ (by omega), if_neg (by omega)]
      have hx := h2.put bn2 (List.mem_cons_of_mem _ HH.out.1.mem) (1 + j * 3) (.int .i64 (W (n * 12 + j * 3)))
      rw [rdc_set n W (j * 3) (by omega)] at hx
      have H3 : Hid (_) := hx
      clear hx hb h2 HJ
      go_wp2_with fail
      go_loopw [28] (fun i wr => ∃ q : Nat, i = .int .i64 (q : Int) ∧ q ≤ 2 ∧ Hid (Db I ((w.heap.size + 1, .cells (rdc n W (j * 3 + 1 + q)) 74 (0, 0)) :: (w.heap.size, zb) :: S) w0 wr b g f k L (N + (j * 3 + 1 + q)) W)) (fun i _ => (2 - intOf i).toNat)
      case atStart => exact ⟨0, rfl, by omega, H3.out⟩
      case round =>
        clear H3 c0 f0
        obtain ⟨q, rfl, hq, HQ⟩ := hrel
        by_cases hlq : q < 2
        · have i2 : (q : Int) < 2 := by omega
          have i3 : (0 : Int) ≤ (q : Int) := by omega
          go_wp2_with fail
          have HD : Hid (_) := Db.still HQ.out (Kept.refl [] wr).drew
          clear HQ
          go_region_held3 (fun w' => True) (first | exact trivial | go_keep)
            (first
              | (go_at_call 55; refine (d_load (I' := I) HD.out c (n * 12 + (j * 3 + 1 + q)) _ (by simp only [IntKind.wrap_i64]; omega) hc (by omega) (HH.out.2 _ (by omega) (by omega)) (by omega)).mono ?_; rintro e w3 ⟨rfl, h3⟩; have hb := h3.at_ (List.mem_cons_self ..); have f0 : w3.frozen? ⟨w.heap.size + 1, 1 + j * 3 + 1 + q, none⟩ = false := frozen_of_row _ _ _ _ _ hb; have c0 : w3.cell? ⟨w.heap.size + 1, 1 + j * 3 + 1 + q, none⟩ = some (.int .i64 0) := (by rw [cell_of_row _ _ _ _ _ _ hb, show 1 + j * 3 + 1 + q = 1 + (j * 3 + 1 + q) by omega, rdc_get _ _ _ _ (by omega), if_neg (by omega)])))
          have hx := h3.put bn2 (List.mem_cons_of_mem _ HH.out.1.mem) (1 + (j * 3 + 1 + q)) (.int .i64 (W (n * 12 + (j * 3 + 1 + q))))
          rw [rdc_set n W (j * 3 + 1 + q) (by omega), show 1 + (j * 3 + 1 + q) = 1 + j * 3 + 1 + q by omega] at hx
          have H3 : Hid (_) := hx
          clear hx hb h3 HD
          go_wp2_with fail
          go_roundw
          case rel => exact ⟨q + 1, by go_num, by omega, H3.out⟩
          case measure => simp [intOf]; omega
        · have i2 : ¬ (q : Int) < 2 := by omega
          have H3 : Hid (Db I ((w.heap.size + 1, .cells (rdc n W ((j + 1) * 3)) 74 (0, 0)) :: (w.heap.size, zb) :: S) w0 wr b g f k L (N + (j + 1) * 3) W) := by
            have := HQ.out
            rw [show q = 2 by omega, show j * 3 + 1 + 2 = (j + 1) * 3 by omega] at this
            exact this
          clear HQ
          go_wp2_with fail
          go_roundw
          case rel => exact ⟨j + 1, by go_num, by omega, H3.out⟩
          case measure => simp [intOf]; omega
    · have i0 : ¬ (j : Int) < 4 := by omega
      have hJ : Db I ((w.heap.size + 1, .cells (rdc n W 12) 74 (0, 0)) :: (w.heap.size, zb) :: S) w0 wr b g f k L (N + 12) W := by
        have := HJ.out
        rw [show j = 4 by omega] at this
        exact this
      rw [rdc_bk] at hJ
      clear HJ
      have H3 : Hid (_) := hJ
      have b1 := hJ.at_ (List.mem_cons_self ..)
      have b0 := hJ.at_ (List.mem_cons_of_mem _ (List.mem_cons_self ..))
      simp only [zb] at b0
      simp only at b1
      have c0 : wr.cell? ⟨w.heap.size + 1, 0, none⟩ = some (.int .i64 (n : Int)) := (cell_of_row _ _ _ _ _ _ b1).trans rfl
      have d0 : wr.cell? ⟨w.heap.size, 0, none⟩ = some (.int .i64 0) := cell_of_row _ _ _ _ _ _ b0
      have f0 : wr.frozen? ⟨w.heap.size, 0, none⟩ = false := frozen_of_row _ _ _ _ _ b0
      have c1 : wr.cell? ⟨w.heap.size + 1, 1, none⟩ = some (.int .i64 (W (n * 12 + 0))) := (cell_of_row _ _ _ _ _ _ b1).trans rfl
      have d1 : wr.cell? ⟨w.heap.size, 1, none⟩ = some (.int .i64 0) := cell_of_row _ _ _ _ _ _ b0
      have f1 : wr.frozen? ⟨w.heap.size, 1, none⟩ = false := frozen_of_row _ _ _ _ _ b0
      have c2 : wr.cell? ⟨w.heap.size + 1, 2, none⟩ = some (.int .i64 (W (n * 12 + 1))) := (cell_of_row _ _ _ _ _ _ b1).trans rfl
      have d2 : wr.cell? ⟨w.heap.size, 2, none⟩ = some (.int .i64 0) := cell_of_row _ _ _ _ _ _ b0
      have f2 : wr.frozen? ⟨w.heap.size, 2, none⟩ = false := frozen_of_row _ _ _ _ _ b0
      have c3 : wr.cell? ⟨w.heap.size + 1, 3, none⟩ = some (.int .i64 (W (n * 12 + 2))) := (cell_of_row _ _ _ _ _ _ b1).trans rfl
      have d3 : wr.cell? ⟨w.heap.size, 3, none⟩ = some (.int .i64 0) := cell_of_row _ _ _ _ _ _ b0
      have f3 : wr.frozen? ⟨w.heap.size, 3, none⟩ = false := frozen_of_row _ _ _ _ _ b0
      have c4 : wr.cell? ⟨w.heap.size + 1, 4, none⟩ = some (.int .i64 (W (n * 12 + 3))) := (cell_of_row _ _ _ _ _ _ b1).trans rfl
      have d4 : wr.cell? ⟨w.heap.size, 4, none⟩ = some (.int .i64 0) := cell_of_row _ _ _ _ _ _ b0
      have f4 : wr.frozen? ⟨w.heap.size, 4, none⟩ = false := frozen_of_row _ _ _ _ _ b0
      have c5 : wr.cell? ⟨w.heap.size + 1, 5, none⟩ = some (.int .i64 (W (n * 12 + 4))) := (cell_of_row _ _ _ _ _ _ b1).trans rfl
      have d5 : wr.cell? ⟨w.heap.size, 5, none⟩ = some (.int .i64 0) := cell_of_row _ _ _ _ _ _ b0
      have f5 : wr.frozen? ⟨w.heap.size, 5, none⟩ = false := frozen_of_row _ _ _ _ _ b0
      have c6 : wr.cell? ⟨w.heap.size + 1, 6, none⟩ = some (.int .i64 (W (n * 12 + 5))) := (cell_of_row _ _ _ _ _ _ b1).trans rfl
      have d6 : wr.cell? ⟨w.heap.size, 6, none⟩ = some (.int .i64 0) := cell_of_row _ _ _ _ _ _ b0
      have f6 : wr.frozen? ⟨w.heap.size, 6, none⟩ = false := frozen_of_row _ _ _ _ _ b0
      have c7 : wr.cell? ⟨w.heap.size + 1, 7, none⟩ = some (.int .i64 (W (n * 12 + 6))) := (cell_of_row _ _ _ _ _ _ b1).trans rfl
      have d7 : wr.cell? ⟨w.heap.size, 7, none⟩ = some (.int .i64 0) := cell_of_row _ _ _ _ _ _ b0
      have f7 : wr.frozen? ⟨w.heap.size, 7, none⟩ = false := frozen_of_row _ _ _ _ _ b0
      have c8 : wr.cell? ⟨w.heap.size + 1, 8, none⟩ = some (.int .i64 (W (n * 12 + 7))) := (cell_of_row _ _ _ _ _ _ b1).trans rfl
      have d8 : wr.cell? ⟨w.heap.size, 8, none⟩ = some (.int .i64 0) := cell_of_row _ _ _ _ _ _ b0
      have f8 : wr.frozen? ⟨w.heap.size, 8, none⟩ = false := frozen_of_row _ _ _ _ _ b0
      have c9 : wr.cell? ⟨w.heap.size + 1, 9, none⟩ = some (.int .i64 (W (n * 12 + 8))) := (cell_of_row _ _ _ _ _ _ b1).trans rfl
      have d9 : wr.cell? ⟨w.heap.size, 9, none⟩ = some (.int .i64 0) := cell_of_row _ _ _ _ _ _ b0
      have f9 : wr.frozen? ⟨w.heap.size, 9, none⟩ = false := frozen_of_row _ _ _ _ _ b0
      have c10 : wr.cell? ⟨w.heap.size + 1, 10, none⟩ = some (.int .i64 (W (n * 12 + 9))) := (cell_of_row _ _ _ _ _ _ b1).trans rfl
      have d10 : wr.cell? ⟨w.heap.size, 10, none⟩ = some (.int .i64 0) := cell_of_row _ _ _ _ _ _ b0
      have f10 : wr.frozen? ⟨w.heap.size, 10, none⟩ = false := frozen_of_row _ _ _ _ _ b0
      have c11 : wr.cell? ⟨w.heap.size + 1, 11, none⟩ = some (.int .i64 (W (n * 12 + 10))) := (cell_of_row _ _ _ _ _ _ b1).trans rfl
      have d11 : wr.cell? ⟨w.heap.size, 11, none⟩ = some (.int .i64 0) := cell_of_row _ _ _ _ _ _ b0
      have f11 : wr.frozen? ⟨w.heap.size, 11, none⟩ = false := frozen_of_row _ _ _ _ _ b0
      have c12 : wr.cell? ⟨w.heap.size + 1, 12, none⟩ = some (.int .i64 (W (n * 12 + 11))) := (cell_of_row _ _ _ _ _ _ b1).trans rfl
      have d12 : wr.cell? ⟨w.heap.size, 12, none⟩ = some (.int .i64 0) := cell_of_row _ _ _ _ _ _ b0
      have f12 : wr.frozen? ⟨w.heap.size, 12, none⟩ = false := frozen_of_row _ _ _ _ _ b0
      have Hb0 : Hid (_) := b0
      clear b0 b1 hJ
      go_wp2_with fail
      (try simp only [Exit.inBlock, Exit.then])
      have g0 : wr.heap[w.heap.size]? = some (.cells #[.int .i64 0, .int .i64 0, .int .i64 0, .int .i64 0, .int .i64 0, .int .i64 0, .int .i64 0, .int .i64 0, .int .i64 0, .int .i64 0, .int .i64 0, .int .i64 0, .int .i64 0] 74 (0, 0)) := Hb0.out
      have g1 : (wr.setCell ⟨w.heap.size, 0, none⟩ (.int .i64 (n : Int))).heap[w.heap.size]? = some (.cells #[.int .i64 (n : Int), .int .i64 0, .int .i64 0, .int .i64 0, .int .i64 0, .int .i64 0, .int .i64 0, .int .i64 0, .int .i64 0, .int .i64 0, .int .i64 0, .int .i64 0, .int .i64 0] 74 (0, 0)) := heap_setCell_same wr w.heap.size 0 #[.int .i64 0, .int .i64 0, .int .i64 0, .int .i64 0, .int .i64 0, .int .i64 0, .int .i64 0, .int .i64 0, .int .i64 0, .int .i64 0, .int .i64 0, .int .i64 0, .int .i64 0] 74 (.int .i64 (n : Int)) g0
      have g2 : ((wr.setCell ⟨w.heap.size, 0, none⟩ (.int .i64 (n : Int))).setCell ⟨w.heap.size, 1, none⟩ (.int .i64 (W (n * 12 + 0)))).heap[w.heap.size]? = some (.cells #[.int .i64 (n : Int), .int .i64 (W (n * 12 + 0)), .int .i64 0, .int .i64 0, .int .i64 0, .int .i64 0, .int .i64 0, .int .i64 0, .int .i64 0, .int .i64 0, .int .i64 0, .int .i64 0, .int .i64 0] 74 (0, 0)) := heap_setCell_same (wr.setCell ⟨w.heap.size, 0, none⟩ (.int .i64 (n : Int))) w.heap.size 1 #[.int .i64 (n : Int), .int .i64 0, .int .i64 0, .int .i64 0, .int .i64 0, .int .i64 0, .int .i64 0, .int .i64 0, .int .i64 0, .int .i64 0, .int .i64 0, .int .i64 0, .int .i64 0] 74 (.int .i64 (W (n * 12 + 0))) g1
      have g3 : (((wr.setCell ⟨w.heap.size, 0, none⟩ (.int .i64 (n : Int))).setCell ⟨w.heap.size, 1, none⟩ (.int .i64 (W (n * 12 + 0)))).setCell ⟨w.heap.size, 2, none⟩ (.int .i64 (W (n * 12 + 1)))).heap[w.heap.size]? = some (.cells #[.int .i64 (n : Int), .int .i64 (W (n * 12 + 0)), .int .i64 (W (n * 12 + 1)), .int .i64 0, .int .i64 0, .int .i64 0, .int .i64 0, .int .i64 0, .int .i64 0, .int .i64 0, .int .i64 0, .int .i64 0, .int .i64 0] 74 (0, 0)) := heap_setCell_same ((wr.setCell ⟨w.heap.size, 0, none⟩ (.int .i64 (n : Int))).setCell ⟨w.heap.size, 1, none⟩ (.int .i64 (W (n * 12 + 0)))) w.heap.size 2 #[.int .i64 (n : Int), .int .i64 (W (n * 12 + 0)), .int .i64 0, .int .i64 0, .int .i64 0, .int .i64 0, .int .i64 0, .int .i64 0, .int .i64 0, .int .i64 0, .int .i64 0, .int .i64 0, .int .i64 0] 74 (.int .i64 (W (n * 12 + 1))) g2
      have g4 : ((((wr.setCell ⟨w.heap.size, 0, none⟩ (.int .i64 (n : Int))).setCell ⟨w.heap.size, 1, none⟩ (.int .i64 (W (n * 12 + 0)))).setCell ⟨w.heap.size, 2, none⟩ (.int .i64 (W (n * 12 + 1)))).setCell ⟨w.heap.size, 3, none⟩ (.int .i64 (W (n * 12 + 2)))).heap[w.heap.size]? = some (.cells #[.int .i64 (n : Int), .int .i64 (W (n * 12 + 0)), .int .i64 (W (n * 12 + 1)), .int .i64 (W (n * 12 + 2)), .int .i64 0, .int .i64 0, .int .i64 0, .int .i64 0, .int .i64 0, .int .i64 0, .int .i64 0, .int .i64 0, .int .i64 0] 74 (0, 0)) := heap_setCell_same (((wr.setCell ⟨w.heap.size, 0, none⟩ (.int .i64 (n : Int))).setCell ⟨w.heap.size, 1, none⟩ (.int .i64 (W (n * 12 + 0)))).setCell ⟨w.heap.size, 2, none⟩ (.int .i64 (W (n * 12 + 1)))) w.heap.size 3 #[.int .i64 (n : Int), .int .i64 (W (n * 12 + 0)), .int .i64 (W (n * 12 + 1)), .int .i64 0, .int .i64 0, .int .i64 0, .int .i64 0, .int .i64 0, .int .i64 0, .int .i64 0, .int .i64 0, .int .i64 0, .int .i64 0] 74 (.int .i64 (W (n * 12 + 2))) g3
      have g5 : (((((wr.setCell ⟨w.heap.size, 0, none⟩ (.int .i64 (n : Int))).setCell ⟨w.heap.size, 1, none⟩ (.int .i64 (W (n * 12 + 0)))).setCell ⟨w.heap.size, 2, none⟩ (.int .i64 (W (n * 12 + 1)))).setCell ⟨w.heap.size, 3, none⟩ (.int .i64 (W (n * 12 + 2)))).setCell ⟨w.heap.size, 4, none⟩ (.int .i64 (W (n * 12 + 3)))).heap[w.heap.size]? = some (.cells #[.int .i64 (n : Int), .int .i64 (W (n * 12 + 0)), .int .i64 (W (n * 12 + 1)), .int .i64 (W (n * 12 + 2)), .int .i64 (W (n * 12 + 3)), .int .i64 0, .int .i64 0, .int .i64 0, .int .i64 0, .int .i64 0, .int .i64 0, .int .i64 0, .int .i64 0] 74 (0, 0)) := heap_setCell_same ((((wr.setCell ⟨w.heap.size, 0, none⟩ (.int .i64 (n : Int))).setCell ⟨w.heap.size, 1, none⟩ (.int .i64 (W (n * 12 + 0)))).setCell ⟨w.heap.size, 2, none⟩ (.int .i64 (W (n * 12 + 1)))).setCell ⟨w.heap.size, 3, none⟩ (.int .i64 (W (n * 12 + 2)))) w.heap.size 4 #[.int .i64 (n : Int), .int .i64 (W (n * 12 + 0)), .int .i64 (W (n * 12 + 1)), .int .i64 (W (n * 12 + 2)), .int .i64 0, .int .i64 0, .int .i64 0, .int .i64 0, .int .i64 0, .int .i64 0, .int .i64 0, .int .i64 0, .int .i64 0] 74 (.int .i64 (W (n * 12 + 3))) g4
      have g6 : ((((((wr.setCell ⟨w.heap.size, 0, none⟩ (.int .i64 (n : Int))).setCell ⟨w.heap.size, 1, none⟩ (.int .i64 (W (n * 12 + 0)))).setCell ⟨w.heap.size, 2, none⟩ (.int .i64 (W (n * 12 + 1)))).setCell ⟨w.heap.size, 3, none⟩ (.int .i64 (W (n * 12 + 2)))).setCell ⟨w.heap.size, 4, none⟩ (.int .i64 (W (n * 12 + 3)))).setCell ⟨w.heap.size, 5, none⟩ (.int .i64 (W (n * 12 + 4)))).heap[w.heap.size]? = some (.cells #[.int .i64 (n : Int), .int .i64 (W (n * 12 + 0)), .int .i64 (W (n * 12 + 1)), .int .i64 (W (n * 12 + 2)), .int .i64 (W (n * 12 + 3)), .int .i64 (W (n * 12 + 4)), .int .i64 0, .int .i64 0, .int .i64 0, .int .i64 0, .int .i64 0, .int .i64 0, .int .i64 0] 74 (0, 0)) := heap_setCell_same (((((wr.setCell ⟨w.heap.size, 0, none⟩ (.int .i64 (n : Int))).setCell ⟨w.heap.size, 1, none⟩ (.int .i64 (W (n * 12 + 0)))).setCell ⟨w.heap.size, 2, none⟩ (.int .i64 (W (n * 12 + 1)))).setCell ⟨w.heap.size, 3, none⟩ (.int .i64 (W (n * 12 + 2)))).setCell ⟨w.heap.size, 4, none⟩ (.int .i64 (W (n * 12 + 3)))) w.heap.size 5 #[.int .i64 (n : Int), .int .i64 (W (n * 12 + 0)), .int .i64 (W (n * 12 + 1)), .int .i64 (W (n * 12 + 2)), .int .i64 (W (n * 12 + 3)), .int .i64 0, .int .i64 0, .int .i64 0, .int .i64 0, .int .i64 0, .int .i64 0, .int .i64 0, .int .i64 0] 74 (.int .i64 (W (n * 12 + 4))) g5
      have g7 : (((((((wr.setCell ⟨w.heap.size, 0, none⟩ (.int .i64 (n : Int))).setCell ⟨w.heap.size, 1, none⟩ (.int .i64 (W (n * 12 + 0)))).setCell ⟨w.heap.size, 2, none⟩ (.int .i64 (W (n * 12 + 1)))).setCell ⟨w.heap.size, 3, none⟩ (.int .i64 (W (n * 12 + 2)))).setCell ⟨w.heap.size, 4, none⟩ (.int .i64 (W (n * 12 + 3)))).setCell ⟨w.heap.size, 5, none⟩ (.int .i64 (W (n * 12 + 4)))).setCell ⟨w.heap.size, 6, none⟩ (.int .i64 (W (n * 12 + 5)))).heap[w.heap.size]? = some (.cells #[.int .i64 (n : Int), .int .i64 (W (n * 12 + 0)), .int .i64 (W (n * 12 + 1)), .int .i64 (W (n * 12 + 2)), .int .i64 (W (n * 12 + 3)), .int .i64 (W (n * 12 + 4)), .int .i64 (W (n * 12 + 5)), .int .i64 0, .int .i64 0, .int .i64 0, .int .i64 0, .int .i64 0, .int .i64 0] 74 (0, 0)) := heap_setCell_same ((((((wr.setCell ⟨w.heap.size, 0, none⟩ (.int .i64 (n : Int))).setCell ⟨w.heap.size, 1, none⟩ (.int .i64 (W (n * 12 + 0)))).setCell ⟨w.heap.size, 2, none⟩ (.int .i64 (W (n * 12 + 1)))).setCell ⟨w.heap.size, 3, none⟩ (.int .i64 (W (n * 12 + 2)))).setCell ⟨w.heap.size, 4, none⟩ (.int .i64 (W (n * 12 + 3)))).setCell ⟨w.heap.size, 5, none⟩ (.int .i64 (W (n * 12 + 4)))) w.heap.size 6 #[.int .i64 (n : Int), .int .i64 (W (n * 12 + 0)), .int .i64 (W (n * 12 + 1)), .int .i64 (W (n * 12 + 2)), .int .i64 (W (n * 12 + 3)), .int .i64 (W (n * 12 + 4)), .int .i64 0, .int .i64 0, .int .i64 0, .int .i64 0, .int .i64 0, .int .i64 0, .int .i64 0] 74 (.int .i64 (W (n * 12 + 5))) g6
      have g8 : ((((((((wr.setCell ⟨w.heap.size, 0, none⟩ (.int .i64 (n : Int))).setCell ⟨w.heap.size, 1, none⟩ (.int .i64 (W (n * 12 + 0)))).setCell ⟨w.heap.size, 2, none⟩ (.int .i64 (W (n * 12 + 1)))).setCell ⟨w.heap.size, 3, none⟩ (.int .i64 (W (n * 12 + 2)))).setCell ⟨w.heap.size, 4, none⟩ (.int .i64 (W (n * 12 + 3)))).setCell ⟨w.heap.size, 5, none⟩ (.int .i64 (W (n * 12 + 4)))).setCell ⟨w.heap.size, 6, none⟩ (.int .i64 (W (n * 12 + 5)))).setCell ⟨w.heap.size, 7, none⟩ (.int .i64 (W (n * 12 + 6)))).heap[w.heap.size]? = some (.cells #[.int .i64 (n : Int), .int .i64 (W (n * 12 + 0)), .int .i64 (W (n * 12 + 1)), .int .i64 (W (n * 12 + 2)), .int .i64 (W (n * 12 + 3)), .int .i64 (W (n * 12 + 4)), .int .i64 (W (n * 12 + 5)), .int .i64 (W (n * 12 + 6)), .int .i64 0, .int .i64 0, .int .i64 0, .int .i64 0, .int .i64 0] 74 (0, 0)) := heap_setCell_same (((((((wr.setCell ⟨w.heap.size, 0, none⟩ (.int .i64 (n : Int))).setCell ⟨w.heap.size, 1, none⟩ (.int .i64 (W (n * 12 + 0)))).setCell ⟨w.heap.size, 2, none⟩ (.int .i64 (W (n * 12 + 1)))).setCell ⟨w.heap.size, 3, none⟩ (.int .i64 (W (n * 12 + 2)))).setCell ⟨w.heap.size, 4, none⟩ (.int .i64 (W (n * 12 + 3)))).setCell ⟨w.heap.size, 5, none⟩ (.int .i64 (W (n * 12 + 4)))).setCell ⟨w.heap.size, 6, none⟩ (.int .i64 (W (n * 12 + 5)))) w.heap.size 7 #[.int .i64 (n : Int), .int .i64 (W (n * 12 + 0)), .int .i64 (W (n * 12 + 1)), .int .i64 (W (n * 12 + 2)), .int .i64 (W (n * 12 + 3)), .int .i64 (W (n * 12 + 4)), .int .i64 (W (n * 12 + 5)), .int .i64 0, .int .i64 0, .int .i64 0, .int .i64 0, .int .i64 0, .int .i64 0] 74 (.int .i64 (W (n * 12 + 6))) g7
      have g9 : (((((((((wr.setCell ⟨w.heap.size, 0, none⟩ (.int .i64 (n : Int))).setCell ⟨w.heap.size, 1, none⟩ (.int .i64 (W (n * 12 + 0)))).setCell ⟨w.heap.size, 2, none⟩ (.int .i64 (W (n * 12 + 1)))).setCell ⟨w.heap.size, 3, none⟩ (.int .i64 (W (n * 12 + 2)))).setCell ⟨w.heap.size, 4, none⟩ (.int .i64 (W (n * 12 + 3)))).setCell ⟨w.heap.size, 5, none⟩ (.int .i64 (W (n * 12 + 4)))).setCell ⟨w.heap.size, 6, none⟩ (.int .i64 (W (n * 12 + 5)))).setCell ⟨w.heap.size, 7, none⟩ (.int .i64 (W (n * 12 + 6)))).setCell ⟨w.heap.size, 8, none⟩ (.int .i64 (W (n * 12 + 7)))).heap[w.heap.size]? = some (.cells #[.int .i64 (n : Int), .int .i64 (W (n * 12 + 0)), .int .i64 (W (n * 12 + 1)), .int .i64 (W (n * 12 + 2)), .int .i64 (W (n * 12 + 3)), .int .i64 (W (n * 12 + 4)), .int .i64 (W (n * 12 + 5)), .int .i64 (W (n * 12 + 6)), .int .i64 (W (n * 12 + 7)), .int .i64 0, .int .i64 0, .int .i64 0, .int .i64 0] 74 (0, 0)) := heap_setCell_same ((((((((wr.setCell ⟨w.heap.size, 0, none⟩ (.int .i64 (n : Int))).setCell ⟨w.heap.size, 1, none⟩ (.int .i64 (W (n * 12 + 0)))).setCell ⟨w.heap.size, 2, none⟩ (.int .i64 (W (n * 12 + 1)))).setCell ⟨w.heap.size, 3, none⟩ (.int .i64 (W (n * 12 + 2)))).setCell ⟨w.heap.size, 4, none⟩ (.int .i64 (W (n * 12 + 3)))).setCell ⟨w.heap.size, 5, none⟩ (.int .i64 (W (n * 12 + 4)))).setCell ⟨w.heap.size, 6, none⟩ (.int .i64 (W (n * 12 + 5)))).setCell ⟨w.heap.size, 7, none⟩ (.int .i64 (W (n * 12 + 6)))) w.heap.size 8 #[.int .i64 (n : Int), .int .i64 (W (n * 12 + 0)), .int .i64 (W (n * 12 + 1)), .int .i64 (W (n * 12 + 2)), .int .i64 (W (n * 12 + 3)), .int .i64 (W (n * 12 + 4)), .int .i64 (W (n * 12 + 5)), .int .i64 (W (n * 12 + 6)), .int .i64 0, .int .i64 0, .int .i64 0, .int .i64 0, .int .i64 0] 74 (.int .i64 (W (n * 12 + 7))) g8
      have g10 : ((((((((((wr.setCell ⟨w.heap.size, 0, none⟩ (.int .i64 (n : Int))).setCell ⟨w.heap.size, 1, none⟩ (.int .i64 (W (n * 12 + 0)))).setCell ⟨w.heap.size, 2, none⟩ (.int .i64 (W (n * 12 + 1)))).setCell ⟨w.heap.size, 3, none⟩ (.int .i64 (W (n * 12 + 2)))).setCell ⟨w.heap.size, 4, none⟩ (.int .i64 (W (n * 12 + 3)))).setCell ⟨w.heap.size, 5, none⟩ (.int .i64 (W (n * 12 + 4)))).setCell ⟨w.heap.size, 6, none⟩ (.int .i64 (W (n * 12 + 5)))).setCell ⟨w.heap.size, 7, none⟩ (.int .i64 (W (n * 12 + 6)))).setCell ⟨w.heap.size, 8, none⟩ (.int .i64 (W (n * 12 + 7)))).setCell ⟨w.heap.size, 9, none⟩ (.int .i64 (W (n * 12 + 8)))).heap[w.heap.size]? = some (.cells #[.int .i64 (n : Int), .int .i64 (W (n * 12 + 0)), .int .i64 (W (n * 12 + 1)), .int .i64 (W (n * 12 + 2)), .int .i64 (W (n * 12 + 3)), .int .i64 (W (n * 12 + 4)), .int .i64 (W (n * 12 + 5)), .int .i64 (W (n * 12 + 6)), .int .i64 (W (n * 12 + 7)), .int .i64 (W (n * 12 + 8)), .int .i64 0, .int .i64 0, .int .i64 0] 74 (0, 0)) := heap_setCell_same (((((((((wr.setCell ⟨w.heap.size, 0, none⟩ (.int .i64 (n : Int))).setCell ⟨w.heap.size, 1, none⟩ (.int .i64 (W (n * 12 + 0)))).setCell ⟨w.heap.size, 2, none⟩ (.int .i64 (W (n * 12 + 1)))).setCell ⟨w.heap.size, 3, none⟩ (.int .i64 (W (n * 12 + 2)))).setCell ⟨w.heap.size, 4, none⟩ (.int .i64 (W (n * 12 + 3)))).setCell ⟨w.heap.size, 5, none⟩ (.int .i64 (W (n * 12 + 4)))).setCell ⟨w.heap.size, 6, none⟩ (.int .i64 (W (n * 12 + 5)))).setCell ⟨w.heap.size, 7, none⟩ (.int .i64 (W (n * 12 + 6)))).setCell ⟨w.heap.size, 8, none⟩ (.int .i64 (W (n * 12 + 7)))) w.heap.size 9 #[.int .i64 (n : Int), .int .i64 (W (n * 12 + 0)), .int .i64 (W (n * 12 + 1)), .int .i64 (W (n * 12 + 2)), .int .i64 (W (n * 12 + 3)), .int .i64 (W (n * 12 + 4)), .int .i64 (W (n * 12 + 5)), .int .i64 (W (n * 12 + 6)), .int .i64 (W (n * 12 + 7)), .int .i64 0, .int .i64 0, .int .i64 0, .int .i64 0] 74 (.int .i64 (W (n * 12 + 8))) g9
      have g11 : (((((((((((wr.setCell ⟨w.heap.size, 0, none⟩ (.int .i64 (n : Int))).setCell ⟨w.heap.size, 1, none⟩ (.int .i64 (W (n * 12 + 0)))).setCell ⟨w.heap.size, 2, none⟩ (.int .i64 (W (n * 12 + 1)))).setCell ⟨w.heap.size, 3, none⟩ (.int .i64 (W (n * 12 + 2)))).setCell ⟨w.heap.size, 4, none⟩ (.int .i64 (W (n * 12 + 3)))).setCell ⟨w.heap.size, 5, none⟩ (.int .i64 (W (n * 12 + 4)))).setCell ⟨w.heap.size, 6, none⟩ (.int .i64 (W (n * 12 + 5)))).setCell ⟨w.heap.size, 7, none⟩ (.int .i64 (W (n * 12 + 6)))).setCell ⟨w.heap.size, 8, none⟩ (.int .i64 (W (n * 12 + 7)))).setCell ⟨w.heap.size, 9, none⟩ (.int .i64 (W (n * 12 + 8)))).setCell ⟨w.heap.size, 10, none⟩ (.int .i64 (W (n * 12 + 9)))).heap[w.heap.size]? = some (.cells #[.int .i64 (n : Int), .int .i64 (W (n * 12 + 0)), .int .i64 (W (n * 12 + 1)), .int .i64 (W (n * 12 + 2)), .int .i64 (W (n * 12 + 3)), .int .i64 (W (n * 12 + 4)), .int .i64 (W (n * 12 + 5)), .int .i64 (W (n * 12 + 6)), .int .i64 (W (n * 12 + 7)), .int .i64 (W (n * 12 + 8)), .int .i64 (W (n * 12 + 9)), .int .i64 0, .int .i64 0] 74 (0, 0)) := heap_setCell_same ((((((((((wr.setCell ⟨w.heap.size, 0, none⟩ (.int .i64 (n : Int))).setCell ⟨w.heap.size, 1, none⟩ (.int .i64 (W (n * 12 + 0)))).setCell ⟨w.heap.size, 2, none⟩ (.int .i64 (W (n * 12 + 1)))).setCell ⟨w.heap.size, 3, none⟩ (.int .i64 (W (n * 12 + 2)))).setCell ⟨w.heap.size, 4, none⟩ (.int .i64 (W (n * 12 + 3)))).setCell ⟨w.heap.size, 5, none⟩ (.int .i64 (W (n * 12 + 4)))).setCell ⟨w.heap.size, 6, none⟩ (.int .i64 (W (n * 12 + 5)))).setCell ⟨w.heap.size, 7, none⟩ (.int .i64 (W (n * 12 + 6)))).setCell ⟨w.heap.size, 8, none⟩ (.int .i64 (W (n * 12 + 7)))).setCell ⟨w.heap.size, 9, none⟩ (.int .i64 (W (n * 12 + 8)))) w.heap.size 10 #[.int .i64 (n : Int), .int .i64 (W (n * 12 + 0)), .int .i64 (W (n * 12 + 1)), .int .i64 (W (n * 12 + 2)), .int .i64 (W (n * 12 + 3)), .int .i64 (W (n * 12 + 4)), .int .i64 (W (n * 12 + 5)), .int .i64 (W (n * 12 + 6)), .int .i64 (W (n * 12 + 7)), .int .i64 (W (n * 12 + 8)), .int .i64 0, .int .i64 0, .int .i64 0] 74 (.int .i64 (W (n * 12 + 9))) g10
      have g12 : ((((((((((((wr.setCell ⟨w.heap.size, 0, none⟩ (.int .i64 (n : Int))).setCell ⟨w.heap.size, 1, none⟩ (.int .i64 (W (n * 12 + 0)))).setCell ⟨w.heap.size, 2, none⟩ (.int .i64 (W (n * 12 + 1)))).setCell ⟨w.heap.size, 3, none⟩ (.int .i64 (W (n * 12 + 2)))).setCell ⟨w.heap.size, 4, none⟩ (.int .i64 (W (n * 12 + 3)))).setCell ⟨w.heap.size, 5, none⟩ (.int .i64 (W (n * 12 + 4)))).setCell ⟨w.heap.size, 6, none⟩ (.int .i64 (W (n * 12 + 5)))).setCell ⟨w.heap.size, 7, none⟩ (.int .i64 (W (n * 12 + 6)))).setCell ⟨w.heap.size, 8, none⟩ (.int .i64 (W (n * 12 + 7)))).setCell ⟨w.heap.size, 9, none⟩ (.int .i64 (W (n * 12 + 8)))).setCell ⟨w.heap.size, 10, none⟩ (.int .i64 (W (n * 12 + 9)))).setCell ⟨w.heap.size, 11, none⟩ (.int .i64 (W (n * 12 + 10)))).heap[w.heap.size]? = some (.cells #[.int .i64 (n : Int), .int .i64 (W (n * 12 + 0)), .int .i64 (W (n * 12 + 1)), .int .i64 (W (n * 12 + 2)), .int .i64 (W (n * 12 + 3)), .int .i64 (W (n * 12 + 4)), .int .i64 (W (n * 12 + 5)), .int .i64 (W (n * 12 + 6)), .int .i64 (W (n * 12 + 7)), .int .i64 (W (n * 12 + 8)), .int .i64 (W (n * 12 + 9)), .int .i64 (W (n * 12 + 10)), .int .i64 0] 74 (0, 0)) := heap_setCell_same (((((((((((wr.setCell ⟨w.heap.size, 0, none⟩ (.int .i64 (n : Int))).setCell ⟨w.heap.size, 1, none⟩ (.int .i64 (W (n * 12 + 0)))).setCell ⟨w.heap.size, 2, none⟩ (.int .i64 (W (n * 12 + 1)))).setCell ⟨w.heap.size, 3, none⟩ (.int .i64 (W (n * 12 + 2)))).setCell ⟨w.heap.size, 4, none⟩ (.int .i64 (W (n * 12 + 3)))).setCell ⟨w.heap.size, 5, none⟩ (.int .i64 (W (n * 12 + 4)))).setCell ⟨w.heap.size, 6, none⟩ (.int .i64 (W (n * 12 + 5)))).setCell ⟨w.heap.size, 7, none⟩ (.int .i64 (W (n * 12 + 6)))).setCell ⟨w.heap.size, 8, none⟩ (.int .i64 (W (n * 12 + 7)))).setCell ⟨w.heap.size, 9, none⟩ (.int .i64 (W (n * 12 + 8)))).setCell ⟨w.heap.size, 10, none⟩ (.int .i64 (W (n * 12 + 9)))) w.heap.size 11 #[.int .i64 (n : Int), .int .i64 (W (n * 12 + 0)), .int .i64 (W (n * 12 + 1)), .int .i64 (W (n * 12 + 2)), .int .i64 (W (n * 12 + 3)), .int .i64 (W (n * 12 + 4)), .int .i64 (W (n * 12 + 5)), .int .i64 (W (n * 12 + 6)), .int .i64 (W (n * 12 + 7)), .int .i64 (W (n * 12 + 8)), .int .i64 (W (n * 12 + 9)), .int .i64 0, .int .i64 0] 74 (.int .i64 (W (n * 12 + 10))) g11
      have g13 : (((((((((((((wr.setCell ⟨w.heap.size, 0, none⟩ (.int .i64 (n : Int))).setCell ⟨w.heap.size, 1, none⟩ (.int .i64 (W (n * 12 + 0)))).setCell ⟨w.heap.size, 2, none⟩ (.int .i64 (W (n * 12 + 1)))).setCell ⟨w.heap.size, 3, none⟩ (.int .i64 (W (n * 12 + 2)))).setCell ⟨w.heap.size, 4, none⟩ (.int .i64 (W (n * 12 + 3)))).setCell ⟨w.heap.size, 5, none⟩ (.int .i64 (W (n * 12 + 4)))).setCell ⟨w.heap.size, 6, none⟩ (.int .i64 (W (n * 12 + 5)))).setCell ⟨w.heap.size, 7, none⟩ (.int .i64 (W (n * 12 + 6)))).setCell ⟨w.heap.size, 8, none⟩ (.int .i64 (W (n * 12 + 7)))).setCell ⟨w.heap.size, 9, none⟩ (.int .i64 (W (n * 12 + 8)))).setCell ⟨w.heap.size, 10, none⟩ (.int .i64 (W (n * 12 + 9)))).setCell ⟨w.heap.size, 11, none⟩ (.int .i64 (W (n * 12 + 10)))).setCell ⟨w.heap.size, 12, none⟩ (.int .i64 (W (n * 12 + 11)))).heap[w.heap.size]? = some (.cells #[.int .i64 (n : Int), .int .i64 (W (n * 12 + 0)), .int .i64 (W (n * 12 + 1)), .int .i64 (W (n * 12 + 2)), .int .i64 (W (n * 12 + 3)), .int .i64 (W (n * 12 + 4)), .int .i64 (W (n * 12 + 5)), .int .i64 (W (n * 12 + 6)), .int .i64 (W (n * 12 + 7)), .int .i64 (W (n * 12 + 8)), .int .i64 (W (n * 12 + 9)), .int .i64 (W (n * 12 + 10)), .int .i64 (W (n * 12 + 11))] 74 (0, 0)) := heap_setCell_same ((((((((((((wr.setCell ⟨w.heap.size, 0, none⟩ (.int .i64 (n : Int))).setCell ⟨w.heap.size, 1, none⟩ (.int .i64 (W (n * 12 + 0)))).setCell ⟨w.heap.size, 2, none⟩ (.int .i64 (W (n * 12 + 1)))).setCell ⟨w.heap.size, 3, none⟩ (.int .i64 (W (n * 12 + 2)))).setCell ⟨w.heap.size, 4, none⟩ (.int .i64 (W (n * 12 + 3)))).setCell ⟨w.heap.size, 5, none⟩ (.int .i64 (W (n * 12 + 4)))).setCell ⟨w.heap.size, 6, none⟩ (.int .i64 (W (n * 12 + 5)))).setCell ⟨w.heap.size, 7, none⟩ (.int .i64 (W (n * 12 + 6)))).setCell ⟨w.heap.size, 8, none⟩ (.int .i64 (W (n * 12 + 7)))).setCell ⟨w.heap.size, 9, none⟩ (.int .i64 (W (n * 12 + 8)))).setCell ⟨w.heap.size, 10, none⟩ (.int .i64 (W (n * 12 + 9)))).setCell ⟨w.heap.size, 11, none⟩ (.int .i64 (W (n * 12 + 10)))) w.heap.size 12 #[.int .i64 (n : Int), .int .i64 (W (n * 12 + 0)), .int .i64 (W (n * 12 + 1)), .int .i64 (W (n * 12 + 2)), .int .i64 (W (n * 12 + 3)), .int .i64 (W (n * 12 + 4)), .int .i64 (W (n * 12 + 5)), .int .i64 (W (n * 12 + 6)), .int .i64 (W (n * 12 + 7)), .int .i64 (W (n * 12 + 8)), .int .i64 (W (n * 12 + 9)), .int .i64 (W (n * 12 + 10)), .int .i64 0] 74 (.int .i64 (W (n * 12 + 11))) g12
      have hdb : Db I S w0 (((((((((((((wr.setCell ⟨w.heap.size, 0, none⟩ (.int .i64 (n : Int))).setCell ⟨w.heap.size, 1, none⟩ (.int .i64 (W (n * 12 + 0)))).setCell ⟨w.heap.size, 2, none⟩ (.int .i64 (W (n * 12 + 1)))).setCell ⟨w.heap.size, 3, none⟩ (.int .i64 (W (n * 12 + 2)))).setCell ⟨w.heap.size, 4, none⟩ (.int .i64 (W (n * 12 + 3)))).setCell ⟨w.heap.size, 5, none⟩ (.int .i64 (W (n * 12 + 4)))).setCell ⟨w.heap.size, 6, none⟩ (.int .i64 (W (n * 12 + 5)))).setCell ⟨w.heap.size, 7, none⟩ (.int .i64 (W (n * 12 + 6)))).setCell ⟨w.heap.size, 8, none⟩ (.int .i64 (W (n * 12 + 7)))).setCell ⟨w.heap.size, 9, none⟩ (.int .i64 (W (n * 12 + 8)))).setCell ⟨w.heap.size, 10, none⟩ (.int .i64 (W (n * 12 + 9)))).setCell ⟨w.heap.size, 11, none⟩ (.int .i64 (W (n * 12 + 10)))).setCell ⟨w.heap.size, 12, none⟩ (.int .i64 (W (n * 12 + 11)))) b g f k L (N + 12) W := by
        have h0 := H3.out.drop (List.mem_cons_of_mem _ HH.out.1.mem)
        unfold zb at h0
        have h1 := h0.put bn0 HH.out.1.mem 0 (.int .i64 (n : Int))
        have h2 := h1.put bn0 HH.out.1.mem 1 (.int .i64 (W (n * 12 + 0)))
        have h3 := h2.put bn0 HH.out.1.mem 2 (.int .i64 (W (n * 12 + 1)))
        have h4 := h3.put bn0 HH.out.1.mem 3 (.int .i64 (W (n * 12 + 2)))
        have h5 := h4.put bn0 HH.out.1.mem 4 (.int .i64 (W (n * 12 + 3)))
        have h6 := h5.put bn0 HH.out.1.mem 5 (.int .i64 (W (n * 12 + 4)))
        have h7 := h6.put bn0 HH.out.1.mem 6 (.int .i64 (W (n * 12 + 5)))
        have h8 := h7.put bn0 HH.out.1.mem 7 (.int .i64 (W (n * 12 + 6)))
        have h9 := h8.put bn0 HH.out.1.mem 8 (.int .i64 (W (n * 12 + 7)))
        have h10 := h9.put bn0 HH.out.1.mem 9 (.int .i64 (W (n * 12 + 8)))
        have h11 := h10.put bn0 HH.out.1.mem 10 (.int .i64 (W (n * 12 + 9)))
        have h12 := h11.put bn0 HH.out.1.mem 11 (.int .i64 (W (n * 12 + 10)))
        have h13 := h12.put bn0 HH.out.1.mem 12 (.int .i64 (W (n * 12 + 11)))
        exact h13.drop HH.out.1.mem
      refine bodyPost_ret (results_cell_row rfl _ _ w.heap.size 74 #[.int .i64 (n : Int), .int .i64 (W (n * 12 + 0)), .int .i64 (W (n * 12 + 1)), .int .i64 (W (n * 12 + 2)), .int .i64 (W (n * 12 + 3)), .int .i64 (W (n * 12 + 4)), .int .i64 (W (n * 12 + 5)), .int .i64 (W (n * 12 + 6)), .int .i64 (W (n * 12 + 7)), .int .i64 (W (n * 12 + 8)), .int .i64 (W (n * 12 + 9)), .int .i64 (W (n * 12 + 10)), .int .i64 (W (n * 12 + 11))] (0, 0) _ rfl g13 Tryd.underlying74 rfl (by kernel_rfl)) rfl ⟨rfl, hdb⟩

end
end Go.Proofs.YtnbbcbjfejdceaaDoor
