/-
  A directory of package dir: the bucket of a text, a slot written, who may call, the words cleared, how it is made.
-/
import Derived.Test.YtnbbcbjfejdceaaDoorDr
import Derived.Test.YtnbbcbjfejdceaaDoorDe
namespace Go.Proofs.YtnbbcbjfejdceaaDoor
open Go.RowKit
set_option linter.unusedVariables false

section
variable {I : Trc → Prop} {S : List (Nat × Obj)} {w0 w : World} {b g f k L N : Nat} {W V : Nat → Int}

/-- Thirteen cells stored. -/
theorem Db.fill {B : Nat} (h : Db I ((B, zb) :: S) w0 w b g f k L N W) (bn : ∀ x ∈ S, x.1 ≠ B) (hS : (g, box b f) ∈ S) (a0 a1 a2 a3 a4 a5 a6 a7 a8 a9 a10 a11 a12 : Value) :
    Db I ((B, .cells #[a0, a1, a2, a3, a4, a5, a6, a7, a8, a9, a10, a11, a12] 74 (0, 0)) :: S) w0 (((((((((((((w.setCell ⟨B, 0, none⟩ a0).setCell ⟨B, 1, none⟩ a1).setCell ⟨B, 2, none⟩ a2).setCell ⟨B, 3, none⟩ a3).setCell ⟨B, 4, none⟩ a4).setCell ⟨B, 5, none⟩ a5).setCell ⟨B, 6, none⟩ a6).setCell ⟨B, 7, none⟩ a7).setCell ⟨B, 8, none⟩ a8).setCell ⟨B, 9, none⟩ a9).setCell ⟨B, 10, none⟩ a10).setCell ⟨B, 11, none⟩ a11).setCell ⟨B, 12, none⟩ a12) b g f k L N W := by
  have h0 : Db I ((B, .cells #[.int .i64 0, .int .i64 0, .int .i64 0, .int .i64 0, .int .i64 0, .int .i64 0, .int .i64 0, .int .i64 0, .int .i64 0, .int .i64 0, .int .i64 0, .int .i64 0, .int .i64 0] 74 (0, 0)) :: S) w0 w b g f k L N W := h
  have h1 : Db I ((B, .cells #[a0, .int .i64 0, .int .i64 0, .int .i64 0, .int .i64 0, .int .i64 0, .int .i64 0, .int .i64 0, .int .i64 0, .int .i64 0, .int .i64 0, .int .i64 0, .int .i64 0] 74 (0, 0)) :: S) w0 (w.setCell ⟨B, 0, none⟩ a0) b g f k L N W := h0.put bn hS 0 a0
  have h2 : Db I ((B, .cells #[a0, a1, .int .i64 0, .int .i64 0, .int .i64 0, .int .i64 0, .int .i64 0, .int .i64 0, .int .i64 0, .int .i64 0, .int .i64 0, .int .i64 0, .int .i64 0] 74 (0, 0)) :: S) w0 ((w.setCell ⟨B, 0, none⟩ a0).setCell ⟨B, 1, none⟩ a1) b g f k L N W := h1.put bn hS 1 a1
  have h3 : Db I ((B, .cells #[a0, a1, a2, .int .i64 0, .int .i64 0, .int .i64 0, .int .i64 0, .int .i64 0, .int .i64 0, .int .i64 0, .int .i64 0, .int .i64 0, .int .i64 0] 74 (0, 0)) :: S) w0 (((w.setCell ⟨B, 0, none⟩ a0).setCell ⟨B, 1, none⟩ a1).setCell ⟨B, 2, none⟩ a2) b g f k L N W := h2.put bn hS 2 a2
  have h4 : Db I ((B, .cells #[a0, a1, a2, a3, .int .i64 0, .int .i64 0, .int .i64 0, .int .i64 0, .int .i64 0, .int .i64 0, .int .i64 0, .int .i64 0, .int .i64 0] 74 (0, 0)) :: S) w0 ((((w.setCell ⟨B, 0, none⟩ a0).setCell ⟨B, 1, none⟩ a1).setCell ⟨B, 2, none⟩ a2).setCell ⟨B, 3, none⟩ a3) b g f k L N W := h3.put bn hS 3 a3
  have h5 : Db I ((B, .cells #[a0, a1, a2, a3, a4, .int .i64 0, .int .i64 0, .int .i64 0, .int .i64 0, .int .i64 0, .int .i64 0, .int .i64 0, .int .i64 0] 74 (0, 0)) :: S) w0 (((((w.setCell ⟨B, 0, none⟩ a0).setCell ⟨B, 1, none⟩ a1).setCell ⟨B, 2, none⟩ a2).setCell ⟨B, 3, none⟩ a3).setCell ⟨B, 4, none⟩ a4) b g f k L N W := h4.put bn hS 4 a4
  have h6 : Db I ((B, .cells #[a0, a1, a2, a3, a4, a5, .int .i64 0, .int .i64 0, .int .i64 0, .int .i64 0, .int .i64 0, .int .i64 0, .int .i64 0] 74 (0, 0)) :: S) w0 ((((((w.setCell ⟨B, 0, none⟩ a0).setCell ⟨B, 1, none⟩ a1).setCell ⟨B, 2, none⟩ a2).setCell ⟨B, 3, none⟩ a3).setCell ⟨B, 4, none⟩ a4).setCell ⟨B, 5, none⟩ a5) b g f k L N W := h5.put bn hS 5 a5
  have h7 : Db I ((B, .cells #[a0, a1, a2, a3, a4, a5, a6, .int .i64 0, .int .i64 0, .int .i64 0, .int .i64 0, .int .i64 0, .int .i64 0] 74 (0, 0)) :: S) w0 (((((((w.setCell ⟨B, 0, none⟩ a0).setCell ⟨B, 1, none⟩ a1).setCell ⟨B, 2, none⟩ a2).setCell ⟨B, 3, none⟩ a3).setCell ⟨B, 4, none⟩ a4).setCell ⟨B, 5, none⟩ a5).setCell ⟨B, 6, none⟩ a6) b g f k L N W := h6.put bn hS 6 a6
  have h8 : Db I ((B, .cells #[a0, a1, a2, a3, a4, a5, a6, a7, .int .i64 0, .int .i64 0, .int .i64 0, .int .i64 0, .int .i64 0] 74 (0, 0)) :: S) w0 ((((((((w.setCell ⟨B, 0, none⟩ a0).setCell ⟨B, 1, none⟩ a1).setCell ⟨B, 2, none⟩ a2).setCell ⟨B, 3, none⟩ a3).setCell ⟨B, 4, none⟩ a4).setCell ⟨B, 5, none⟩ a5).setCell ⟨B, 6, none⟩ a6).setCell ⟨B, 7, none⟩ a7) b g f k L N W := h7.put bn hS 7 a7
  have h9 : Db I ((B, .cells #[a0, a1, a2, a3, a4, a5, a6, a7, a8, .int .i64 0, .int .i64 0, .int .i64 0, .int .i64 0] 74 (0, 0)) :: S) w0 (((((((((w.setCell ⟨B, 0, none⟩ a0).setCell ⟨B, 1, none⟩ a1).setCell ⟨B, 2, none⟩ a2).setCell ⟨B, 3, none⟩ a3).setCell ⟨B, 4, none⟩ a4).setCell ⟨B, 5, none⟩ a5).setCell ⟨B, 6, none⟩ a6).setCell ⟨B, 7, none⟩ a7).setCell ⟨B, 8, none⟩ a8) b g f k L N W := h8.put bn hS 8 a8
  have h10 : Db I ((B, .cells #[a0, a1, a2, a3, a4, a5, a6, a7, a8, a9, .int .i64 0, .int .i64 0, .int .i64 0] 74 (0, 0)) :: S) w0 ((((((((((w.setCell ⟨B, 0, none⟩ a0).setCell ⟨B, 1, none⟩ a1).setCell ⟨B, 2, none⟩ a2).setCell ⟨B, 3, none⟩ a3).setCell ⟨B, 4, none⟩ a4).setCell ⟨B, 5, none⟩ a5).setCell ⟨B, 6, none⟩ a6).setCell ⟨B, 7, none⟩ a7).setCell ⟨B, 8, none⟩ a8).setCell ⟨B, 9, none⟩ a9) b g f k L N W := h9.put bn hS 9 a9
  have h11 : Db I ((B, .cells #[a0, a1, a2, a3, a4, a5, a6, a7, a8, a9, a10, .int .i64 0, .int .i64 0] 74 (0, 0)) :: S) w0 (((((((((((w.setCell ⟨B, 0, none⟩ a0).setCell ⟨B, 1, none⟩ a1).setCell ⟨B, 2, none⟩ a2).setCell ⟨B, 3, none⟩ a3).setCell ⟨B, 4, none⟩ a4).setCell ⟨B, 5, none⟩ a5).setCell ⟨B, 6, none⟩ a6).setCell ⟨B, 7, none⟩ a7).setCell ⟨B, 8, none⟩ a8).setCell ⟨B, 9, none⟩ a9).setCell ⟨B, 10, none⟩ a10) b g f k L N W := h10.put bn hS 10 a10
  have h12 : Db I ((B, .cells #[a0, a1, a2, a3, a4, a5, a6, a7, a8, a9, a10, a11, .int .i64 0] 74 (0, 0)) :: S) w0 ((((((((((((w.setCell ⟨B, 0, none⟩ a0).setCell ⟨B, 1, none⟩ a1).setCell ⟨B, 2, none⟩ a2).setCell ⟨B, 3, none⟩ a3).setCell ⟨B, 4, none⟩ a4).setCell ⟨B, 5, none⟩ a5).setCell ⟨B, 6, none⟩ a6).setCell ⟨B, 7, none⟩ a7).setCell ⟨B, 8, none⟩ a8).setCell ⟨B, 9, none⟩ a9).setCell ⟨B, 10, none⟩ a10).setCell ⟨B, 11, none⟩ a11) b g f k L N W := h11.put bn hS 11 a11
  have h13 : Db I ((B, .cells #[a0, a1, a2, a3, a4, a5, a6, a7, a8, a9, a10, a11, a12] 74 (0, 0)) :: S) w0 (((((((((((((w.setCell ⟨B, 0, none⟩ a0).setCell ⟨B, 1, none⟩ a1).setCell ⟨B, 2, none⟩ a2).setCell ⟨B, 3, none⟩ a3).setCell ⟨B, 4, none⟩ a4).setCell ⟨B, 5, none⟩ a5).setCell ⟨B, 6, none⟩ a6).setCell ⟨B, 7, none⟩ a7).setCell ⟨B, 8, none⟩ a8).setCell ⟨B, 9, none⟩ a9).setCell ⟨B, 10, none⟩ a10).setCell ⟨B, 11, none⟩ a11).setCell ⟨B, 12, none⟩ a12) b g f k L N W := h12.put bn hS 12 a12
  exact h13

set_option maxRecDepth 100000 in
set_option maxHeartbeats 2000000 in
theorem d_bucketOf (h : Db I S w0 w b g f k L N W) (c n : Nat) (s : ByteArray) (hs : bkt s = (n : Int)) (hc : c < k) (hI : Rd I c f n) (hN : N < 900000) :
    Calls Tryd.prog 30 #[.pointer (some ⟨g, 0, none⟩), .int .i64 (c : Int), .string s] w fun e w' => e = .returned (.agg (bk (n : Int) fun j => W (n * 12 + j))) ∧ Db I S w0 w' b g f k L (N + 12) W := by
  have hn : n < 8 := by have := bkt_range s; omega
  have HB : Hid (_) := hs
  unfold bkt at HB
  have bn0 : Hid (∀ x ∈ S, x.1 ≠ w.heap.size) := h.ne_new
  have HH : Hid (Rd I c f n ∧ (g, box b f) ∈ S) := ⟨hI, h.mem⟩
  have H0 : Hid (_) := h.push zb
  clear h hI hs
  unfold zb at H0
  go_enter Tryd.func30, Tryd.ntmps30
  go_wp2_with fail
  refine (n_bucket s _).mono ?_
  rintro e w1 ⟨rfl, hk⟩
  rw [HB.out]
  have H1 : Hid (_) := Db.still H0.out hk
  clear hk H0
  go_wp2_with fail
  refine (d_read H1.out c n _ rfl hc hn HH.out.1 hN).mono ?_
  rintro e w2 ⟨rfl, h2⟩
  have b0 := h2.at_ (List.mem_cons_self ..)
  simp only at b0
  have q0 : w2.cell? ⟨w.heap.size, 0, none⟩ = some (.int .i64 0) := cell_of_row _ _ _ _ _ _ b0
  have p0 : w2.frozen? ⟨w.heap.size, 0, none⟩ = false := frozen_of_row _ _ _ _ _ b0
  have q1 : w2.cell? ⟨w.heap.size, 1, none⟩ = some (.int .i64 0) := cell_of_row _ _ _ _ _ _ b0
  have p1 : w2.frozen? ⟨w.heap.size, 1, none⟩ = false := frozen_of_row _ _ _ _ _ b0
  have q2 : w2.cell? ⟨w.heap.size, 2, none⟩ = some (.int .i64 0) := cell_of_row _ _ _ _ _ _ b0
  have p2 : w2.frozen? ⟨w.heap.size, 2, none⟩ = false := frozen_of_row _ _ _ _ _ b0
  have q3 : w2.cell? ⟨w.heap.size, 3, none⟩ = some (.int .i64 0) := cell_of_row _ _ _ _ _ _ b0
  have p3 : w2.frozen? ⟨w.heap.size, 3, none⟩ = false := frozen_of_row _ _ _ _ _ b0
  have q4 : w2.cell? ⟨w.heap.size, 4, none⟩ = some (.int .i64 0) := cell_of_row _ _ _ _ _ _ b0
  have p4 : w2.frozen? ⟨w.heap.size, 4, none⟩ = false := frozen_of_row _ _ _ _ _ b0
  have q5 : w2.cell? ⟨w.heap.size, 5, none⟩ = some (.int .i64 0) := cell_of_row _ _ _ _ _ _ b0
  have p5 : w2.frozen? ⟨w.heap.size, 5, none⟩ = false := frozen_of_row _ _ _ _ _ b0
  have q6 : w2.cell? ⟨w.heap.size, 6, none⟩ = some (.int .i64 0) := cell_of_row _ _ _ _ _ _ b0
  have p6 : w2.frozen? ⟨w.heap.size, 6, none⟩ = false := frozen_of_row _ _ _ _ _ b0
  have q7 : w2.cell? ⟨w.heap.size, 7, none⟩ = some (.int .i64 0) := cell_of_row _ _ _ _ _ _ b0
  have p7 : w2.frozen? ⟨w.heap.size, 7, none⟩ = false := frozen_of_row _ _ _ _ _ b0
  have q8 : w2.cell? ⟨w.heap.size, 8, none⟩ = some (.int .i64 0) := cell_of_row _ _ _ _ _ _ b0
  have p8 : w2.frozen? ⟨w.heap.size, 8, none⟩ = false := frozen_of_row _ _ _ _ _ b0
  have q9 : w2.cell? ⟨w.heap.size, 9, none⟩ = some (.int .i64 0) := cell_of_row _ _ _ _ _ _ b0
  have p9 : w2.frozen? ⟨w.heap.size, 9, none⟩ = false := frozen_of_row _ _ _ _ _ b0
  have q10 : w2.cell? ⟨w.heap.size, 10, none⟩ = some (.int .i64 0) := cell_of_row _ _ _ _ _ _ b0
  have p10 : w2.frozen? ⟨w.heap.size, 10, none⟩ = false := frozen_of_row _ _ _ _ _ b0
  have q11 : w2.cell? ⟨w.heap.size, 11, none⟩ = some (.int .i64 0) := cell_of_row _ _ _ _ _ _ b0
  have p11 : w2.frozen? ⟨w.heap.size, 11, none⟩ = false := frozen_of_row _ _ _ _ _ b0
  have q12 : w2.cell? ⟨w.heap.size, 12, none⟩ = some (.int .i64 0) := cell_of_row _ _ _ _ _ _ b0
  have p12 : w2.frozen? ⟨w.heap.size, 12, none⟩ = false := frozen_of_row _ _ _ _ _ b0
  have H2 : Hid (_) := h2
  clear b0 h2 H1
  unfold bk
  go_wp2_with fail
  (try simp only [Exit.inBlock, Exit.then])
  have hdb : Db I ((w.heap.size, .cells #[.int .i64 (n : Int), .int .i64 (W (n * 12 + 0)), .int .i64 (W (n * 12 + 1)), .int .i64 (W (n * 12 + 2)), .int .i64 (W (n * 12 + 3)), .int .i64 (W (n * 12 + 4)), .int .i64 (W (n * 12 + 5)), .int .i64 (W (n * 12 + 6)), .int .i64 (W (n * 12 + 7)), .int .i64 (W (n * 12 + 8)), .int .i64 (W (n * 12 + 9)), .int .i64 (W (n * 12 + 10)), .int .i64 (W (n * 12 + 11))] 74 (0, 0)) :: S) w0 (((((((((((((w2.setCell ⟨w.heap.size, 0, none⟩ (.int .i64 (n : Int))).setCell ⟨w.heap.size, 1, none⟩ (.int .i64 (W (n * 12 + 0)))).setCell ⟨w.heap.size, 2, none⟩ (.int .i64 (W (n * 12 + 1)))).setCell ⟨w.heap.size, 3, none⟩ (.int .i64 (W (n * 12 + 2)))).setCell ⟨w.heap.size, 4, none⟩ (.int .i64 (W (n * 12 + 3)))).setCell ⟨w.heap.size, 5, none⟩ (.int .i64 (W (n * 12 + 4)))).setCell ⟨w.heap.size, 6, none⟩ (.int .i64 (W (n * 12 + 5)))).setCell ⟨w.heap.size, 7, none⟩ (.int .i64 (W (n * 12 + 6)))).setCell ⟨w.heap.size, 8, none⟩ (.int .i64 (W (n * 12 + 7)))).setCell ⟨w.heap.size, 9, none⟩ (.int .i64 (W (n * 12 + 8)))).setCell ⟨w.heap.size, 10, none⟩ (.int .i64 (W (n * 12 + 9)))).setCell ⟨w.heap.size, 11, none⟩ (.int .i64 (W (n * 12 + 10)))).setCell ⟨w.heap.size, 12, none⟩ (.int .i64 (W (n * 12 + 11)))) b g f k L (N + 12) W := Db.fill H2.out bn0.out HH.out.2 (.int .i64 (n : Int)) (.int .i64 (W (n * 12 + 0))) (.int .i64 (W (n * 12 + 1))) (.int .i64 (W (n * 12 + 2))) (.int .i64 (W (n * 12 + 3))) (.int .i64 (W (n * 12 + 4))) (.int .i64 (W (n * 12 + 5))) (.int .i64 (W (n * 12 + 6))) (.int .i64 (W (n * 12 + 7))) (.int .i64 (W (n * 12 + 8))) (.int .i64 (W (n * 12 + 9))) (.int .i64 (W (n * 12 + 10))) (.int .i64 (W (n * 12 + 11)))
  have hg : (((((((((((((w2.setCell ⟨w.heap.size, 0, none⟩ (.int .i64 (n : Int))).setCell ⟨w.heap.size, 1, none⟩ (.int .i64 (W (n * 12 + 0)))).setCell ⟨w.heap.size, 2, none⟩ (.int .i64 (W (n * 12 + 1)))).setCell ⟨w.heap.size, 3, none⟩ (.int .i64 (W (n * 12 + 2)))).setCell ⟨w.heap.size, 4, none⟩ (.int .i64 (W (n * 12 + 3)))).setCell ⟨w.heap.size, 5, none⟩ (.int .i64 (W (n * 12 + 4)))).setCell ⟨w.heap.size, 6, none⟩ (.int .i64 (W (n * 12 + 5)))).setCell ⟨w.heap.size, 7, none⟩ (.int .i64 (W (n * 12 + 6)))).setCell ⟨w.heap.size, 8, none⟩ (.int .i64 (W (n * 12 + 7)))).setCell ⟨w.heap.size, 9, none⟩ (.int .i64 (W (n * 12 + 8)))).setCell ⟨w.heap.size, 10, none⟩ (.int .i64 (W (n * 12 + 9)))).setCell ⟨w.heap.size, 11, none⟩ (.int .i64 (W (n * 12 + 10)))).setCell ⟨w.heap.size, 12, none⟩ (.int .i64 (W (n * 12 + 11)))).heap[w.heap.size]? = some (.cells #[.int .i64 (n : Int), .int .i64 (W (n * 12 + 0)), .int .i64 (W (n * 12 + 1)), .int .i64 (W (n * 12 + 2)), .int .i64 (W (n * 12 + 3)), .int .i64 (W (n * 12 + 4)), .int .i64 (W (n * 12 + 5)), .int .i64 (W (n * 12 + 6)), .int .i64 (W (n * 12 + 7)), .int .i64 (W (n * 12 + 8)), .int .i64 (W (n * 12 + 9)), .int .i64 (W (n * 12 + 10)), .int .i64 (W (n * 12 + 11))] 74 (0, 0)) := hdb.at_ (x := (w.heap.size, .cells #[.int .i64 (n : Int), .int .i64 (W (n * 12 + 0)), .int .i64 (W (n * 12 + 1)), .int .i64 (W (n * 12 + 2)), .int .i64 (W (n * 12 + 3)), .int .i64 (W (n * 12 + 4)), .int .i64 (W (n * 12 + 5)), .int .i64 (W (n * 12 + 6)), .int .i64 (W (n * 12 + 7)), .int .i64 (W (n * 12 + 8)), .int .i64 (W (n * 12 + 9)), .int .i64 (W (n * 12 + 10)), .int .i64 (W (n * 12 + 11))] 74 (0, 0))) (List.mem_cons_self ..)
  have hdb2 : Db I S w0 (((((((((((((w2.setCell ⟨w.heap.size, 0, none⟩ (.int .i64 (n : Int))).setCell ⟨w.heap.size, 1, none⟩ (.int .i64 (W (n * 12 + 0)))).setCell ⟨w.heap.size, 2, none⟩ (.int .i64 (W (n * 12 + 1)))).setCell ⟨w.heap.size, 3, none⟩ (.int .i64 (W (n * 12 + 2)))).setCell ⟨w.heap.size, 4, none⟩ (.int .i64 (W (n * 12 + 3)))).setCell ⟨w.heap.size, 5, none⟩ (.int .i64 (W (n * 12 + 4)))).setCell ⟨w.heap.size, 6, none⟩ (.int .i64 (W (n * 12 + 5)))).setCell ⟨w.heap.size, 7, none⟩ (.int .i64 (W (n * 12 + 6)))).setCell ⟨w.heap.size, 8, none⟩ (.int .i64 (W (n * 12 + 7)))).setCell ⟨w.heap.size, 9, none⟩ (.int .i64 (W (n * 12 + 8)))).setCell ⟨w.heap.size, 10, none⟩ (.int .i64 (W (n * 12 + 9)))).setCell ⟨w.heap.size, 11, none⟩ (.int .i64 (W (n * 12 + 10)))).setCell ⟨w.heap.size, 12, none⟩ (.int .i64 (W (n * 12 + 11)))) b g f k L (N + 12) W := hdb.drop HH.out.2
  clear hdb H2
  refine bodyPost_ret (results_cell_row rfl _ _ w.heap.size 74 #[.int .i64 (n : Int), .int .i64 (W (n * 12 + 0)), .int .i64 (W (n * 12 + 1)), .int .i64 (W (n * 12 + 2)), .int .i64 (W (n * 12 + 3)), .int .i64 (W (n * 12 + 4)), .int .i64 (W (n * 12 + 5)), .int .i64 (W (n * 12 + 6)), .int .i64 (W (n * 12 + 7)), .int .i64 (W (n * 12 + 8)), .int .i64 (W (n * 12 + 9)), .int .i64 (W (n * 12 + 10)), .int .i64 (W (n * 12 + 11))] (0, 0) _ rfl hg Tryd.underlying74 rfl (by kernel_rfl)) rfl ⟨rfl, hdb2⟩

/-- A slot's three words written. -/
def upd3 (W : Nat → Int) (q : Nat) (x y z : Int) : Nat → Int := upd (upd (upd W q x) (q + 1) y) (q + 2) z

set_option maxRecDepth 100000 in
set_option maxHeartbeats 2000000 in
theorem d_put (h : Db I S w0 w b g f k L N W) (c n i : Nat) (v : Nat → Int) (x y z : Int) (u : Int) (hu : u = (i : Int)) (hc : c < k) (hn : n < 8) (hi : i < 4) (hI : Wr I c f n) (hN : N < 900000) :
    Calls Tryd.prog 33 #[.pointer (some ⟨g, 0, none⟩), .int .i64 (c : Int), .agg (bk (n : Int) v), .int .i64 u, .agg #[.int .i64 x, .int .i64 y, .int .i64 z]] w fun e w' => e = .returned (.tuple #[]) ∧ Db I S w0 w' b g f k L (N + 3) (upd3 W (n * 12 + i * 3) x y z) := by
  subst hu
  have hfit := h.fit
  have hlhi := h.lhi
  have HH : Hid (Wr I c f n ∧ (g, box b f) ∈ S) := ⟨hI, h.mem⟩
  have H0 : Hid (_) := (h.push (.cells (bk (n : Int) v) 74 (0, 0))).push (.cells #[.int .i64 x, .int .i64 y, .int .i64 z] 71 (0, 0))
  clear h hI
  rw [show (w.alloc (.cells (bk (n : Int) v) 74 (0, 0))).heap.size = w.heap.size + 1 by simp] at H0
  unfold bk at H0 ⊢
  obtain ⟨W0, hW0⟩ : ∃ W0, W0 = (w.alloc (.cells #[.int .i64 (n : Int), .int .i64 (v 0), .int .i64 (v 1), .int .i64 (v 2), .int .i64 (v 3), .int .i64 (v 4), .int .i64 (v 5), .int .i64 (v 6), .int .i64 (v 7), .int .i64 (v 8), .int .i64 (v 9), .int .i64 (v 10), .int .i64 (v 11)] 74 (0, 0))).alloc (.cells #[.int .i64 x, .int .i64 y, .int .i64 z] 71 (0, 0)) := ⟨_, rfl⟩
  rw [← hW0] at H0
  have HW : Hid (_) := hW0.symm
  clear hW0
  go_enter Tryd.func33, Tryd.ntmps33
  go_wp2_with fail
  rw [HW.out]
  refine (d_slotAt H0.out n i _ _ rfl rfl hn hi).mono ?_
  rintro e w1 ⟨rfl, hw1⟩
  have hw1' := hw1.symm
  subst hw1'
  clear hw1 HW
  have b1 := H0.out.at_ (List.mem_cons_self ..)
  have c0 : W0.cell? ⟨w.heap.size + 1, 0, none⟩ = some (.int .i64 x) := (cell_of_row _ _ _ _ _ _ b1).trans rfl
  clear b1
  go_wp2_with fail
  refine (d_store (I' := I) H0.out c (n * 12 + i * 3) _ rfl x hc (by omega) (HH.out.1 _ (by omega) (by omega)) (by omega)).mono ?_
  rintro e w2 ⟨rfl, h2⟩
  have b2 := h2.at_ (List.mem_cons_self ..)
  have c1 : w2.cell? ⟨w.heap.size + 1, 1, none⟩ = some (.int .i64 y) := (cell_of_row _ _ _ _ _ _ b2).trans rfl
  have c2 : w2.cell? ⟨w.heap.size + 1, 2, none⟩ = some (.int .i64 z) := (cell_of_row _ _ _ _ _ _ b2).trans rfl
  have H2 : Hid (_) := h2
  clear b2 h2 H0 c0
  have x0 : ∀ W : World, (Instr.index 69 (.agg #[.int .i64 y, .int .i64 z]) (.int .i64 0)).run Tryd.prog W = .ok (.int .i64 y) W := fun W => by kernel_rfl
  have x1 : ∀ W : World, (Instr.index 69 (.agg #[.int .i64 y, .int .i64 z]) (.int .i64 1)).run Tryd.prog W = .ok (.int .i64 z) W := fun W => by kernel_rfl
  go_wp2_with fail
  go_loopw [26] (fun i' wr => ∃ j : Nat, i' = .int .i64 (j : Int) ∧ ((j = 0 ∧ Hid (wr = w2)) ∨ (j = 1 ∧ Hid (Db I ((w.heap.size + 1, .cells #[.int .i64 x, .int .i64 y, .int .i64 z] 71 (0, 0)) :: (w.heap.size, .cells (bk (n : Int) v) 74 (0, 0)) :: S) w0 wr b g f k L (N + 1 + 1) (upd (upd W (n * 12 + i * 3) x) (n * 12 + i * 3 + 1) y))) ∨ (j = 2 ∧ Hid (Db I ((w.heap.size + 1, .cells #[.int .i64 x, .int .i64 y, .int .i64 z] 71 (0, 0)) :: (w.heap.size, .cells (bk (n : Int) v) 74 (0, 0)) :: S) w0 wr b g f k L (N + 3) (upd3 W (n * 12 + i * 3) x y z))))) (fun i' _ => (2 - intOf i').toNat)
  case atStart => exact ⟨0, rfl, Or.inl ⟨rfl, rfl⟩⟩
  case round =>
    obtain ⟨j, rfl, ⟨rfl, HJ⟩ | ⟨rfl, HJ⟩ | ⟨rfl, HJ⟩⟩ := hrel
    · have hw := HJ.out
      subst hw
      go_wp2_with fail
      refine (d_store (I' := I) H2.out c (n * 12 + i * 3 + 1) _ (by omega) y hc (by omega) (HH.out.1 _ (by omega) (by omega)) (by omega)).mono ?_
      rintro e w3 ⟨rfl, h3⟩
      have H3 : Hid (_) := h3
      clear h3 H2
      go_wp2_with fail
      go_roundw
      case rel => exact ⟨1, by go_num, Or.inr (Or.inl ⟨rfl, H3.out⟩)⟩
      case measure => simp [intOf]
    · go_wp2_with fail
      refine (d_store (I' := I) HJ.out c (n * 12 + i * 3 + 2) _ (by omega) z hc (by omega) (HH.out.1 _ (by omega) (by omega)) (by omega)).mono ?_
      rintro e w3 ⟨rfl, h3⟩
      have H3 : Hid (_) := h3
      clear h3 HJ
      go_wp2_with fail
      go_roundw
      case rel => exact ⟨2, by go_num, Or.inr (Or.inr ⟨rfl, H3.out⟩)⟩
      case measure => simp [intOf]
    · go_wp2_with fail
      go_end0
      exact ⟨rfl, (HJ.out.drop (List.mem_cons_of_mem _ HH.out.2)).drop HH.out.2⟩

end
end Go.Proofs.YtnbbcbjfejdceaaDoor
