/-
  Package stamp: May, Less, Next, and the reference's.
-/
import Derived.Test.YthjhkcdicaiohaaBase
import Derived.Laws.StructEq
import Derived.Deep.RegionHeld3
import Derived.Deep.CutRange
import Derived.Deep.CutBlock
namespace Go.Proofs.Ythjhkcdicaiohaa
open Go.RowKit
set_option linter.unusedVariables false
set_option linter.unusedSimpArgs false

theorem cellB {w : World} {b i : Nat} {cs : Array Value} {t : TypeId} {m : Nat × Nat} (h : w.heap[b]? = some (.cells cs t m)) : w.cell? ⟨b, i, none⟩ = cs[i]? := by
  unfold World.cell?
  simp [h]

theorem cell_new (w : World) (cs : Array Value) (t : TypeId) (i : Nat) : (w.alloc (.cells cs t (0, 0))).cell? ⟨w.heap.size, i, none⟩ = cs[i]? :=
  cellB (Go.heap_alloc_new w (.cells cs t (0, 0)))

theorem box2 (w : World) (a b : Value) (t : TypeId) : ∃ W X, Hid (w.alloc (.cells #[a, b] t (0, 0)) = W ∧ w.heap.size = X) ∧ Hid (Kept [] w W) ∧ W.cell? ⟨X, 0, none⟩ = some a ∧ W.cell? ⟨X, 1, none⟩ = some b :=
  ⟨_, _, ⟨rfl, rfl⟩, (Kept.refl [] w).alloc _, cell_new _ _ _ _, cell_new _ _ _ _⟩

/-- May a stamp be? -/
def mayS (a k : Int) : Bool := decide (0 ≤ a) && decide (a ≤ 1099511627776) && decide (0 ≤ k) && decide (k < 8)
/-- Is the first less? -/
def lessS (a k b l : Int) : Bool := if a = b then decide (k < l) else decide (a < b)
/-- The next's count. -/
def nextS (a k b l : Int) : Int := if mayS a k && mayS b l then max a b + 1 else a

theorem eq_st (a b x y : Int) (w : World) : (binOp .eql 23 (.agg #[.int .i64 a, .int .i64 b]) (.agg #[.int .i64 x, .int .i64 y])).run Try.prog w = .ok (.bool (a == x && b == y)) w := by
  have u3 := Try.underlying3
  have a3 := Try.isAgg3
  have z3 := Try.sizeOf3
  have hS : Try.prog.underlying 23 = some (.struct (Try.prog.fieldsOf 23)) := by kernel_rfl
  have hp : Try.prog.stoodInHeld 23 = false := by kernel_rfl
  rw [run_eql_struct, show (10000 : Nat) = 9999 + 1 from rfl, run_equalIn_agg w 9999 23 _ _ hS hp]
  simp only [Program.fieldsOf, Try.underlying23]
  go_simp
  by_cases h1 : a = x <;> by_cases h2 : b = y <;> simp [h1, h2]

theorem neq_st (a b x y : Int) (w : World) : (binOp .neq 23 (.agg #[.int .i64 a, .int .i64 b]) (.agg #[.int .i64 x, .int .i64 y])).run Try.prog w = .ok (.bool (!(a == x && b == y))) w := by
  have u3 := Try.underlying3
  have a3 := Try.isAgg3
  have z3 := Try.sizeOf3
  have hS : Try.prog.underlying 23 = some (.struct (Try.prog.fieldsOf 23)) := by kernel_rfl
  have hp : Try.prog.stoodInHeld 23 = false := by kernel_rfl
  rw [run_neq_struct, show (10000 : Nat) = 9999 + 1 from rfl, run_equalIn_agg w 9999 23 _ _ hS hp]
  simp only [Program.fieldsOf, Try.underlying23]
  go_simp
  by_cases h1 : a = x <;> by_cases h2 : b = y <;> simp [h1, h2]

theorem ret_bool {a b : Bool} (h : a = b) : (Ending.returned (.bool a)) = .returned (.bool b) := by rw [h]

set_option maxRecDepth 100000 in
set_option maxHeartbeats 4000000 in
theorem p_may (a k : Int) (w : World) : Calls Try.prog 5 #[.agg #[.int .i64 a, .int .i64 k]] w fun e w' => e = .returned (.bool (mayS a k)) ∧ Kept [] w w' := by
  obtain ⟨W, X, HW, HK, x0, x1⟩ := box2 w (.int .i64 a) (.int .i64 k) 23
  by_cases h1 : (0 : Int) ≤ a
  · by_cases h2 : a ≤ 1099511627776
    · by_cases h3 : (0 : Int) ≤ k
      · have HE : Hid (decide (k < 8) = mayS a k) := by show _ = _; simp [mayS, h1, h2, h3]
        go_enter Try.func5, Try.ntmps5
        go_upto_region 1 with fail
        rw [HW.out.1, HW.out.2]
        go_wp2_with fail
        go_ret
        exact ⟨ret_bool HE.out, HK.out⟩
      · have HE : Hid (false = mayS a k) := by show _ = _; simp [mayS, h3]
        go_enter Try.func5, Try.ntmps5
        go_upto_region 1 with fail
        rw [HW.out.1, HW.out.2]
        go_wp2_with fail
        go_ret
        exact ⟨ret_bool HE.out, HK.out⟩
    · have HE : Hid (false = mayS a k) := by show _ = _; simp [mayS, h2]
      go_enter Try.func5, Try.ntmps5
      go_upto_region 1 with fail
      rw [HW.out.1, HW.out.2]
      go_wp2_with fail
      go_ret
      exact ⟨ret_bool HE.out, HK.out⟩
  · have HE : Hid (false = mayS a k) := by show _ = _; simp [mayS, h1]
    go_enter Try.func5, Try.ntmps5
    go_upto_region 1 with fail
    rw [HW.out.1, HW.out.2]
    go_wp2_with fail
    go_ret
    exact ⟨ret_bool HE.out, HK.out⟩

set_option maxRecDepth 100000 in
set_option maxHeartbeats 4000000 in
theorem r_may (a k : Int) (w : World) : Calls Try.prog 6 #[.agg #[.int .i64 a, .int .i64 k]] w fun e w' => e = .returned (.bool (mayS a k)) ∧ Kept [] w w' := by
  obtain ⟨W, X, HW, HK, x0, x1⟩ := box2 w (.int .i64 a) (.int .i64 k) 23
  by_cases h1 : (0 : Int) ≤ a
  · by_cases h2 : a ≤ 1099511627776
    · by_cases h3 : (0 : Int) ≤ k
      · have HE : Hid (decide (k < 8) = mayS a k) := by show _ = _; simp [mayS, h1, h2, h3]
        go_enter Try.func6, Try.ntmps6
        go_upto_region 1 with fail
        rw [HW.out.1, HW.out.2]
        go_wp2_with fail
        go_ret
        exact ⟨ret_bool HE.out, HK.out⟩
      · have HE : Hid (false = mayS a k) := by show _ = _; simp [mayS, h3]
        go_enter Try.func6, Try.ntmps6
        go_upto_region 1 with fail
        rw [HW.out.1, HW.out.2]
        go_wp2_with fail
        go_ret
        exact ⟨ret_bool HE.out, HK.out⟩
    · have HE : Hid (false = mayS a k) := by show _ = _; simp [mayS, h2]
      go_enter Try.func6, Try.ntmps6
      go_upto_region 1 with fail
      rw [HW.out.1, HW.out.2]
      go_wp2_with fail
      go_ret
      exact ⟨ret_bool HE.out, HK.out⟩
  · have HE : Hid (false = mayS a k) := by show _ = _; simp [mayS, h1]
    go_enter Try.func6, Try.ntmps6
    go_upto_region 1 with fail
    rw [HW.out.1, HW.out.2]
    go_wp2_with fail
    go_ret
    exact ⟨ret_bool HE.out, HK.out⟩

set_option maxRecDepth 100000 in
set_option maxHeartbeats 4000000 in
theorem p_less (a k b l : Int) (w : World) : Calls Try.prog 7 #[.agg #[.int .i64 a, .int .i64 k], .agg #[.int .i64 b, .int .i64 l]] w fun e w' => e = .returned (.bool (lessS a k b l)) ∧ Kept [] w w' := by
  obtain ⟨W, X, HW, HK, x0', x1'⟩ := box2 w (.int .i64 a) (.int .i64 k) 23
  obtain ⟨V, Y, HV, HK', y0, y1⟩ := box2 W (.int .i64 b) (.int .i64 l) 23
  have x0 := HK'.out.cell x0' (by simp)
  have x1 := HK'.out.cell x1' (by simp)
  have HK2 : Hid (Kept [] w V) := HK.out.trans HK'.out (by simp)
  clear x0' x1'
  have hY : Y = X + 1 := by rw [← HV.out.2, ← HW.out.1, ← HW.out.2]; simp
  subst hY
  by_cases h1 : a = b
  · have HE : Hid (decide (k < l) = lessS a k b l) := by show _ = _; simp [lessS, h1]
    have t1 : (a != b) = false := by simp [h1]
    clear h1
    go_enter Try.func7, Try.ntmps7
    go_upto_region 1 with fail
    rw [HW.out.1, HV.out.1, HW.out.2]
    go_wp2_with fail
    go_ret
    exact ⟨ret_bool HE.out, HK2.out⟩
  · have HE : Hid (decide (a < b) = lessS a k b l) := by show _ = _; simp [lessS, h1]
    have t1 : (a != b) = true := by simp [h1]
    clear h1
    go_enter Try.func7, Try.ntmps7
    go_upto_region 1 with fail
    rw [HW.out.1, HV.out.1, HW.out.2]
    go_wp2_with fail
    go_ret
    exact ⟨ret_bool HE.out, HK2.out⟩

set_option maxRecDepth 100000 in
set_option maxHeartbeats 4000000 in
theorem r_less (a k b l : Int) (w : World) : Calls Try.prog 8 #[.agg #[.int .i64 a, .int .i64 k], .agg #[.int .i64 b, .int .i64 l]] w fun e w' => e = .returned (.bool (lessS a k b l)) ∧ Kept [] w w' := by
  obtain ⟨W, X, HW, HK, x0', x1'⟩ := box2 w (.int .i64 a) (.int .i64 k) 23
  obtain ⟨V, Y, HV, HK', y0, y1⟩ := box2 W (.int .i64 b) (.int .i64 l) 23
  have x0 := HK'.out.cell x0' (by simp)
  have x1 := HK'.out.cell x1' (by simp)
  have HK2 : Hid (Kept [] w V) := HK.out.trans HK'.out (by simp)
  clear x0' x1'
  have hY : Y = X + 1 := by rw [← HV.out.2, ← HW.out.1, ← HW.out.2]; simp
  subst hY
  by_cases h1 : a = b
  · have HE : Hid (decide (k < l) = lessS a k b l) := by show _ = _; simp [lessS, h1]
    have t1 : (a != b) = false := by simp [h1]
    clear h1
    go_enter Try.func8, Try.ntmps8
    go_upto_region 1 with fail
    rw [HW.out.1, HV.out.1, HW.out.2]
    go_wp2_with fail
    go_ret
    exact ⟨ret_bool HE.out, HK2.out⟩
  · have HE : Hid (decide (a < b) = lessS a k b l) := by show _ = _; simp [lessS, h1]
    have t1 : (a != b) = true := by simp [h1]
    clear h1
    go_enter Try.func8, Try.ntmps8
    go_upto_region 1 with fail
    rw [HW.out.1, HV.out.1, HW.out.2]
    go_wp2_with fail
    go_ret
    exact ⟨ret_bool HE.out, HK2.out⟩

theorem block_set {w : World} {b : Nat} {cs : Array Value} {t : TypeId} (h : w.heap[b]? = some (.cells cs t (0, 0))) (i : Nat) (v : Value) : (w.setCell ⟨b, i, none⟩ v).heap[b]? = some (.cells (cs.setIfInBounds i v) t (0, 0)) := by
  exact heap_setCell_same _ _ _ _ _ _ h

theorem frozen_of {w : World} {b : Nat} {cs : Array Value} {t : TypeId} (h : w.heap[b]? = some (.cells cs t (0, 0))) (i : Nat) : w.frozen? ⟨b, i, none⟩ = false := by
  simp [World.frozen?, h]

theorem boxes (w : World) (a k b l : Int) : ∃ U X, Hid (((w.alloc (.cells #[.int .i64 a, .int .i64 k] 23 (0, 0))).alloc (.cells #[.int .i64 b, .int .i64 l] 23 (0, 0))).alloc (.cells #[.int .i64 0, .int .i64 0] 23 (0, 0)) = U ∧ w.heap.size = X) ∧ Hid (Kept [] w U ∧ w.heap.size ≤ X) ∧
    (U.cell? ⟨X, 0, none⟩ = some (.int .i64 a) ∧ U.cell? ⟨X, 1, none⟩ = some (.int .i64 k) ∧ U.cell? ⟨X + 1, 0, none⟩ = some (.int .i64 b) ∧ U.cell? ⟨X + 1, 1, none⟩ = some (.int .i64 l)) ∧ Hid (U.heap[X + 1 + 1]? = some (.cells #[.int .i64 0, .int .i64 0] 23 (0, 0))) := by
  have k1 := (Kept.refl [] w).alloc (.cells #[.int .i64 a, .int .i64 k] 23 (0, 0))
  have k2 := (Kept.refl [] (w.alloc (.cells #[.int .i64 a, .int .i64 k] 23 (0, 0)))).alloc (.cells #[.int .i64 b, .int .i64 l] 23 (0, 0))
  have k3 := (Kept.refl [] ((w.alloc (.cells #[.int .i64 a, .int .i64 k] 23 (0, 0))).alloc (.cells #[.int .i64 b, .int .i64 l] 23 (0, 0)))).alloc (.cells #[.int .i64 0, .int .i64 0] 23 (0, 0))
  have k23 := k2.trans k3 (by simp)
  have e1 : (w.alloc (.cells #[.int .i64 a, .int .i64 k] 23 (0, 0))).heap.size = w.heap.size + 1 := by simp
  have e2 : ((w.alloc (.cells #[.int .i64 a, .int .i64 k] 23 (0, 0))).alloc (.cells #[.int .i64 b, .int .i64 l] 23 (0, 0))).heap.size = w.heap.size + 1 + 1 := by simp
  refine ⟨_, _, ⟨rfl, rfl⟩, ⟨k1.trans k23 (by simp), Nat.le_refl _⟩, ⟨k23.cell (cell_new _ _ _ _) (by simp), k23.cell (cell_new _ _ _ _) (by simp), ?_, ?_⟩, ?_⟩
  · rw [← e1]; exact k3.cell (cell_new _ _ _ _) (by simp)
  · rw [← e1]; exact k3.cell (cell_new _ _ _ _) (by simp)
  · show _ = _
    rw [← e2]; exact Go.heap_alloc_new _ _

set_option maxRecDepth 100000 in
set_option maxHeartbeats 4000000 in
theorem p_next (a k b l : Int) (w : World) : Calls Try.prog 9 #[.agg #[.int .i64 a, .int .i64 k], .agg #[.int .i64 b, .int .i64 l]] w fun e w' => e = .returned (.agg #[.int .i64 (nextS a k b l), .int .i64 k]) ∧ Kept [] w w' := by
  have p1 := p_may a k
  have p2 := p_may b l
  obtain ⟨U, X, HU, HK, hc, HB⟩ := boxes w a k b l
  rcases h1 : mayS a k with _ | _
  · rw [h1] at p1
    have HE : Hid (nextS a k b l = a) := by show _ = _; simp [nextS, h1]
    clear h1
    go_enter Try.func9, Try.ntmps9
    go_upto_region 1 with fail
    rw [HU.out.1, HU.out.2]
    clear HU
    go_wp2_with fail
    refine (p1 _).mono ?_
    rintro e w1 ⟨rfl, k1⟩
    obtain ⟨x0, x1, y0, y1⟩ := hc
    have hc := And.intro (k1.cell x0 (by simp)) (And.intro (k1.cell x1 (by simp)) (And.intro (k1.cell y0 (by simp)) (k1.cell y1 (by simp))))
    have HB : Hid (_) := (k1.block _ (lt_of_heap HB.out) (by simp)).trans HB.out
    have HK : Hid (_ ∧ _) := ⟨HK.out.1.trans k1 (by simp), HK.out.2⟩
    clear x0 x1 y0 y1 k1
    obtain ⟨x0, x1, y0, y1⟩ := hc
    have g0 : w1.cell? ⟨X + 1 + 1, 0, none⟩ = some (.int .i64 0) := cellB HB.out
    have g1 : w1.cell? ⟨X + 1 + 1, 1, none⟩ = some (.int .i64 0) := cellB HB.out
    have z0 := frozen_of HB.out 0
    have z1 := frozen_of HB.out 1
    go_wp2_with fail
    (try simp only [Exit.inBlock, Exit.then])
    refine bodyPost_ret (results_cell_row rfl _ _ (X + 1 + 1) 23 #[.int .i64 (a), .int .i64 k] (0, 0) _ rfl (block_set (block_set HB.out 0 _) 1 _) Try.underlying23 rfl (by kernel_rfl)) rfl ?_
    exact ⟨by rw [HE.out], (HK.out.1.setCell (Or.inr (Nat.le_trans HK.out.2 (Nat.le_add_right _ 2))) _).setCell (Or.inr (Nat.le_trans HK.out.2 (Nat.le_add_right _ 2))) _⟩
  · rcases h2 : mayS b l with _ | _
    · rw [h1] at p1
      rw [h2] at p2
      have HE : Hid (nextS a k b l = a) := by show _ = _; simp [nextS, h1, h2]
      clear h1 h2
      go_enter Try.func9, Try.ntmps9
      go_upto_region 1 with fail
      rw [HU.out.1, HU.out.2]
      clear HU
      go_wp2_with fail
      refine (p1 _).mono ?_
      rintro e w1 ⟨rfl, k1⟩
      obtain ⟨x0, x1, y0, y1⟩ := hc
      have hc := And.intro (k1.cell x0 (by simp)) (And.intro (k1.cell x1 (by simp)) (And.intro (k1.cell y0 (by simp)) (k1.cell y1 (by simp))))
      have HB : Hid (_) := (k1.block _ (lt_of_heap HB.out) (by simp)).trans HB.out
      have HK : Hid (_ ∧ _) := ⟨HK.out.1.trans k1 (by simp), HK.out.2⟩
      clear x0 x1 y0 y1 k1
      go_wp2_with fail
      refine (p2 _).mono ?_
      rintro e w2 ⟨rfl, k2⟩
      obtain ⟨x0, x1, y0, y1⟩ := hc
      have hc := And.intro (k2.cell x0 (by simp)) (And.intro (k2.cell x1 (by simp)) (And.intro (k2.cell y0 (by simp)) (k2.cell y1 (by simp))))
      have HB : Hid (_) := (k2.block _ (lt_of_heap HB.out) (by simp)).trans HB.out
      have HK : Hid (_ ∧ _) := ⟨HK.out.1.trans k2 (by simp), HK.out.2⟩
      clear x0 x1 y0 y1 k2
      obtain ⟨x0, x1, y0, y1⟩ := hc
      have g0 : w2.cell? ⟨X + 1 + 1, 0, none⟩ = some (.int .i64 0) := cellB HB.out
      have g1 : w2.cell? ⟨X + 1 + 1, 1, none⟩ = some (.int .i64 0) := cellB HB.out
      have z0 := frozen_of HB.out 0
      have z1 := frozen_of HB.out 1
      go_wp2_with fail
      (try simp only [Exit.inBlock, Exit.then])
      refine bodyPost_ret (results_cell_row rfl _ _ (X + 1 + 1) 23 #[.int .i64 (a), .int .i64 k] (0, 0) _ rfl (block_set (block_set HB.out 0 _) 1 _) Try.underlying23 rfl (by kernel_rfl)) rfl ?_
      exact ⟨by rw [HE.out], (HK.out.1.setCell (Or.inr (Nat.le_trans HK.out.2 (Nat.le_add_right _ 2))) _).setCell (Or.inr (Nat.le_trans HK.out.2 (Nat.le_add_right _ 2))) _⟩
    · rw [h1] at p1
      rw [h2] at p2
      have hq : 0 ≤ a ∧ a ≤ 1099511627776 := by simp [mayS] at h1; omega
      have hq' : 0 ≤ b ∧ b ≤ 1099511627776 := by simp [mayS] at h2; omega
      rcases Int.lt_trichotomy a b with hm | hm | hm
      · have HE : Hid (nextS a k b l = b + 1) := by show _ = _; simp [nextS, h1, h2]; omega
        have hm2 : ¬ b < a := by omega
        have hm3 : a ≤ b := by omega
        clear h1 h2
        go_enter Try.func9, Try.ntmps9
        go_upto_region 1 with fail
        rw [HU.out.1, HU.out.2]
        clear HU
        go_wp2_with fail
        refine (p1 _).mono ?_
        rintro e w1 ⟨rfl, k1⟩
        obtain ⟨x0, x1, y0, y1⟩ := hc
        have hc := And.intro (k1.cell x0 (by simp)) (And.intro (k1.cell x1 (by simp)) (And.intro (k1.cell y0 (by simp)) (k1.cell y1 (by simp))))
        have HB : Hid (_) := (k1.block _ (lt_of_heap HB.out) (by simp)).trans HB.out
        have HK : Hid (_ ∧ _) := ⟨HK.out.1.trans k1 (by simp), HK.out.2⟩
        clear x0 x1 y0 y1 k1
        go_wp2_with fail
        refine (p2 _).mono ?_
        rintro e w2 ⟨rfl, k2⟩
        obtain ⟨x0, x1, y0, y1⟩ := hc
        have hc := And.intro (k2.cell x0 (by simp)) (And.intro (k2.cell x1 (by simp)) (And.intro (k2.cell y0 (by simp)) (k2.cell y1 (by simp))))
        have HB : Hid (_) := (k2.block _ (lt_of_heap HB.out) (by simp)).trans HB.out
        have HK : Hid (_ ∧ _) := ⟨HK.out.1.trans k2 (by simp), HK.out.2⟩
        clear x0 x1 y0 y1 k2
        obtain ⟨x0, x1, y0, y1⟩ := hc
        have g0 : w2.cell? ⟨X + 1 + 1, 0, none⟩ = some (.int .i64 0) := cellB HB.out
        have g1 : w2.cell? ⟨X + 1 + 1, 1, none⟩ = some (.int .i64 0) := cellB HB.out
        have z0 := frozen_of HB.out 0
        have z1 := frozen_of HB.out 1
        go_wp2_with fail
        (try simp only [Exit.inBlock, Exit.then])
        refine bodyPost_ret (results_cell_row rfl _ _ (X + 1 + 1) 23 #[.int .i64 (b + 1), .int .i64 k] (0, 0) _ rfl (block_set (block_set HB.out 0 _) 1 _) Try.underlying23 rfl (by kernel_rfl)) rfl ?_
        exact ⟨by rw [HE.out], (HK.out.1.setCell (Or.inr (Nat.le_trans HK.out.2 (Nat.le_add_right _ 2))) _).setCell (Or.inr (Nat.le_trans HK.out.2 (Nat.le_add_right _ 2))) _⟩
      · subst hm
        have HE : Hid (nextS a k a l = a + 1) := by show _ = _; simp [nextS, h1, h2]
        have hm2 : ¬ a < a := by omega
        have hm3 : a ≤ a := by omega
        clear h1 h2
        go_enter Try.func9, Try.ntmps9
        go_upto_region 1 with fail
        rw [HU.out.1, HU.out.2]
        clear HU
        go_wp2_with fail
        refine (p1 _).mono ?_
        rintro e w1 ⟨rfl, k1⟩
        obtain ⟨x0, x1, y0, y1⟩ := hc
        have hc := And.intro (k1.cell x0 (by simp)) (And.intro (k1.cell x1 (by simp)) (And.intro (k1.cell y0 (by simp)) (k1.cell y1 (by simp))))
        have HB : Hid (_) := (k1.block _ (lt_of_heap HB.out) (by simp)).trans HB.out
        have HK : Hid (_ ∧ _) := ⟨HK.out.1.trans k1 (by simp), HK.out.2⟩
        clear x0 x1 y0 y1 k1
        go_wp2_with fail
        refine (p2 _).mono ?_
        rintro e w2 ⟨rfl, k2⟩
        obtain ⟨x0, x1, y0, y1⟩ := hc
        have hc := And.intro (k2.cell x0 (by simp)) (And.intro (k2.cell x1 (by simp)) (And.intro (k2.cell y0 (by simp)) (k2.cell y1 (by simp))))
        have HB : Hid (_) := (k2.block _ (lt_of_heap HB.out) (by simp)).trans HB.out
        have HK : Hid (_ ∧ _) := ⟨HK.out.1.trans k2 (by simp), HK.out.2⟩
        clear x0 x1 y0 y1 k2
        obtain ⟨x0, x1, y0, y1⟩ := hc
        have g0 : w2.cell? ⟨X + 1 + 1, 0, none⟩ = some (.int .i64 0) := cellB HB.out
        have g1 : w2.cell? ⟨X + 1 + 1, 1, none⟩ = some (.int .i64 0) := cellB HB.out
        have z0 := frozen_of HB.out 0
        have z1 := frozen_of HB.out 1
        go_wp2_with fail
        (try simp only [Exit.inBlock, Exit.then])
        refine bodyPost_ret (results_cell_row rfl _ _ (X + 1 + 1) 23 #[.int .i64 (a + 1), .int .i64 k] (0, 0) _ rfl (block_set (block_set HB.out 0 _) 1 _) Try.underlying23 rfl (by kernel_rfl)) rfl ?_
        exact ⟨by rw [HE.out], (HK.out.1.setCell (Or.inr (Nat.le_trans HK.out.2 (Nat.le_add_right _ 2))) _).setCell (Or.inr (Nat.le_trans HK.out.2 (Nat.le_add_right _ 2))) _⟩
      · have HE : Hid (nextS a k b l = a + 1) := by show _ = _; simp [nextS, h1, h2]; omega
        have hm2 : ¬ a < b := by omega
        have hm3 : ¬ a ≤ b := by omega
        clear h1 h2
        go_enter Try.func9, Try.ntmps9
        go_upto_region 1 with fail
        rw [HU.out.1, HU.out.2]
        clear HU
        go_wp2_with fail
        refine (p1 _).mono ?_
        rintro e w1 ⟨rfl, k1⟩
        obtain ⟨x0, x1, y0, y1⟩ := hc
        have hc := And.intro (k1.cell x0 (by simp)) (And.intro (k1.cell x1 (by simp)) (And.intro (k1.cell y0 (by simp)) (k1.cell y1 (by simp))))
        have HB : Hid (_) := (k1.block _ (lt_of_heap HB.out) (by simp)).trans HB.out
        have HK : Hid (_ ∧ _) := ⟨HK.out.1.trans k1 (by simp), HK.out.2⟩
        clear x0 x1 y0 y1 k1
        go_wp2_with fail
        refine (p2 _).mono ?_
        rintro e w2 ⟨rfl, k2⟩
        obtain ⟨x0, x1, y0, y1⟩ := hc
        have hc := And.intro (k2.cell x0 (by simp)) (And.intro (k2.cell x1 (by simp)) (And.intro (k2.cell y0 (by simp)) (k2.cell y1 (by simp))))
        have HB : Hid (_) := (k2.block _ (lt_of_heap HB.out) (by simp)).trans HB.out
        have HK : Hid (_ ∧ _) := ⟨HK.out.1.trans k2 (by simp), HK.out.2⟩
        clear x0 x1 y0 y1 k2
        obtain ⟨x0, x1, y0, y1⟩ := hc
        have g0 : w2.cell? ⟨X + 1 + 1, 0, none⟩ = some (.int .i64 0) := cellB HB.out
        have g1 : w2.cell? ⟨X + 1 + 1, 1, none⟩ = some (.int .i64 0) := cellB HB.out
        have z0 := frozen_of HB.out 0
        have z1 := frozen_of HB.out 1
        go_wp2_with fail
        (try simp only [Exit.inBlock, Exit.then])
        refine bodyPost_ret (results_cell_row rfl _ _ (X + 1 + 1) 23 #[.int .i64 (a + 1), .int .i64 k] (0, 0) _ rfl (block_set (block_set HB.out 0 _) 1 _) Try.underlying23 rfl (by kernel_rfl)) rfl ?_
        exact ⟨by rw [HE.out], (HK.out.1.setCell (Or.inr (Nat.le_trans HK.out.2 (Nat.le_add_right _ 2))) _).setCell (Or.inr (Nat.le_trans HK.out.2 (Nat.le_add_right _ 2))) _⟩

set_option maxRecDepth 100000 in
set_option maxHeartbeats 4000000 in
theorem r_next (a k b l : Int) (w : World) : Calls Try.prog 10 #[.agg #[.int .i64 a, .int .i64 k], .agg #[.int .i64 b, .int .i64 l]] w fun e w' => e = .returned (.agg #[.int .i64 (nextS a k b l), .int .i64 k]) ∧ Kept [] w w' := by
  have p1 := r_may a k
  have p2 := r_may b l
  obtain ⟨U, X, HU, HK, hc, HB⟩ := boxes w a k b l
  rcases h1 : mayS a k with _ | _
  · rw [h1] at p1
    have HE : Hid (nextS a k b l = a) := by show _ = _; simp [nextS, h1]
    clear h1
    go_enter Try.func10, Try.ntmps10
    go_upto_region 1 with fail
    rw [HU.out.1, HU.out.2]
    clear HU
    go_wp2_with fail
    refine (p1 _).mono ?_
    rintro e w1 ⟨rfl, k1⟩
    obtain ⟨x0, x1, y0, y1⟩ := hc
    have hc := And.intro (k1.cell x0 (by simp)) (And.intro (k1.cell x1 (by simp)) (And.intro (k1.cell y0 (by simp)) (k1.cell y1 (by simp))))
    have HB : Hid (_) := (k1.block _ (lt_of_heap HB.out) (by simp)).trans HB.out
    have HK : Hid (_ ∧ _) := ⟨HK.out.1.trans k1 (by simp), HK.out.2⟩
    clear x0 x1 y0 y1 k1
    obtain ⟨x0, x1, y0, y1⟩ := hc
    have g0 : w1.cell? ⟨X + 1 + 1, 0, none⟩ = some (.int .i64 0) := cellB HB.out
    have g1 : w1.cell? ⟨X + 1 + 1, 1, none⟩ = some (.int .i64 0) := cellB HB.out
    have z0 := frozen_of HB.out 0
    have z1 := frozen_of HB.out 1
    go_wp2_with fail
    (try simp only [Exit.inBlock, Exit.then])
    refine bodyPost_ret (results_cell_row rfl _ _ (X + 1 + 1) 23 #[.int .i64 (a), .int .i64 k] (0, 0) _ rfl (block_set (block_set HB.out 0 _) 1 _) Try.underlying23 rfl (by kernel_rfl)) rfl ?_
    exact ⟨by rw [HE.out], (HK.out.1.setCell (Or.inr (Nat.le_trans HK.out.2 (Nat.le_add_right _ 2))) _).setCell (Or.inr (Nat.le_trans HK.out.2 (Nat.le_add_right _ 2))) _⟩
  · rcases h2 : mayS b l with _ | _
    · rw [h1] at p1
      rw [h2] at p2
      have HE : Hid (nextS a k b l = a) := by show _ = _; simp [nextS, h1, h2]
      clear h1 h2
      go_enter Try.func10, Try.ntmps10
      go_upto_region 1 with fail
      rw [HU.out.1, HU.out.2]
      clear HU
      go_wp2_with fail
      refine (p1 _).mono ?_
      rintro e w1 ⟨rfl, k1⟩
      obtain ⟨x0, x1, y0, y1⟩ := hc
      have hc := And.intro (k1.cell x0 (by simp)) (And.intro (k1.cell x1 (by simp)) (And.intro (k1.cell y0 (by simp)) (k1.cell y1 (by simp))))
      have HB : Hid (_) := (k1.block _ (lt_of_heap HB.out) (by simp)).trans HB.out
      have HK : Hid (_ ∧ _) := ⟨HK.out.1.trans k1 (by simp), HK.out.2⟩
      clear x0 x1 y0 y1 k1
      go_wp2_with fail
      refine (p2 _).mono ?_
      rintro e w2 ⟨rfl, k2⟩
      obtain ⟨x0, x1, y0, y1⟩ := hc
      have hc := And.intro (k2.cell x0 (by simp)) (And.intro (k2.cell x1 (by simp)) (And.intro (k2.cell y0 (by simp)) (k2.cell y1 (by simp))))
      have HB : Hid (_) := (k2.block _ (lt_of_heap HB.out) (by simp)).trans HB.out
      have HK : Hid (_ ∧ _) := ⟨HK.out.1.trans k2 (by simp), HK.out.2⟩
      clear x0 x1 y0 y1 k2
      obtain ⟨x0, x1, y0, y1⟩ := hc
      have g0 : w2.cell? ⟨X + 1 + 1, 0, none⟩ = some (.int .i64 0) := cellB HB.out
      have g1 : w2.cell? ⟨X + 1 + 1, 1, none⟩ = some (.int .i64 0) := cellB HB.out
      have z0 := frozen_of HB.out 0
      have z1 := frozen_of HB.out 1
      go_wp2_with fail
      (try simp only [Exit.inBlock, Exit.then])
      refine bodyPost_ret (results_cell_row rfl _ _ (X + 1 + 1) 23 #[.int .i64 (a), .int .i64 k] (0, 0) _ rfl (block_set (block_set HB.out 0 _) 1 _) Try.underlying23 rfl (by kernel_rfl)) rfl ?_
      exact ⟨by rw [HE.out], (HK.out.1.setCell (Or.inr (Nat.le_trans HK.out.2 (Nat.le_add_right _ 2))) _).setCell (Or.inr (Nat.le_trans HK.out.2 (Nat.le_add_right _ 2))) _⟩
    · rw [h1] at p1
      rw [h2] at p2
      have hq : 0 ≤ a ∧ a ≤ 1099511627776 := by simp [mayS] at h1; omega
      have hq' : 0 ≤ b ∧ b ≤ 1099511627776 := by simp [mayS] at h2; omega
      rcases Int.lt_trichotomy a b with hm | hm | hm
      · have HE : Hid (nextS a k b l = b + 1) := by show _ = _; simp [nextS, h1, h2]; omega
        have hm2 : ¬ b < a := by omega
        have hm3 : a ≤ b := by omega
        clear h1 h2
        go_enter Try.func10, Try.ntmps10
        go_upto_region 1 with fail
        rw [HU.out.1, HU.out.2]
        clear HU
        go_wp2_with fail
        refine (p1 _).mono ?_
        rintro e w1 ⟨rfl, k1⟩
        obtain ⟨x0, x1, y0, y1⟩ := hc
        have hc := And.intro (k1.cell x0 (by simp)) (And.intro (k1.cell x1 (by simp)) (And.intro (k1.cell y0 (by simp)) (k1.cell y1 (by simp))))
        have HB : Hid (_) := (k1.block _ (lt_of_heap HB.out) (by simp)).trans HB.out
        have HK : Hid (_ ∧ _) := ⟨HK.out.1.trans k1 (by simp), HK.out.2⟩
        clear x0 x1 y0 y1 k1
        go_wp2_with fail
        refine (p2 _).mono ?_
        rintro e w2 ⟨rfl, k2⟩
        obtain ⟨x0, x1, y0, y1⟩ := hc
        have hc := And.intro (k2.cell x0 (by simp)) (And.intro (k2.cell x1 (by simp)) (And.intro (k2.cell y0 (by simp)) (k2.cell y1 (by simp))))
        have HB : Hid (_) := (k2.block _ (lt_of_heap HB.out) (by simp)).trans HB.out
        have HK : Hid (_ ∧ _) := ⟨HK.out.1.trans k2 (by simp), HK.out.2⟩
        clear x0 x1 y0 y1 k2
        obtain ⟨x0, x1, y0, y1⟩ := hc
        have g0 : w2.cell? ⟨X + 1 + 1, 0, none⟩ = some (.int .i64 0) := cellB HB.out
        have g1 : w2.cell? ⟨X + 1 + 1, 1, none⟩ = some (.int .i64 0) := cellB HB.out
        have z0 := frozen_of HB.out 0
        have z1 := frozen_of HB.out 1
        go_wp2_with fail
        (try simp only [Exit.inBlock, Exit.then])
        refine bodyPost_ret (results_cell_row rfl _ _ (X + 1 + 1) 23 #[.int .i64 (b + 1), .int .i64 k] (0, 0) _ rfl (block_set (block_set HB.out 0 _) 1 _) Try.underlying23 rfl (by kernel_rfl)) rfl ?_
        exact ⟨by rw [HE.out], (HK.out.1.setCell (Or.inr (Nat.le_trans HK.out.2 (Nat.le_add_right _ 2))) _).setCell (Or.inr (Nat.le_trans HK.out.2 (Nat.le_add_right _ 2))) _⟩
      · subst hm
        have HE : Hid (nextS a k a l = a + 1) := by show _ = _; simp [nextS, h1, h2]
        have hm2 : ¬ a < a := by omega
        have hm3 : a ≤ a := by omega
        clear h1 h2
        go_enter Try.func10, Try.ntmps10
        go_upto_region 1 with fail
        rw [HU.out.1, HU.out.2]
        clear HU
        go_wp2_with fail
        refine (p1 _).mono ?_
        rintro e w1 ⟨rfl, k1⟩
        obtain ⟨x0, x1, y0, y1⟩ := hc
        have hc := And.intro (k1.cell x0 (by simp)) (And.intro (k1.cell x1 (by simp)) (And.intro (k1.cell y0 (by simp)) (k1.cell y1 (by simp))))
        have HB : Hid (_) := (k1.block _ (lt_of_heap HB.out) (by simp)).trans HB.out
        have HK : Hid (_ ∧ _) := ⟨HK.out.1.trans k1 (by simp), HK.out.2⟩
        clear x0 x1 y0 y1 k1
        go_wp2_with fail
        refine (p2 _).mono ?_
        rintro e w2 ⟨rfl, k2⟩
        obtain ⟨x0, x1, y0, y1⟩ := hc
        have hc := And.intro (k2.cell x0 (by simp)) (And.intro (k2.cell x1 (by simp)) (And.intro (k2.cell y0 (by simp)) (k2.cell y1 (by simp))))
        have HB : Hid (_) := (k2.block _ (lt_of_heap HB.out) (by simp)).trans HB.out
        have HK : Hid (_ ∧ _) := ⟨HK.out.1.trans k2 (by simp), HK.out.2⟩
        clear x0 x1 y0 y1 k2
        obtain ⟨x0, x1, y0, y1⟩ := hc
        have g0 : w2.cell? ⟨X + 1 + 1, 0, none⟩ = some (.int .i64 0) := cellB HB.out
        have g1 : w2.cell? ⟨X + 1 + 1, 1, none⟩ = some (.int .i64 0) := cellB HB.out
        have z0 := frozen_of HB.out 0
        have z1 := frozen_of HB.out 1
        go_wp2_with fail
        (try simp only [Exit.inBlock, Exit.then])
        refine bodyPost_ret (results_cell_row rfl _ _ (X + 1 + 1) 23 #[.int .i64 (a + 1), .int .i64 k] (0, 0) _ rfl (block_set (block_set HB.out 0 _) 1 _) Try.underlying23 rfl (by kernel_rfl)) rfl ?_
        exact ⟨by rw [HE.out], (HK.out.1.setCell (Or.inr (Nat.le_trans HK.out.2 (Nat.le_add_right _ 2))) _).setCell (Or.inr (Nat.le_trans HK.out.2 (Nat.le_add_right _ 2))) _⟩
      · have HE : Hid (nextS a k b l = a + 1) := by show _ = _; simp [nextS, h1, h2]; omega
        have hm2 : ¬ a < b := by omega
        have hm3 : ¬ a ≤ b := by omega
        clear h1 h2
        go_enter Try.func10, Try.ntmps10
        go_upto_region 1 with fail
        rw [HU.out.1, HU.out.2]
        clear HU
        go_wp2_with fail
        refine (p1 _).mono ?_
        rintro e w1 ⟨rfl, k1⟩
        obtain ⟨x0, x1, y0, y1⟩ := hc
        have hc := And.intro (k1.cell x0 (by simp)) (And.intro (k1.cell x1 (by simp)) (And.intro (k1.cell y0 (by simp)) (k1.cell y1 (by simp))))
        have HB : Hid (_) := (k1.block _ (lt_of_heap HB.out) (by simp)).trans HB.out
        have HK : Hid (_ ∧ _) := ⟨HK.out.1.trans k1 (by simp), HK.out.2⟩
        clear x0 x1 y0 y1 k1
        go_wp2_with fail
        refine (p2 _).mono ?_
        rintro e w2 ⟨rfl, k2⟩
        obtain ⟨x0, x1, y0, y1⟩ := hc
        have hc := And.intro (k2.cell x0 (by simp)) (And.intro (k2.cell x1 (by simp)) (And.intro (k2.cell y0 (by simp)) (k2.cell y1 (by simp))))
        have HB : Hid (_) := (k2.block _ (lt_of_heap HB.out) (by simp)).trans HB.out
        have HK : Hid (_ ∧ _) := ⟨HK.out.1.trans k2 (by simp), HK.out.2⟩
        clear x0 x1 y0 y1 k2
        obtain ⟨x0, x1, y0, y1⟩ := hc
        have g0 : w2.cell? ⟨X + 1 + 1, 0, none⟩ = some (.int .i64 0) := cellB HB.out
        have g1 : w2.cell? ⟨X + 1 + 1, 1, none⟩ = some (.int .i64 0) := cellB HB.out
        have z0 := frozen_of HB.out 0
        have z1 := frozen_of HB.out 1
        go_wp2_with fail
        (try simp only [Exit.inBlock, Exit.then])
        refine bodyPost_ret (results_cell_row rfl _ _ (X + 1 + 1) 23 #[.int .i64 (a + 1), .int .i64 k] (0, 0) _ rfl (block_set (block_set HB.out 0 _) 1 _) Try.underlying23 rfl (by kernel_rfl)) rfl ?_
        exact ⟨by rw [HE.out], (HK.out.1.setCell (Or.inr (Nat.le_trans HK.out.2 (Nat.le_add_right _ 2))) _).setCell (Or.inr (Nat.le_trans HK.out.2 (Nat.le_add_right _ 2))) _⟩

set_option maxRecDepth 100000 in
set_option maxHeartbeats 4000000 in
theorem awake_any (w : World) : Calls Try.prog 11 #[] w fun e w' => e = .returned (.bool true) ∧ Kept [] w w' := by
  have n1 : nextS 1 2 3 1 = 4 := by decide
  have m1 : mayS 3 1 = true := by decide
  have m2 : mayS 0 8 = false := by decide
  have l1 : lessS 3 1 4 2 = true := by decide
  have l2 : lessS 3 1 3 1 = false := by decide
  have P1 := p_next 1 2 3 1
  have P2 := p_may 3 1
  have P3 := p_may 0 8
  have P4 := p_less 3 1 4 2
  have P5 := p_less 3 1 3 1
  have P6 := num 0
  have E1 : ∀ w, (binOp .eql 23 (.agg #[.int .i64 4, .int .i64 2]) (.agg #[.int .i64 4, .int .i64 2])).run Try.prog w = .ok (.bool true) w := fun w => eq_st 4 2 4 2 w
  rw [n1] at P1
  rw [m1] at P2
  rw [m2] at P3
  rw [l1] at P4
  rw [l2] at P5
  clear n1 m1 m2 l1 l2
  obtain ⟨W, X, HW, HK, x0, x1⟩ := box2 w (.int .i64 3) (.int .i64 1) 23
  go_enter Try.func11, Try.ntmps11
  go_upto_region 2 with fail
  rw [HW.out.1, HW.out.2]
  clear HW
  go_wp2_with fail
  refine (P1 _).mono ?_
  rintro e w1 ⟨rfl, k1⟩
  obtain ⟨V, Y, HV, HK', y0, y1⟩ := box2 w1 (.int .i64 4) (.int .i64 2) 23
  have hc := And.intro (HK'.out.cell (k1.cell x0 (by simp)) (by simp)) (And.intro (HK'.out.cell (k1.cell x1 (by simp)) (by simp)) (And.intro y0 y1))
  have HK : Hid (_) := (HK.out.trans k1 (by simp)).trans HK'.out (by simp)
  clear x0 x1 y0 y1 k1 HK'
  go_upto_region 3 with fail
  rw [HV.out.1, HV.out.2]
  clear HV
  obtain ⟨x0, x1, y0, y1⟩ := hc
  have hc := And.intro x0 (And.intro x1 (And.intro y0 y1))
  go_wp2_with fail
  refine (P2 _).mono ?_
  rintro e w2 ⟨rfl, k1⟩
  obtain ⟨x0, x1, y0, y1⟩ := hc
  have hc := And.intro (k1.cell x0 (by simp)) (And.intro (k1.cell x1 (by simp)) (And.intro (k1.cell y0 (by simp)) (k1.cell y1 (by simp))))
  have HK : Hid (_) := HK.out.trans k1 (by simp)
  clear x0 x1 y0 y1 k1
  obtain ⟨x0, x1, y0, y1⟩ := hc
  have hc := And.intro x0 (And.intro x1 (And.intro y0 y1))
  go_wp2_with fail
  refine (P3 _).mono ?_
  rintro e w3 ⟨rfl, k1⟩
  obtain ⟨x0, x1, y0, y1⟩ := hc
  have hc := And.intro (k1.cell x0 (by simp)) (And.intro (k1.cell x1 (by simp)) (And.intro (k1.cell y0 (by simp)) (k1.cell y1 (by simp))))
  have HK : Hid (_) := HK.out.trans k1 (by simp)
  clear x0 x1 y0 y1 k1
  obtain ⟨x0, x1, y0, y1⟩ := hc
  have hc := And.intro x0 (And.intro x1 (And.intro y0 y1))
  go_wp2_with fail
  refine (P4 _).mono ?_
  rintro e w4 ⟨rfl, k1⟩
  obtain ⟨x0, x1, y0, y1⟩ := hc
  have hc := And.intro (k1.cell x0 (by simp)) (And.intro (k1.cell x1 (by simp)) (And.intro (k1.cell y0 (by simp)) (k1.cell y1 (by simp))))
  have HK : Hid (_) := HK.out.trans k1 (by simp)
  clear x0 x1 y0 y1 k1
  obtain ⟨x0, x1, y0, y1⟩ := hc
  have hc := And.intro x0 (And.intro x1 (And.intro y0 y1))
  go_wp2_with fail
  refine (P5 _).mono ?_
  rintro e w5 ⟨rfl, k1⟩
  obtain ⟨x0, x1, y0, y1⟩ := hc
  have hc := And.intro (k1.cell x0 (by simp)) (And.intro (k1.cell x1 (by simp)) (And.intro (k1.cell y0 (by simp)) (k1.cell y1 (by simp))))
  have HK : Hid (_) := HK.out.trans k1 (by simp)
  clear x0 x1 y0 y1 k1
  obtain ⟨x0, x1, y0, y1⟩ := hc
  have hc := And.intro x0 (And.intro x1 (And.intro y0 y1))
  go_wp2_with fail
  refine (P6 _).mono ?_
  rintro e w6 ⟨rfl, rfl⟩
  go_wp2_with fail
  go_ret
  exact ⟨rfl, HK.out⟩

end Go.Proofs.Ythjhkcdicaiohaa
