/-
  Package stamp: May, Less, Next, and the reference's.
-/
import Derived.Test.YtlecpeofjabndaaBase
import Derived.Laws.StructEq
import Derived.Deep.RegionHeld3
import Derived.Deep.CutRange
import Derived.Deep.CutBlock
namespace Go.Proofs.Ytlecpeofjabndaa
open Go.RowKit
set_option linter.unusedVariables false
set_option linter.unusedSimpArgs false

theorem cellB {w : World} {b i : Nat} {cs : Array Value} {t : TypeId} {m : Nat × Nat} (h : w.heap[b]? = some (.cells cs t m)) : w.cell? ⟨b, i, none⟩ = cs[i]? := by
  unfold World.cell?
  simp [h]

theorem cell_new (w : World) (cs : Array Value) (t : TypeId) (i : Nat) : (w.alloc (.cells cs t (0, 0))).cell? ⟨w.heap.size, i, none⟩ = cs[i]? :=
  cellB (Go.heap_alloc_new w (.cells cs t (0, 0)))

theorem box2 (w : World) (a b : Value) (t : TypeId) : ∃ W X, Hid (w.alloc (.cells #[a, b] t (0, 0)) = W ∧ w.heap.size = X) ∧ Hid (Kept [] w W) ∧ W.cell? ⟨X, 0, none⟩ = some a ∧ W.cell? ⟨X, 1, none⟩ = some b :=
  ⟨_, _, ⟨rfl, rfl⟩, (Kept.refl [] w).alloc _, cell_new _ _ _ _, cell_new _ _ _ _⟩

/-- May a stamp be? -/
def mayS (a k : Int) : Bool := decide (0 ≤ a) && decide (a ≤ 1099511627776) && decide (0 ≤ k) && decide (k < 8)
/-- Is the first less? -/
def lessS (a k b l : Int) : Bool := if a = b then decide (k < l) else decide (a < b)
/-- The next's count. -/
def nextS (a k b l : Int) : Int := if mayS a k && mayS b l then max a b + 1 else a

theorem eq_st (a b x y : Int) (w : World) : (binOp .eql 35 (.agg #[.int .i64 a, .int .i64 b]) (.agg #[.int .i64 x, .int .i64 y])).run Try.prog w = .ok (.bool (a == x && b == y)) w := by
  have u3 := Try.underlying3
  have a3 := Try.isAgg3
  have z3 := Try.sizeOf3
  have hS : Try.prog.underlying 35 = some (.struct (Try.prog.fieldsOf 35)) := by kernel_rfl
  have hp : Try.prog.stoodInHeld 35 = false := by kernel_rfl
  rw [run_eql_struct, show (10000 : Nat) = 9999 + 1 from rfl, run_equalIn_agg w 9999 35 _ _ hS hp]
  simp only [Program.fieldsOf, Try.underlying35]
  go_simp
  by_cases h1 : a = x <;> by_cases h2 : b = y <;> simp [h1, h2]

theorem neq_st (a b x y : Int) (w : World) : (binOp .neq 35 (.agg #[.int .i64 a, .int .i64 b]) (.agg #[.int .i64 x, .int .i64 y])).run Try.prog w = .ok (.bool (!(a == x && b == y))) w := by
  have u3 := Try.underlying3
  have a3 := Try.isAgg3
  have z3 := Try.sizeOf3
  have hS : Try.prog.underlying 35 = some (.struct (Try.prog.fieldsOf 35)) := by kernel_rfl
  have hp : Try.prog.stoodInHeld 35 = false := by kernel_rfl
  rw [run_neq_struct, show (10000 : Nat) = 9999 + 1 from rfl, run_equalIn_agg w 9999 35 _ _ hS hp]
  simp only [Program.fieldsOf, Try.underlying35]
  go_simp
  by_cases h1 : a = x <;> by_cases h2 : b = y <;> simp [h1, h2]

theorem ret_bool {a b : Bool} (h : a = b) : (Ending.returned (.bool a)) = .returned (.bool b) := by rw [h]

set_option maxRecDepth 100000 in
set_option maxHeartbeats 4000000 in
theorem p_may (a k : Int) (w : World) : Calls Try.prog 23 #[.agg #[.int .i64 a, .int .i64 k]] w fun e w' => e = .returned (.bool (mayS a k)) ∧ Kept [] w w' := by
  obtain ⟨W, X, HW, HK, x0, x1⟩ := box2 w (.int .i64 a) (.int .i64 k) 35
  by_cases h1 : (0 : Int) ≤ a
  · by_cases h2 : a ≤ 1099511627776
    · by_cases h3 : (0 : Int) ≤ k
      · have HE : Hid (decide (k < 8) = mayS a k) := by show _ = _; simp [mayS, h1, h2, h3]
        go_enter Try.func23, Try.ntmps23
        go_upto_region 1 with fail
        rw [HW.out.1, HW.out.2]
        go_wp2_with fail
        go_ret
        exact ⟨ret_bool HE.out, HK.out⟩
      · have HE : Hid (false = mayS a k) := by show _ = _; simp [mayS, h3]
        go_enter Try.func23, Try.ntmps23
        go_upto_region 1 with fail
        rw [HW.out.1, HW.out.2]
        go_wp2_with fail
        go_ret
        exact ⟨ret_bool HE.out, HK.out⟩
    · have HE : Hid (false = mayS a k) := by show _ = _; simp [mayS, h2]
      go_enter Try.func23, Try.ntmps23
      go_upto_region 1 with fail
      rw [HW.out.1, HW.out.2]
      go_wp2_with fail
      go_ret
      exact ⟨ret_bool HE.out, HK.out⟩
  · have HE : Hid (false = mayS a k) := by show _ = _; simp [mayS, h1]
    go_enter Try.func23, Try.ntmps23
    go_upto_region 1 with fail
    rw [HW.out.1, HW.out.2]
    go_wp2_with fail
    go_ret
    exact ⟨ret_bool HE.out, HK.out⟩

set_option maxRecDepth 100000 in
set_option maxHeartbeats 4000000 in
theorem r_may (a k : Int) (w : World) : Calls Try.prog 26 #[.agg #[.int .i64 a, .int .i64 k]] w fun e w' => e = .returned (.bool (mayS a k)) ∧ Kept [] w w' := by
  obtain ⟨W, X, HW, HK, x0, x1⟩ := box2 w (.int .i64 a) (.int .i64 k) 35
  by_cases h1 : (0 : Int) ≤ a
  · by_cases h2 : a ≤ 1099511627776
    · by_cases h3 : (0 : Int) ≤ k
      · have HE : Hid (decide (k < 8) = mayS a k) := by show _ = _; simp [mayS, h1, h2, h3]
        go_enter Try.func26, Try.ntmps26
        go_upto_region 1 with fail
        rw [HW.out.1, HW.out.2]
        go_wp2_with fail
        go_ret
        exact ⟨ret_bool HE.out, HK.out⟩
      · have HE : Hid (false = mayS a k) := by show _ = _; simp [mayS, h3]
        go_enter Try.func26, Try.ntmps26
        go_upto_region 1 with fail
        rw [HW.out.1, HW.out.2]
        go_wp2_with fail
        go_ret
        exact ⟨ret_bool HE.out, HK.out⟩
    · have HE : Hid (false = mayS a k) := by show _ = _; simp [mayS, h2]
      go_enter Try.func26, Try.ntmps26
      go_upto_region 1 with fail
      rw [HW.out.1, HW.out.2]
      go_wp2_with fail
      go_ret
      exact ⟨ret_bool HE.out, HK.out⟩
  · have HE : Hid (false = mayS a k) := by show _ = _; simp [mayS, h1]
    go_enter Try.func26, Try.ntmps26
    go_upto_region 1 with fail
    rw [HW.out.1, HW.out.2]
    go_wp2_with fail
    go_ret
    exact ⟨ret_bool HE.out, HK.out⟩

set_option maxRecDepth 100000 in
set_option maxHeartbeats 4000000 in
theorem p_less (a k b l : Int) (w : World) : Calls Try.prog 29 #[.agg #[.int .i64 a, .int .i64 k], .agg #[.int .i64 b, .int .i64 l]] w fun e w' => e = .returned (.bool (lessS a k b l)) ∧ Kept [] w w' := by
  obtain ⟨W, X, HW, HK, x0', x1'⟩ := box2 w (.int .i64 a) (.int .i64 k) 35
  obtain ⟨V, Y, HV, HK', y0, y1⟩ := box2 W (.int .i64 b) (.int .i64 l) 35
  have x0 := HK'.out.cell x0' (by simp)
  have x1 := HK'.out.cell x1' (by simp)
  have HK2 : Hid (Kept [] w V) := HK.out.trans HK'.out (by simp)
  clear x0' x1'
  have hY : Y = X + 1 := by rw [← HV.out.2, ← HW.out.1, ← HW.out.2]; simp
  subst hY
  by_cases h1 : a = b
  · have HE : Hid (decide (k < l) = lessS a k b l) := by show _ = _; simp [lessS, h1]
    have t1 : (a != b) = false := by simp [h1]
    clear h1
    go_enter Try.func29, Try.ntmps29
    go_upto_region 1 with fail
    rw [HW.out.1, HV.out.1, HW.out.2]
    go_wp2_with fail
    go_ret
    exact ⟨ret_bool HE.out, HK2.out⟩
  · have HE : Hid (decide (a < b) = lessS a k b l) := by show _ = _; simp [lessS, h1]
    have t1 : (a != b) = true := by simp [h1]
    clear h1
    go_enter Try.func29, Try.ntmps29
    go_upto_region 1 with fail
    rw [HW.out.1, HV.out.1, HW.out.2]
    go_wp2_with fail
    go_ret
    exact ⟨ret_bool HE.out, HK2.out⟩

set_option maxRecDepth 100000 in
set_option maxHeartbeats 4000000 in
theorem r_less (a k b l : Int) (w : World) : Calls Try.prog 31 #[.agg #[.int .i64 a, .int .i64 k], .agg #[.int .i64 b, .int .i64 l]] w fun e w' => e = .returned (.bool (lessS a k b l)) ∧ Kept [] w w' := by
  obtain ⟨W, X, HW, HK, x0', x1'⟩ := box2 w (.int .i64 a) (.int .i64 k) 35
  obtain ⟨V, Y, HV, HK', y0, y1⟩ := box2 W (.int .i64 b) (.int .i64 l) 35
  have x0 := HK'.out.cell x0' (by simp)
  have x1 := HK'.out.cell x1' (by simp)
  have HK2 : Hid (Kept [] w V) := HK.out.trans HK'.out (by simp)
  clear x0' x1'
  have hY : Y = X + 1 := by rw [← HV.out.2, ← HW.out.1, ← HW.out.2]; simp
  subst hY
  by_cases h1 : a = b
  · have HE : Hid (decide (k < l) = lessS a k b l) := by show _ = _; simp [lessS, h1]
    have t1 : (a != b) = false := by simp [h1]
    clear h1
    go_enter Try.func31, Try.ntmps31
    go_upto_region 1 with fail
    rw [HW.out.1, HV.out.1, HW.out.2]
    go_wp2_with fail
    go_ret
    exact ⟨ret_bool HE.out, HK2.out⟩
  · have HE : Hid (decide (a < b) = lessS a k b l) := by show _ = _; simp [lessS, h1]
    have t1 : (a != b) = true := by simp [h1]
    clear h1
    go_enter Try.func31, Try.ntmps31
    go_upto_region 1 with fail
    rw [HW.out.1, HV.out.1, HW.out.2]
    go_wp2_with fail
    go_ret
    exact ⟨ret_bool HE.out, HK2.out⟩

theorem block_set {w : World} {b : Nat} {cs : Array Value} {t : TypeId} (h : w.heap[b]? = some (.cells cs t (0, 0))) (i : Nat) (v : Value) : (w.setCell ⟨b, i, none⟩ v).heap[b]? = some (.cells (cs.setIfInBounds i v) t (0, 0)) := by
  exact heap_setCell_same _ _ _ _ _ _ h

theorem frozen_of {w : World} {b : Nat} {cs : Array Value} {t : TypeId} (h : w.heap[b]? = some (.cells cs t (0, 0))) (i : Nat) : w.frozen? ⟨b, i, none⟩ = false := by
  simp [World.frozen?, h]

theorem boxes (w : World) (a k b l : Int) : ∃ U X, Hid (((w.alloc (.cells #[.int .i64 a, .int .i64 k] 35 (0, 0))).alloc (.cells #[.int .i64 b, .int .i64 l] 35 (0, 0))).alloc (.cells #[.int .i64 0, .int .i64 0] 35 (0, 0)) = U ∧ w.heap.size = X) ∧ Hid (Kept [] w U ∧ w.heap.size ≤ X) ∧
    (U.cell? ⟨X, 0, none⟩ = some (.int .i64 a) ∧ U.cell? ⟨X, 1, none⟩ = some (.int .i64 k) ∧ U.cell? ⟨X + 1, 0, none⟩ = some (.int .i64 b) ∧ U.cell? ⟨X + 1, 1, none⟩ = some (.int .i64 l)) ∧ Hid (U.heap[X + 1 + 1]? = some (.cells #[.int .i64 0, .int .i64 0] 35 (0, 0))) := by
  have k1 := (Kept.refl [] w).alloc (.cells #[.int .i64 a, .int .i64 k] 35 (0, 0))
  have k2 := (Kept.refl [] (w.alloc (.cells #[.int .i64 a, .int .i64 k] 35 (0, 0)))).alloc (.cells #[.int .i64 b, .int .i64 l] 35 (0, 0))
  have k3 := (Kept.refl [] ((w.alloc (.cells #[.int .i64 a, .int .i64 k] 35 (0, 0))).alloc (.cells #[.int .i64 b, .int .i64 l] 35 (0, 0)))).alloc (.cells #[.int .i64 0, .int .i64 0] 35 (0, 0))
  have k23 := k2.trans k3 (by simp)
  have e1 : (w.alloc (.cells #[.int .i64 a, .int .i64 k] 35 (0, 0))).heap.size = w.heap.size + 1 := by simp
  have e2 : ((w.alloc (.cells #[.int .i64 a, .int .i64 k] 35 (0, 0))).alloc (.cells #[.int .i64 b, .int .i64 l] 35 (0, 0))).heap.size = w.heap.size + 1 + 1 := by simp
  refine ⟨_, _, ⟨rfl, rfl⟩, ⟨k1.trans k23 (by simp), Nat.le_refl _⟩, ⟨k23.cell (cell_new _ _ _ _) (by simp), k23.cell (cell_new _ _ _ _) (by simp), ?_, ?_⟩, ?_⟩
  · rw [← e1]; exact k3.cell (cell_new _ _ _ _) (by simp)
  · rw [← e1]; exact k3.cell (cell_new _ _ _ _) (by simp)
  · show _ = _
    rw [← e2]; exact Go.heap_alloc_new _ _

set_option maxRecDepth 100000 in
set_option maxHeartbeats 4000000 in
theorem p_next (a k b l : Int) (w : World) : Calls Try.prog 24 #[.agg #[.int .i64 a, .int .i64 k], .agg #[.int .i64 b, .int .i64 l]] w fun e w' => e = .returned (.agg #[.int .i64 (nextS a k b l), .int .i64 k]) ∧ Kept [] w w' := by
  have p1 := p_may a k
  have p2 := p_may b l
  obtain ⟨U, X, HU, HK, hc, HB⟩ := boxes w a k b l
  rcases h1 : mayS a k with _ | _
  · rw [h1] at p1
    have HE : Hid (nextS a k b l = a) := by show _ = _; simp [nextS, h1]
    clear h1
    go_enter Try.func24, Try.ntmps24
    go_upto_region 1 with fail
    rw [HU.out.1, HU.out.2]
    clear HU
    go_wp2_with fail
    refine (p1 _).mono ?_
    rintro e w1 ⟨rfl, k1⟩
    obtain ⟨x0, x1, y0, y1⟩ := hc
    have hc := And.intro (k1.cell x0 (by simp)) (And.intro (k1.cell x1 (by simp)) (And.intro (k1.cell y0 (by simp)) (k1.cell y1 (by simp))))
    have HB : Hid (_) := (k1.block _ (lt_of_heap HB.out) (by simp)).trans HB.out
    have HK : Hid (_ ∧ _) := ⟨HK.out.1.trans k1 (by simp), HK.out.2⟩
    clear x0 x1 y0 y1 k1
    obtain ⟨x0, x1, y0, y1⟩ := hc
    have g0 : w1.cell? ⟨X + 1 + 1, 0, none⟩ = some (.int .i64 0) := cellB HB.out
    have g1 : w1.cell? ⟨X + 1 + 1, 1, none⟩ = some (.int .i64 0) := cellB HB.out
    have z0 := frozen_of HB.out 0
    have z1 := frozen_of HB.out 1
    go_wp2_with fail
    (try simp only [Exit.inBlock, Exit.then])
    refine bodyPost_ret (results_cell_row rfl _ _ (X + 1 + 1) 35 #[.int .i64 (a), .int .i64 k] (0, 0) _ rfl (block_set (block_set HB.out 0 _) 1 _) Try.underlying35 rfl (by kernel_rfl)) rfl ?_
    exact ⟨by rw [HE.out], (HK.out.1.setCell (Or.inr (Nat.le_trans HK.out.2 (Nat.le_add_right _ 2))) _).setCell (Or.inr (Nat.le_trans HK.out.2 (Nat.le_add_right _ 2))) _⟩
  · rcases h2 : mayS b l with _ | _
    · rw [h1] at p1
      rw [h2] at p2
      have HE : Hid (nextS a k b l = a) := by show _ = _; simp [nextS, h1, h2]
      clear h1 h2
      go_enter Try.func24, Try.ntmps24
      go_upto_region 1 with fail
      rw [HU.out.1, HU.out.2]
      clear HU
      go_wp2_with fail
      refine (p1 _).mono ?_
      rintro e w1 ⟨rfl, k1⟩
      obtain ⟨x0, x1, y0, y1⟩ := hc
      have hc := And.intro (k1.cell x0 (by simp)) (And.intro (k1.cell x1 (by simp)) (And.intro (k1.cell y0 (by simp)) (k1.cell y1 (by simp))))
      have HB : Hid (_) := (k1.block _ (lt_of_heap HB.out) (by simp)).trans HB.out
      have HK : Hid (_ ∧ _) := ⟨HK.out.1.trans k1 (by simp), HK.out.2⟩
      clear x0 x1 y0 y1 k1
      go_wp2_with fail
      refine (p2 _).mono ?_
      rintro e w2 ⟨rfl, k2⟩
      obtain ⟨x0, x1, y0, y1⟩ := hc
      have hc := And.intro (k2.cell x0 (by simp)) (And.intro (k2.cell x1 (by simp)) (And.intro (k2.cell y0 (by simp)) (k2.cell y1 (by simp))))
      have HB : Hid (_) := (k2.block _ (lt_of_heap HB.out) (by simp)).trans HB.out
      have HK : Hid (_ ∧ _) := ⟨HK.out.1.trans k2 (by simp), HK.out.2⟩
      clear x0 x1 y0 y1 k2
      obtain ⟨x0, x1, y0, y1⟩ := hc
      have g0 : w2.cell? ⟨X + 1 + 1, 0, none⟩ = some (.int .i64 0) := cellB HB.out
      have g1 : w2.cell? ⟨X + 1 + 1, 1, none⟩ = some (.int .i64 0) := cellB HB.out
      have z0 := frozen_of HB.out 0
      have z1 := frozen_of HB.out 1
      go_wp2_with fail
      (try simp only [Exit.inBlock, Exit.then])
      refine bodyPost_ret (results_cell_row rfl _ _ (X + 1 + 1) 35 #[.int .i64 (a), .int .i64 k] (0, 0) _ rfl (block_set (block_set HB.out 0 _) 1 _) Try.underlying35 rfl (by kernel_rfl)) rfl ?_
      exact ⟨by rw [HE.out], (HK.out.1.setCell (Or.inr (Nat.le_trans HK.out.2 (Nat.le_add_right _ 2))) _).setCell (Or.inr (Nat.le_trans HK.out.2 (Nat.le_add_right _ 2))) _⟩
    · rw [h1] at p1
      rw [h2] at p2
      have hq : 0 ≤ a ∧ a ≤ 1099511627776 := by simp [mayS] at h1; omega
      have hq' : 0 ≤ b ∧ b ≤ 1099511627776 := by simp [mayS] at h2; omega
      rcases Int.lt_trichotomy a b with hm | hm | hm
      · have HE : Hid (nextS a k b l = b + 1) := by show _ = _; simp [nextS, h1, h2]; omega
        have hm2 : ¬ b < a := by omega
        have hm3 : a ≤ b := by omega
        clear h1 h2
        go_enter Try.func24, Try.ntmps24
        go_upto_region 1 with fail
        rw [HU.out.1, HU.out.2]
        clear HU
        go_wp2_with fail
        refine (p1 _).mono ?_
        rintro e w1 ⟨rfl, k1⟩
        obtain ⟨x0, x1, y0, y1⟩ := hc
        have hc := And.intro (k1.cell x0 (by simp)) (And.intro (k1.cell x1 (by simp)) (And.intro (k1.cell y0 (by simp)) (k1.cell y1 (by simp))))
        have HB : Hid (_) := (k1.block _ (lt_of_heap HB.out) (by simp)).trans HB.out
        have HK : Hid (_ ∧ _) := ⟨HK.out.1.trans k1 (by simp), HK.out.2⟩
        clear x0 x1 y0 y1 k1
        go_wp2_with fail
        refine (p2 _).mono ?_
        rintro e w2 ⟨rfl, k2⟩
        obtain ⟨x0, x1, y0, y1⟩ := hc
        have hc := And.intro (k2.cell x0 (by simp)) (And.intro (k2.cell x1 (by simp)) (And.intro (k2.cell y0 (by simp)) (k2.cell y1 (by simp))))
        have HB : Hid (_) := (k2.block _ (lt_of_heap HB.out) (by simp)).trans HB.out
        have HK : Hid (_ ∧ _) := ⟨HK.out.1.trans k2 (by simp), HK.out.2⟩
        clear x0 x1 y0 y1 k2
        obtain ⟨x0, x1, y0, y1⟩ := hc
        have g0 : w2.cell? ⟨X + 1 + 1, 0, none⟩ = some (.int .i64 0) := cellB HB.out
        have g1 : w2.cell? ⟨X + 1 + 1, 1, none⟩ = some (.int .i64 0) := cellB HB.out
        have z0 := frozen_of HB.out 0
        have z1 := frozen_of HB.out 1
        go_wp2_with fail
        (try simp only [Exit.inBlock, Exit.then])
        refine bodyPost_ret (results_cell_row rfl _ _ (X + 1 + 1) 35 #[.int .i64 (b + 1), .int .i64 k] (0, 0) _ rfl (block_set (block_set HB.out 0 _) 1 _) Try.underlying35 rfl (by kernel_rfl)) rfl ?_
        exact ⟨by rw [HE.out], (HK.out.1.setCell (Or.inr (Nat.le_trans HK.out.2 (Nat.le_add_right _ 2))) _).setCell (Or.inr (Nat.le_trans HK.out.2 (Nat.le_add_right _ 2))) _⟩
      · subst hm
        have HE : Hid (nextS a k a l = a + 1) := by show _ = _; simp [nextS, h1, h2]
        have hm2 : ¬ a < a := by omega
        have hm3 : a ≤ a := by omega
        clear h1 h2
        go_enter Try.func24, Try.ntmps24
        go_upto_region 1 with fail
        rw [HU.out.1, HU.out.2]
        clear HU
        go_wp2_with fail
        refine (p1 _).mono ?_
        rintro e w1 ⟨rfl, k1⟩
        obtain ⟨x0, x1, y0, y1⟩ := hc
        have hc := And.intro (k1.cell x0 (by simp)) (And.intro (k1.cell x1 (by simp)) (And.intro (k1.cell y0 (by simp)) (k1.cell y1 (by simp))))
        have HB : Hid (_) := (k1.block _ (lt_of_heap HB.out) (by simp)).trans HB.out
        have HK : Hid (_ ∧ _) := ⟨HK.out.1.trans k1 (by simp), HK.out.2⟩
        clear x0 x1 y0 y1 k1
        go_wp2_with fail
        refine (p2 _).mono ?_
        rintro e w2 ⟨rfl, k2⟩
        obtain ⟨x0, x1, y0, y1⟩ := hc
        have hc := And.intro (k2.cell x0 (by simp)) (And.intro (k2.cell x1 (by simp)) (And.intro (k2.cell y0 (by simp)) (k2.cell y1 (by simp))))
        have HB : Hid (_) := (k2.block _ (lt_of_heap HB.out) (by simp)).trans HB.out
        have HK : Hid (_ ∧ _) := ⟨HK.out.1.trans k2 (by simp), HK.out.2⟩
        clear x0 x1 y0 y1 k2
        obtain ⟨x0, x1, y0, y1⟩ := hc
        have g0 : w2.cell? ⟨X + 1 + 1, 0, none⟩ = some (.int .i64 0) := cellB HB.out
        have g1 : w2.cell? ⟨X + 1 + 1, 1, none⟩ = some (.int .i64 0) := cellB HB.out
        have z0 := frozen_of HB.out 0
        have z1 := frozen_of HB.out 1
        go_wp2_with fail
        (try simp only [Exit.inBlock, Exit.then])
        refine bodyPost_ret (results_cell_row rfl _ _ (X + 1 + 1) 35 #[.int .i64 (a + 1), .int .i64 k] (0, 0) _ rfl (block_set (block_set HB.out 0 _) 1 _) Try.underlying35 rfl (by kernel_rfl)) rfl ?_
        exact ⟨by rw [HE.out], (HK.out.1.setCell (Or.inr (Nat.le_trans HK.out.2 (Nat.le_add_right _ 2))) _).setCell (Or.inr (Nat.le_trans HK.out.2 (Nat.le_add_right _ 2))) _⟩
      · have HE : Hid (nextS a k b l = a + 1) := by show _ = _; simp [nextS, h1, h2]; omega
        have hm2 : ¬ a < b := by omega
        have hm3 : ¬ a ≤ b := by omega
        clear h1 h2
        go_enter Try.func24, Try.ntmps24
        go_upto_region 1 with fail
        rw [HU.out.1, HU.out.2]
        clear HU
        go_wp2_with fail
        refine (p1 _).mono ?_
        rintro e w1 ⟨rfl, k1⟩
        obtain ⟨x0, x1, y0, y1⟩ := hc
        have hc := And.intro (k1.cell x0 (by simp)) (And.intro (k1.cell x1 (by simp)) (And.intro (k1.cell y0 (by simp)) (k1.cell y1 (by simp))))
        have HB : Hid (_) := (k1.block _ (lt_of_heap HB.out) (by simp)).trans HB.out
        have HK : Hid (_ ∧ _) := ⟨HK.out.1.trans k1 (by simp), HK.out.2⟩
        clear x0 x1 y0 y1 k1
        go_wp2_with fail
        refine (p2 _).mono ?_
        rintro e w2 ⟨rfl, k2⟩
        obtain ⟨x0, x1, y0, y1⟩ := hc
        have hc := And.intro (k2.cell x0 (by simp)) (And.intro (k2.cell x1 (by simp)) (And.intro (k2.cell y0 (by simp)) (k2.cell y1 (by simp))))
        have HB : Hid (_) := (k2.block _ (lt_of_heap HB.out) (by simp)).trans HB.out
        have HK : Hid (_ ∧ _) := ⟨HK.out.1.trans k2 (by simp), HK.out.2⟩
        clear x0 x1 y0 y1 k2
        obtain ⟨x0, x1, y0, y1⟩ := hc
        have g0 : w2.cell? ⟨X + 1 + 1, 0, none⟩ = some (.int .i64 0) := cellB HB.out
        have g1 : w2.cell? ⟨X + 1 + 1, 1, none⟩ = some (.int .i64 0) := cellB HB.out
        have z0 := frozen_of HB.out 0
        have z1 := frozen_of HB.out 1
        go_wp2_with fail
        (try simp only [Exit.inBlock, Exit.then])
        refine bodyPost_ret (results_cell_row rfl _ _ (X + 1 + 1) 35 #[.int .i64 (a + 1), .int .i64 k] (0, 0) _ rfl (block_set (block_set HB.out 0 _) 1 _) Try.underlying35 rfl (by kernel_rfl)) rfl ?_
        exact ⟨by rw [HE.out], (HK.out.1.setCell (Or.inr (Nat.le_trans HK.out.2 (Nat.le_add_right _ 2))) _).setCell (Or.inr (Nat.le_trans HK.out.2 (Nat.le_add_right _ 2))) _⟩

set_option maxRecDepth 100000 in
set_option maxHeartbeats 4000000 in
theorem r_next (a k b l : Int) (w : World) : Calls Try.prog 27 #[.agg #[.int .i64 a, .int .i64 k], .agg #[.int .i64 b, .int .i64 l]] w fun e w' => e = .returned (.agg #[.int .i64 (nextS a k b l), .int .i64 k]) ∧ Kept [] w w' := by
  have p1 := r_may a k
  have p2 := r_may b l
  obtain ⟨U, X, HU, HK, hc, HB⟩ := boxes w a k b l
  rcases h1 : mayS a k with _ | _
  · rw [h1] at p1
    have HE : Hid (nextS a k b l = a) := by show _ = _; simp [nextS, h1]
    clear h1
    go_enter Try.func27, Try.ntmps27
    go_upto_region 1 with fail
    rw [HU.out.1, HU.out.2]
    clear HU
    go_wp2_with fail
    refine (p1 _).mono ?_
    rintro e w1 ⟨rfl, k1⟩
    obtain ⟨x0, x1, y0, y1⟩ := hc
    have hc := And.intro (k1.cell x0 (by simp)) (And.intro (k1.cell x1 (by simp)) (And.intro (k1.cell y0 (by simp)) (k1.cell y1 (by simp))))
    have HB : Hid (_) := (k1.block _ (lt_of_heap HB.out) (by simp)).trans HB.out
    have HK : Hid (_ ∧ _) := ⟨HK.out.1.trans k1 (by simp), HK.out.2⟩
    clear x0 x1 y0 y1 k1
    obtain ⟨x0, x1, y0, y1⟩ := hc
    have g0 : w1.cell? ⟨X + 1 + 1, 0, none⟩ = some (.int .i64 0) := cellB HB.out
    have g1 : w1.cell? ⟨X + 1 + 1, 1, none⟩ = some (.int .i64 0) := cellB HB.out
    have z0 := frozen_of HB.out 0
    have z1 := frozen_of HB.out 1
    go_wp2_with fail
    (try simp only [Exit.inBlock, Exit.then])
    refine bodyPost_ret (results_cell_row rfl _ _ (X + 1 + 1) 35 #[.int .i64 (a), .int .i64 k] (0, 0) _ rfl (block_set (block_set HB.out 0 _) 1 _) Try.underlying35 rfl (by kernel_rfl)) rfl ?_
    exact ⟨by rw [HE.out], (HK.out.1.setCell (Or.inr (Nat.le_trans HK.out.2 (Nat.le_add_right _ 2))) _).setCell (Or.inr (Nat.le_trans HK.out.2 (Nat.le_add_right _ 2))) _⟩
  · rcases h2 : mayS b l with _ | _
    · rw [h1] at p1
      rw [h2] at p2
      have HE : Hid (nextS a k b l = a) := by show _ = _; simp [nextS, h1, h2]
      clear h1 h2
      go_enter Try.func27, Try.ntmps27
      go_upto_region 1 with fail
      rw [HU.out.1, HU.out.2]
      clear HU
      go_wp2_with fail
      refine (p1 _).mono ?_
      rintro e w1 ⟨rfl, k1⟩
      obtain ⟨x0, x1, y0, y1⟩ := hc
      have hc := And.intro (k1.cell x0 (by simp)) (And.intro (k1.cell x1 (by simp)) (And.intro (k1.cell y0 (by simp)) (k1.cell y1 (by simp))))
      have HB : Hid (_) := (k1.block _ (lt_of_heap HB.out) (by simp)).trans HB.out
      have HK : Hid (_ ∧ _) := ⟨HK.out.1.trans k1 (by simp), HK.out.2⟩
      clear x0 x1 y0 y1 k1
      go_wp2_with fail
      refine (p2 _).mono ?_
      rintro e w2 ⟨rfl, k2⟩
      obtain ⟨x0, x1, y0, y1⟩ := hc
      have hc := And.intro (k2.cell x0 (by simp)) (And.intro (k2.cell x1 (by simp)) (And.intro (k2.cell y0 (by simp)) (k2.cell y1 (by simp))))
      have HB : Hid (_) := (k2.block _ (lt_of_heap HB.out) (by simp)).trans HB.out
      have HK : Hid (_ ∧ _) := ⟨HK.out.1.trans k2 (by simp), HK.out.2⟩
      clear x0 x1 y0 y1 k2
      obtain ⟨x0, x1, y0, y1⟩ := hc
      have g0 : w2.cell? ⟨X + 1 + 1, 0, none⟩ = some (.int .i64 0) := cellB HB.out
      have g1 : w2.cell? ⟨X + 1 + 1, 1, none⟩ = some (.int .i64 0) := cellB HB.out
      have z0 := frozen_of HB.out 0
      have z1 := frozen_of HB.out 1
      go_wp2_with fail
      (try simp only [Exit.inBlock, Exit.then])
      refine bodyPost_ret (results_cell_row rfl _ _ (X + 1 + 1) 35 #[.int .i64 (a), .int .i64 k] (0, 0) _ rfl (block_set (block_set HB.out 0 _) 1 _) Try.underlying35 rfl (by kernel_rfl)) rfl ?_
      exact ⟨by rw [HE.out], (HK.out.1.setCell (Or.inr (Nat.le_trans HK.out.2 (Nat.le_add_right _ 2))) _).setCell (Or.inr (Nat.le_trans HK.out.2 (Nat.le_add_right _ 2))) _⟩
    · rw [h1] at p1
      rw [h2] at p2
      have hq : 0 ≤ a ∧ a ≤ 1099511627776 := by simp [mayS] at h1; omega
      have hq' : 0 ≤ b ∧ b ≤ 1099511627776 := by simp [mayS] at h2; omega
      rcases Int.lt_trichotomy a b with hm | hm | hm
      · have HE : Hid (nextS a k b l = b + 1) := by show _ = _; simp [nextS, h1, h2]; omega
        have hm2 : ¬ b < a := by omega
        have hm3 : a ≤ b := by omega
        clear h1 h2
        go_enter Try.func27, Try.ntmps27
        go_upto_region 1 with fail
        rw [HU.out.1, HU.out.2]
        clear HU
        go_wp2_with fail
        refine (p1 _).mono ?_
        rintro e w1 ⟨rfl, k1⟩
        obtain ⟨x0, x1, y0, y1⟩ := hc
        have hc := And.intro (k1.cell x0 (by simp)) (And.intro (k1.cell x1 (by simp)) (And.intro (k1.cell y0 (by simp)) (k1.cell y1 (by simp))))
        have HB : Hid (_) := (k1.block _ (lt_of_heap HB.out) (by simp)).trans HB.out
        have HK : Hid (_ ∧ _) := ⟨HK.out.1.trans k1 (by simp), HK.out.2⟩
        clear x0 x1 y0 y1 k1
        go_wp2_with fail
        refine (p2 _).mono ?_
        rintro e w2 ⟨rfl, k2⟩
        obtain ⟨x0, x1, y0, y1⟩ := hc
        have hc := And.intro (k2.cell x0 (by simp)) (And.intro (k2.cell x1 (by simp)) (And.intro (k2.cell y0 (by simp)) (k2.cell y1 (by simp))))
        have HB : Hid (_) := (k2.block _ (lt_of_heap HB.out) (by simp)).trans HB.out
        have HK : Hid (_ ∧ _) := ⟨HK.out.1.trans k2 (by simp), HK.out.2⟩
        clear x0 x1 y0 y1 k2
        obtain ⟨x0, x1, y0, y1⟩ := hc
        have g0 : w2.cell? ⟨X + 1 + 1, 0, none⟩ = some (.int .i64 0) := cellB HB.out
        have g1 : w2.cell? ⟨X + 1 + 1, 1, none⟩ = some (.int .i64 0) := cellB HB.out
        have z0 := frozen_of HB.out 0
        have z1 := frozen_of HB.out 1
        go_wp2_with fail
        (try simp only [Exit.inBlock, Exit.then])
        refine bodyPost_ret (results_cell_row rfl _ _ (X + 1 + 1) 35 #[.int .i64 (b + 1), .int .i64 k] (0, 0) _ rfl (block_set (block_set HB.out 0 _) 1 _) Try.underlying35 rfl (by kernel_rfl)) rfl ?_
        exact ⟨by rw [HE.out], (HK.out.1.setCell (Or.inr (Nat.le_trans HK.out.2 (Nat.le_add_right _ 2))) _).setCell (Or.inr (Nat.le_trans HK.out.2 (Nat.le_add_right _ 2))) _⟩
      · subst hm
        have HE : Hid (nextS a k a l = a + 1) := by show _ = _; simp [nextS, h1, h2]
        have hm2 : ¬ a < a := by omega
        have hm3 : a ≤ a := by omega
        clear h1 h2
        go_enter Try.func27, Try.ntmps27
        go_upto_region 1 with fail
        rw [HU.out.1, HU.out.2]
        clear HU
        go_wp2_with fail
        refine (p1 _).mono ?_
        rintro e w1 ⟨rfl, k1⟩
        obtain ⟨x0, x1, y0, y1⟩ := hc
        have hc := And.intro (k1.cell x0 (by simp)) (And.intro (k1.cell x1 (by simp)) (And.intro (k1.cell y0 (by simp)) (k1.cell y1 (by simp))))
        have HB : Hid (_) := (k1.block _ (lt_of_heap HB.out) (by simp)).trans HB.out
        have HK : Hid (_ ∧ _) := ⟨HK.out.1.trans k1 (by simp), HK.out.2⟩
        clear x0 x1 y0 y1 k1
        go_wp2_with fail
        refine (p2 _).mono ?_
        rintro e w2 ⟨rfl, k2⟩
        obtain ⟨x0, x1, y0, y1⟩ := hc
        have hc := And.intro (k2.cell x0 (by simp)) (And.intro (k2.cell x1 (by simp)) (And.intro (k2.cell y0 (by simp)) (k2.cell y1 (by simp))))
        have HB : Hid (_) := (k2.block _ (lt_of_heap HB.out) (by simp)).trans HB.out
        have HK : Hid (_ ∧ _) := ⟨HK.out.1.trans k2 (by simp), HK.out.2⟩
        clear x0 x1 y0 y1 k2
        obtain ⟨x0, x1, y0, y1⟩ := hc
        have g0 : w2.cell? ⟨X + 1 + 1, 0, none⟩ = some (.int .i64 0) := cellB HB.out
        have g1 : w2.cell? ⟨X + 1 + 1, 1, none⟩ = some (.int .i64 0) := cellB HB.out
        have z0 := frozen_of HB.out 0
        have z1 := frozen_of HB.out 1
        go_wp2_with fail
        (try simp only [Exit.inBlock, Exit.then])
        refine bodyPost_ret (results_cell_row rfl _ _ (X + 1 + 1) 35 #[.int .i64 (a + 1), .int .i64 k] (0, 0) _ rfl (block_set (block_set HB.out 0 _) 1 _) Try.underlying35 rfl (by kernel_rfl)) rfl ?_
        exact ⟨by rw [HE.out], (HK.out.1.setCell (Or.inr (Nat.le_trans HK.out.2 (Nat.le_add_right _ 2))) _).setCell (Or.inr (Nat.le_trans HK.out.2 (Nat.le_add_right _ 2))) _⟩
      · have HE : Hid (nextS a k b l = a + 1) := by show _ = _; simp [nextS, h1, h2]; omega
        have hm2 : ¬ a < b := by omega
        have hm3 : ¬ a ≤ b := by omega
        clear h1 h2
        go_enter Try.func27, Try.ntmps27
        go_upto_region 1 with fail
        rw [HU.out.1, HU.out.2]
        clear HU
        go_wp2_with fail
        refine (p1 _).mono ?_
        rintro e w1 ⟨rfl, k1⟩
        obtain ⟨x0, x1, y0, y1⟩ := hc
        have hc := And.intro (k1.cell x0 (by simp)) (And.intro (k1.cell x1 (by simp)) (And.intro (k1.cell y0 (by simp)) (k1.cell y1 (by simp))))
        have HB : Hid (_) := (k1.block _ (lt_of_heap HB.out) (by simp)).trans HB.out
        have HK : Hid (_ ∧ _) := ⟨HK.out.1.trans k1 (by simp), HK.out.2⟩
        clear x0 x1 y0 y1 k1
        go_wp2_with fail
        refine (p2 _).mono ?_
        rintro e w2 ⟨rfl, k2⟩
        obtain ⟨x0, x1, y0, y1⟩ := hc
        have hc := And.intro (k2.cell x0 (by simp)) (And.intro (k2.cell x1 (by simp)) (And.intro (k2.cell y0 (by simp)) (k2.cell y1 (by simp))))
        have HB : Hid (_) := (k2.block _ (lt_of_heap HB.out) (by simp)).trans HB.out
        have HK : Hid (_ ∧ _) := ⟨HK.out.1.trans k2 (by simp), HK.out.2⟩
        clear x0 x1 y0 y1 k2
        obtain ⟨x0, x1, y0, y1⟩ := hc
        have g0 : w2.cell? ⟨X + 1 + 1, 0, none⟩ = some (.int .i64 0) := cellB HB.out
        have g1 : w2.cell? ⟨X + 1 + 1, 1, none⟩ = some (.int .i64 0) := cellB HB.out
        have z0 := frozen_of HB.out 0
        have z1 := frozen_of HB.out 1
        go_wp2_with fail
        (try simp only [Exit.inBlock, Exit.then])
        refine bodyPost_ret (results_cell_row rfl _ _ (X + 1 + 1) 35 #[.int .i64 (a + 1), .int .i64 k] (0, 0) _ rfl (block_set (block_set HB.out 0 _) 1 _) Try.underlying35 rfl (by kernel_rfl)) rfl ?_
        exact ⟨by rw [HE.out], (HK.out.1.setCell (Or.inr (Nat.le_trans HK.out.2 (Nat.le_add_right _ 2))) _).setCell (Or.inr (Nat.le_trans HK.out.2 (Nat.le_add_right _ 2))) _⟩

end Go.Proofs.Ytlecpeofjabndaa
