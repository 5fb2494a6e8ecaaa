/-
  Inodes that do not stand in their row.
-/
import Derived.Test.YtgfdcnjnkljahaaDoorWg
namespace Go.Proofs.YtgfdcnjnkljahaaDoor
open Go.RowKit Go.Lib Go.Maps
set_option linter.unusedVariables false
set_option linter.unusedSimpArgs false

@[reducible] def Sro0 : Sta := ⟨[⟨1, true, [(⟨#[100]⟩, 2), (⟨#[102]⟩, 3), (⟨#[103]⟩, 3)], ⟨#[]⟩⟩, ⟨2, true, [(⟨#[104]⟩, 11)], ⟨#[]⟩⟩, ⟨3, false, [], ⟨#[116, 104, 114, 101, 101]⟩⟩, ⟨11, false, [], ⟨#[]⟩⟩, ⟨10, false, [], ⟨#[111, 112, 101, 110]⟩⟩], [(1, 2, 10)], [3, 2]⟩
theorem ok_ro0 : okS Sro0 [⟨1, 10, ⟨#[]⟩⟩] = true := by kernel_rfl
theorem few_ro0 : Few Sro0 := few_of (by kernel_rfl)

@[reducible] def Sro1 : Sta := ⟨[⟨1, true, [(⟨#[100]⟩, 2), (⟨#[102]⟩, 3), (⟨#[103]⟩, 3)], ⟨#[]⟩⟩, ⟨2, true, [(⟨#[104]⟩, 11)], ⟨#[]⟩⟩, ⟨3, false, [], ⟨#[116, 104, 114, 101, 101]⟩⟩, ⟨11, false, [], ⟨#[]⟩⟩, ⟨11, false, [], ⟨#[111, 112, 101, 110]⟩⟩], [(1, 2, 11)], [3, 2]⟩
theorem ok_ro1 : okS Sro1 [⟨1, 11, ⟨#[]⟩⟩] = true := by kernel_rfl
theorem few_ro1 : Few Sro1 := few_of (by kernel_rfl)

theorem r_rowed0 (w : World) (a0 : Int) (hk : a0 % 2 = 0) : Calls Tryd.prog 12 #[.int .i64 a0] w fun e w' => ∃ Z, e = .returned (.slice (some ⟨Z, 0, none⟩) 1 1) ∧ w'.heap[Z]? = some (.cells #[.int .i64 1, .int .i64 10, .string ⟨#[]⟩] 42 (0, 0)) ∧ Kept [] w w' := by
  have hb : bits .and .i64 a0 1 = 0 := by rw [i64_and1, hk]
  have hb0 : ((0 : Int) == 0) = true := by rfl
  go_enter Tryd.func12, Tryd.ntmps12
  go_wp2_with fail
  go_ret
  exact ⟨_, rfl, Go.heap_alloc_new _ _, (Kept.refl _ _).alloc _⟩

theorem r_rowed1 (w : World) (a0 : Int) (hk : a0 % 2 = 1) : Calls Tryd.prog 12 #[.int .i64 a0] w fun e w' => ∃ Z, e = .returned (.slice (some ⟨Z, 0, none⟩) 1 1) ∧ w'.heap[Z]? = some (.cells #[.int .i64 1, .int .i64 11, .string ⟨#[]⟩] 42 (0, 0)) ∧ Kept [] w w' := by
  have hb : bits .and .i64 a0 1 = 1 := by rw [i64_and1, hk]
  have hb0 : ((1 : Int) == 0) = false := by rfl
  go_enter Tryd.func12, Tryd.ntmps12
  go_wp2_with fail
  go_ret
  exact ⟨_, rfl, Go.heap_alloc_new _ _, (Kept.refl _ _).alloc _⟩

set_option maxRecDepth 100000 in
set_option maxHeartbeats 8000000 in
theorem rows_any (a0 : Int) (w : World) (hT : Tab w) :
    Calls Tryd.prog 3 #[.int .i64 a0] w fun e w' => e = .returned (.bool true) ∧ Kept [] w w' := by
  have HT : Hid (Tab w) := hT
  clear hT
  go_enter Tryd.func3, Tryd.ntmps3
  go_wp2_with fail
  refine (awake_any w HT.out).mono ?_
  rintro e w1 ⟨rfl, k1⟩
  have HK1 : Hid (_) := k1
  clear k1
  go_wp2_with fail
  refine (r_whole _).mono ?_
  rintro e w2 ⟨N, rfl, h2⟩
  obtain ⟨V, X, HV, kv, b1⟩ := one_box w2 #[.slice (some ⟨N + 1 + 1 + 1 + 1, 0, none⟩) 5 5, .slice (some ⟨N + 1, 0, none⟩) 1 1, .slice (some ⟨N, 0, none⟩) 2 2] 27
  have HW : Hid (Wo w1 V N cm0 co0 ca0 cb0 (ci0 N)) := h2.same kv
  have HX : Hid (N + 1 + 1 + 1 + 1 < X) := by have := lt_of_heap h2.hi; have e : w2.heap.size = X := HV.out.2; show _ < _; omega
  have HBx : Hid (V.heap[X]? = some (.cells #[.slice (some ⟨N + 1 + 1 + 1 + 1, 0, none⟩) 5 5, .slice (some ⟨N + 1, 0, none⟩) 1 1, .slice (some ⟨N, 0, none⟩) 2 2] 27 (0, 0))) := b1
  have x0 : V.cell? ⟨X, 0, none⟩ = some (.slice (some ⟨N + 1 + 1 + 1 + 1, 0, none⟩) 5 5) := cellB b1
  have x1 : V.cell? ⟨X, 1, none⟩ = some (.slice (some ⟨N + 1, 0, none⟩) 1 1) := cellB b1
  have x2 : V.cell? ⟨X, 2, none⟩ = some (.slice (some ⟨N, 0, none⟩) 2 2) := cellB b1
  have c1 : V.cell? ⟨N + 1 + 1 + 1 + 1, 12, none⟩ = some (.int .i64 10) := by rw [cellB HW.out.hi]; rfl
  have f1 : V.frozen? ⟨N + 1 + 1 + 1 + 1, 12, none⟩ = false := by have := HW.out.hi; simp [World.frozen?, this]
  obtain ⟨W1, hW1⟩ : ∃ W1, V.setCell ⟨N + 1 + 1 + 1 + 1, 12, none⟩ (.int .i64 11) = W1 := ⟨_, rfl⟩
  clear h2 kv b1
  go_upto_region 4 with fail
  rw [HV.out.1, HV.out.2]
  clear HV
  have HW1 : Hid (Wo w1 W1 N cm0 co0 ca0 cb0 ((ci0 N).setIfInBounds 12 (.int .i64 11))) := by rw [← hW1]; exact HW.out.setI 12 (.int .i64 11)
  have hbx1 : W1.heap[X]? = some (.cells #[.slice (some ⟨N + 1 + 1 + 1 + 1, 0, none⟩) 5 5, .slice (some ⟨N + 1, 0, none⟩) 1 1, .slice (some ⟨N, 0, none⟩) 2 2] 27 (0, 0)) := by rw [← hW1]; exact far_set HBx.out (by have := HX.out; omega)
  go_upto_region 5 with fail
  (try rw [hW1])
  have HBx1 : Hid (_) := hbx1
  clear hW1 c1 f1 x0 x1 x2 HW hbx1
  have hk : a0 % 2 = 0 ∨ a0 % 2 = 1 := by omega
  have x0 : W1.cell? ⟨X, 0, none⟩ = some (.slice (some ⟨N + 1 + 1 + 1 + 1, 0, none⟩) 5 5) := cellB HBx1.out
  have c1 : W1.cell? ⟨N + 1 + 1 + 1 + 1, 16, none⟩ = some (.int .i64 11) := by rw [cellB HW1.out.hi]; rfl
  have f1 : W1.frozen? ⟨N + 1 + 1 + 1 + 1, 16, none⟩ = false := by have := HW1.out.hi; simp [World.frozen?, this]
  rcases hk with hk | hk
  · have hb : bits .and .i64 a0 1 = 0 := by rw [i64_and1, hk]
    have hbw : wrap64 (10 + bits .and .i64 a0 1) = 10 := by rw [hb]; kernel_rfl
    have hbe : ((0 : Int) == 0) = true := by rfl
    obtain ⟨W2, hW2⟩ : ∃ W2, W1.setCell ⟨N + 1 + 1 + 1 + 1, 16, none⟩ (.int .i64 10) = W2 := ⟨_, rfl⟩
    have HW2 : Hid (Wo w1 W2 N cm0 co0 ca0 cb0 (((ci0 N).setIfInBounds 12 (.int .i64 11)).setIfInBounds 16 (.int .i64 10))) := by rw [← hW2]; exact HW1.out.setI 16 (.int .i64 10)
    have hbx2 : W2.heap[X]? = some (.cells #[.slice (some ⟨N + 1 + 1 + 1 + 1, 0, none⟩) 5 5, .slice (some ⟨N + 1, 0, none⟩) 1 1, .slice (some ⟨N, 0, none⟩) 2 2] 27 (0, 0)) := by rw [← hW2]; exact far_set HBx1.out (by have := HX.out; omega)
    go_upto_region 6 with fail
    (try rw [hW2])
    have HBx2 : Hid (_) := hbx2
    clear hW2 c1 f1 x0 HW1 hbx2 HBx1
    have x0 : W2.cell? ⟨X, 0, none⟩ = some (.slice (some ⟨N + 1 + 1 + 1 + 1, 0, none⟩) 5 5) := cellB HBx2.out
    have c2 : W2.cell? ⟨N + 1 + 1 + 1 + 1, 6, none⟩ = some (.slice (some ⟨N + 1 + 1 + 1, 0, none⟩) 1 1) := by rw [cellB HW2.out.hi]; rfl
    have c1 : W2.cell? ⟨N + 1 + 1 + 1, 1, none⟩ = some (.int .i64 10) := by rw [cellB HW2.out.hb]; rfl
    have f1 : W2.frozen? ⟨N + 1 + 1 + 1, 1, none⟩ = false := by have := HW2.out.hb; simp [World.frozen?, this]
    obtain ⟨W3, hW3⟩ : ∃ W3, W2.setCell ⟨N + 1 + 1 + 1, 1, none⟩ (.int .i64 11) = W3 := ⟨_, rfl⟩
    have HW3 : Hid (Wo w1 W3 N cm0 co0 ca0 (cb0.setIfInBounds 1 (.int .i64 11)) (((ci0 N).setIfInBounds 12 (.int .i64 11)).setIfInBounds 16 (.int .i64 10))) := by rw [← hW3]; exact HW2.out.setB 1 (.int .i64 11)
    have hbx3 : W3.heap[X]? = some (.cells #[.slice (some ⟨N + 1 + 1 + 1 + 1, 0, none⟩) 5 5, .slice (some ⟨N + 1, 0, none⟩) 1 1, .slice (some ⟨N, 0, none⟩) 2 2] 27 (0, 0)) := by rw [← hW3]; exact far_set HBx2.out (by have := HX.out; omega)
    go_upto_region 7 with fail
    (try rw [hW3])
    have HBx3 : Hid (_) := hbx3
    clear hW3 c1 c2 f1 x0 HW2 hbx3 HBx2
    have x1 : W3.cell? ⟨X, 1, none⟩ = some (.slice (some ⟨N + 1, 0, none⟩) 1 1) := cellB HBx3.out
    have c1 : W3.cell? ⟨N + 1, 2, none⟩ = some (.int .i64 11) := by rw [cellB HW3.out.ho]; rfl
    have f1 : W3.frozen? ⟨N + 1, 2, none⟩ = false := by have := HW3.out.ho; simp [World.frozen?, this]
    obtain ⟨W4, hW4⟩ : ∃ W4, W3.setCell ⟨N + 1, 2, none⟩ (.int .i64 11) = W4 := ⟨_, rfl⟩
    have HW4 : Hid (Wo w1 W4 N cm0 (co0.setIfInBounds 2 (.int .i64 11)) ca0 (cb0.setIfInBounds 1 (.int .i64 11)) (((ci0 N).setIfInBounds 12 (.int .i64 11)).setIfInBounds 16 (.int .i64 10))) := by rw [← hW4]; exact HW3.out.setO 2 (.int .i64 11)
    have hbx4 : W4.heap[X]? = some (.cells #[.slice (some ⟨N + 1 + 1 + 1 + 1, 0, none⟩) 5 5, .slice (some ⟨N + 1, 0, none⟩) 1 1, .slice (some ⟨N, 0, none⟩) 2 2] 27 (0, 0)) := by rw [← hW4]; exact far_set HBx3.out (by have := HX.out; omega)
    go_upto_region 8 with fail
    (try rw [hW4])
    have HBx4 : Hid (_) := hbx4
    clear hW4 c1 f1 x1 HW3 hbx4 HBx3
    have x1 : W4.cell? ⟨X, 1, none⟩ = some (.slice (some ⟨N + 1, 0, none⟩) 1 1) := cellB HBx4.out
    have c1 : W4.cell? ⟨N + 1, 2, none⟩ = some (.int .i64 11) := by rw [cellB HW4.out.ho]; rfl
    have f1 : W4.frozen? ⟨N + 1, 2, none⟩ = false := by have := HW4.out.ho; simp [World.frozen?, this]
    obtain ⟨W5, hW5⟩ : ∃ W5, W4.setCell ⟨N + 1, 2, none⟩ (.int .i64 10) = W5 := ⟨_, rfl⟩
    have HW5 : Hid (Wo w1 W5 N cm0 ((co0.setIfInBounds 2 (.int .i64 11)).setIfInBounds 2 (.int .i64 10)) ca0 (cb0.setIfInBounds 1 (.int .i64 11)) (((ci0 N).setIfInBounds 12 (.int .i64 11)).setIfInBounds 16 (.int .i64 10))) := by rw [← hW5]; exact HW4.out.setO 2 (.int .i64 10)
    have HS5 : Hid (Sv W5 ⟨some ⟨N + 1 + 1 + 1 + 1, 0, none⟩, 5, some ⟨N + 1, 0, none⟩, 1, some ⟨N, 0, none⟩, 2⟩ Sro0) := wo_sv HW5.out few_ro0
    have hbx : W5.heap[X]? = some (.cells #[.slice (some ⟨N + 1 + 1 + 1 + 1, 0, none⟩) 5 5, .slice (some ⟨N + 1, 0, none⟩) 1 1, .slice (some ⟨N, 0, none⟩) 2 2] 27 (0, 0)) := by rw [← hW5]; exact far_set HBx4.out (by have := HX.out; omega)
    have y0 : W5.cell? ⟨X, 0, none⟩ = some (.slice (some ⟨N + 1 + 1 + 1 + 1, 0, none⟩) 5 5) := cellB hbx
    have y1 : W5.cell? ⟨X, 1, none⟩ = some (.slice (some ⟨N + 1, 0, none⟩) 1 1) := cellB hbx
    have y2 : W5.cell? ⟨X, 2, none⟩ = some (.slice (some ⟨N, 0, none⟩) 2 2) := cellB hbx
    have HWe : Hid (_) := hW5
    have HKw : Hid (Kept [] w W5) := HK1.out.trans HW5.out.kept (by simp)
    clear hbx hW5
    go_upto_region 10 with fail
    (try rw [HWe.out])
    clear x1 c1 f1 HWe
    clear hb hbw hbe
    go_wp2_with fail
    refine (p_Checks HS5.out (HT.out.kept HKw.out) ok_ro0).mono ?_
    rintro e w7 ⟨a7, c7, rfl, h7, k7⟩
    have HK7 : Hid (Kept [] w w7) := HKw.out.trans k7 (by simp)
    have HF7 : Hid (FiA w7 a7 [⟨1, 10, ⟨#[]⟩⟩]) := h7
    clear h7 k7 y0 y1 y2
    go_wp2_with fail
    refine (r_rowed0 w7 a0 hk).mono ?_
    rintro e w8 ⟨Z, rfl, b8, k8⟩
    have HSm : Hid (Calls Tryd.prog 10 #[.slice a7 1 c7, .slice (some ⟨Z, 0, none⟩) 1 1] w8 fun e w' => e = .returned (.bool true) ∧ Kept [] w8 w') := same_F (M := [⟨1, 10, ⟨#[]⟩⟩]) c7 1 (by simp) (HF7.out.kept k8) (fia_of (M := [⟨1, 10, ⟨#[]⟩⟩]) b8)
    have HK8 : Hid (Kept [] w w8) := HK7.out.trans k8 (by simp)
    clear k8 b8 HF7 HK7
    go_wp2_with fail
    refine Calls.mono HSm.out ?_
    rintro e w9 ⟨rfl, k9⟩
    have HK9 : Hid (Kept [] w w9) := HK8.out.trans k9 (by simp)
    clear k9 HSm HK8
    go_wp2_with fail
    go_ret
    exact ⟨rfl, HK9.out⟩
  · have hb : bits .and .i64 a0 1 = 1 := by rw [i64_and1, hk]
    have hbw : wrap64 (10 + bits .and .i64 a0 1) = 11 := by rw [hb]; kernel_rfl
    have hbe : ((1 : Int) == 0) = false := by rfl
    obtain ⟨W2, hW2⟩ : ∃ W2, W1.setCell ⟨N + 1 + 1 + 1 + 1, 16, none⟩ (.int .i64 11) = W2 := ⟨_, rfl⟩
    have HW2 : Hid (Wo w1 W2 N cm0 co0 ca0 cb0 (((ci0 N).setIfInBounds 12 (.int .i64 11)).setIfInBounds 16 (.int .i64 11))) := by rw [← hW2]; exact HW1.out.setI 16 (.int .i64 11)
    have hbx2 : W2.heap[X]? = some (.cells #[.slice (some ⟨N + 1 + 1 + 1 + 1, 0, none⟩) 5 5, .slice (some ⟨N + 1, 0, none⟩) 1 1, .slice (some ⟨N, 0, none⟩) 2 2] 27 (0, 0)) := by rw [← hW2]; exact far_set HBx1.out (by have := HX.out; omega)
    go_upto_region 6 with fail
    (try rw [hW2])
    have HBx2 : Hid (_) := hbx2
    clear hW2 c1 f1 x0 HW1 hbx2 HBx1
    have x0 : W2.cell? ⟨X, 0, none⟩ = some (.slice (some ⟨N + 1 + 1 + 1 + 1, 0, none⟩) 5 5) := cellB HBx2.out
    have c2 : W2.cell? ⟨N + 1 + 1 + 1 + 1, 6, none⟩ = some (.slice (some ⟨N + 1 + 1 + 1, 0, none⟩) 1 1) := by rw [cellB HW2.out.hi]; rfl
    have c1 : W2.cell? ⟨N + 1 + 1 + 1, 1, none⟩ = some (.int .i64 10) := by rw [cellB HW2.out.hb]; rfl
    have f1 : W2.frozen? ⟨N + 1 + 1 + 1, 1, none⟩ = false := by have := HW2.out.hb; simp [World.frozen?, this]
    obtain ⟨W3, hW3⟩ : ∃ W3, W2.setCell ⟨N + 1 + 1 + 1, 1, none⟩ (.int .i64 11) = W3 := ⟨_, rfl⟩
    have HW3 : Hid (Wo w1 W3 N cm0 co0 ca0 (cb0.setIfInBounds 1 (.int .i64 11)) (((ci0 N).setIfInBounds 12 (.int .i64 11)).setIfInBounds 16 (.int .i64 11))) := by rw [← hW3]; exact HW2.out.setB 1 (.int .i64 11)
    have hbx3 : W3.heap[X]? = some (.cells #[.slice (some ⟨N + 1 + 1 + 1 + 1, 0, none⟩) 5 5, .slice (some ⟨N + 1, 0, none⟩) 1 1, .slice (some ⟨N, 0, none⟩) 2 2] 27 (0, 0)) := by rw [← hW3]; exact far_set HBx2.out (by have := HX.out; omega)
    go_upto_region 7 with fail
    (try rw [hW3])
    have HBx3 : Hid (_) := hbx3
    clear hW3 c1 c2 f1 x0 HW2 hbx3 HBx2
    have x1 : W3.cell? ⟨X, 1, none⟩ = some (.slice (some ⟨N + 1, 0, none⟩) 1 1) := cellB HBx3.out
    have c1 : W3.cell? ⟨N + 1, 2, none⟩ = some (.int .i64 11) := by rw [cellB HW3.out.ho]; rfl
    have f1 : W3.frozen? ⟨N + 1, 2, none⟩ = false := by have := HW3.out.ho; simp [World.frozen?, this]
    obtain ⟨W4, hW4⟩ : ∃ W4, W3.setCell ⟨N + 1, 2, none⟩ (.int .i64 11) = W4 := ⟨_, rfl⟩
    have HW4 : Hid (Wo w1 W4 N cm0 (co0.setIfInBounds 2 (.int .i64 11)) ca0 (cb0.setIfInBounds 1 (.int .i64 11)) (((ci0 N).setIfInBounds 12 (.int .i64 11)).setIfInBounds 16 (.int .i64 11))) := by rw [← hW4]; exact HW3.out.setO 2 (.int .i64 11)
    have hbx4 : W4.heap[X]? = some (.cells #[.slice (some ⟨N + 1 + 1 + 1 + 1, 0, none⟩) 5 5, .slice (some ⟨N + 1, 0, none⟩) 1 1, .slice (some ⟨N, 0, none⟩) 2 2] 27 (0, 0)) := by rw [← hW4]; exact far_set HBx3.out (by have := HX.out; omega)
    go_upto_region 8 with fail
    (try rw [hW4])
    have HBx4 : Hid (_) := hbx4
    clear hW4 c1 f1 x1 HW3 hbx4 HBx3
    obtain ⟨W5, hW5⟩ : ∃ W5, W4 = W5 := ⟨_, rfl⟩
    have HW5 : Hid (Wo w1 W5 N cm0 (co0.setIfInBounds 2 (.int .i64 11)) ca0 (cb0.setIfInBounds 1 (.int .i64 11)) (((ci0 N).setIfInBounds 12 (.int .i64 11)).setIfInBounds 16 (.int .i64 11))) := by rw [← hW5]; exact HW4.out
    have HS5 : Hid (Sv W5 ⟨some ⟨N + 1 + 1 + 1 + 1, 0, none⟩, 5, some ⟨N + 1, 0, none⟩, 1, some ⟨N, 0, none⟩, 2⟩ Sro1) := wo_sv HW5.out few_ro1
    have hbx : W5.heap[X]? = some (.cells #[.slice (some ⟨N + 1 + 1 + 1 + 1, 0, none⟩) 5 5, .slice (some ⟨N + 1, 0, none⟩) 1 1, .slice (some ⟨N, 0, none⟩) 2 2] 27 (0, 0)) := by rw [← hW5]; exact HBx4.out
    have y0 : W5.cell? ⟨X, 0, none⟩ = some (.slice (some ⟨N + 1 + 1 + 1 + 1, 0, none⟩) 5 5) := cellB hbx
    have y1 : W5.cell? ⟨X, 1, none⟩ = some (.slice (some ⟨N + 1, 0, none⟩) 1 1) := cellB hbx
    have y2 : W5.cell? ⟨X, 2, none⟩ = some (.slice (some ⟨N, 0, none⟩) 2 2) := cellB hbx
    have HWe : Hid (_) := hW5
    have HKw : Hid (Kept [] w W5) := HK1.out.trans HW5.out.kept (by simp)
    clear hbx hW5
    go_upto_region 10 with fail
    (try rw [HWe.out])
    clear HWe
    clear hb hbw hbe
    go_wp2_with fail
    refine (p_Checks HS5.out (HT.out.kept HKw.out) ok_ro1).mono ?_
    rintro e w7 ⟨a7, c7, rfl, h7, k7⟩
    have HK7 : Hid (Kept [] w w7) := HKw.out.trans k7 (by simp)
    have HF7 : Hid (FiA w7 a7 [⟨1, 11, ⟨#[]⟩⟩]) := h7
    clear h7 k7 y0 y1 y2
    go_wp2_with fail
    refine (r_rowed1 w7 a0 hk).mono ?_
    rintro e w8 ⟨Z, rfl, b8, k8⟩
    have HSm : Hid (Calls Tryd.prog 10 #[.slice a7 1 c7, .slice (some ⟨Z, 0, none⟩) 1 1] w8 fun e w' => e = .returned (.bool true) ∧ Kept [] w8 w') := same_F (M := [⟨1, 11, ⟨#[]⟩⟩]) c7 1 (by simp) (HF7.out.kept k8) (fia_of (M := [⟨1, 11, ⟨#[]⟩⟩]) b8)
    have HK8 : Hid (Kept [] w w8) := HK7.out.trans k8 (by simp)
    clear k8 b8 HF7 HK7
    go_wp2_with fail
    refine Calls.mono HSm.out ?_
    rintro e w9 ⟨rfl, k9⟩
    have HK9 : Hid (Kept [] w w9) := HK8.out.trans k9 (by simp)
    clear k9 HSm HK8
    go_wp2_with fail
    go_ret
    exact ⟨rfl, HK9.out⟩

end Go.Proofs.YtgfdcnjnkljahaaDoor
