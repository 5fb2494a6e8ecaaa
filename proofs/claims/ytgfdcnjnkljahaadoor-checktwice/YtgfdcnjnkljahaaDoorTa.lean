/-
  A directory of two names.
-/
import Derived.Test.YtgfdcnjnkljahaaDoorWg
namespace Go.Proofs.YtgfdcnjnkljahaaDoor
open Go.RowKit Go.Lib Go.Maps
set_option linter.unusedVariables false
set_option linter.unusedSimpArgs false

@[reducible] def Stw0 : Sta := ⟨[⟨1, true, [(⟨#[100]⟩, 2), (⟨#[102]⟩, 2), (⟨#[103]⟩, 3)], ⟨#[]⟩⟩, ⟨2, true, [(⟨#[104]⟩, 10)], ⟨#[]⟩⟩, ⟨3, false, [], ⟨#[116, 104, 114, 101, 101]⟩⟩, ⟨10, false, [], ⟨#[]⟩⟩, ⟨11, false, [], ⟨#[111, 112, 101, 110]⟩⟩], [(1, 2, 11)], [3, 2]⟩
theorem ok_tw0 : okS Stw0 [⟨3, 2, ⟨#[]⟩⟩] = true := by kernel_rfl
theorem few_tw0 : Few Stw0 := few_of (by kernel_rfl)

@[reducible] def Stw1 : Sta := ⟨[⟨1, true, [(⟨#[100]⟩, 2), (⟨#[102]⟩, 3), (⟨#[103]⟩, 2)], ⟨#[]⟩⟩, ⟨2, true, [(⟨#[104]⟩, 10)], ⟨#[]⟩⟩, ⟨3, false, [], ⟨#[116, 104, 114, 101, 101]⟩⟩, ⟨10, false, [], ⟨#[]⟩⟩, ⟨11, false, [], ⟨#[111, 112, 101, 110]⟩⟩], [(1, 2, 11)], [3, 2]⟩
theorem ok_tw1 : okS Stw1 [⟨3, 2, ⟨#[]⟩⟩] = true := by kernel_rfl
theorem few_tw1 : Few Stw1 := few_of (by kernel_rfl)

set_option maxRecDepth 100000 in
set_option maxHeartbeats 8000000 in
theorem twice_any (a0 : Int) (w : World) (hT : Tab w) :
    Calls Tryd.prog 5 #[.int .i64 a0] w fun e w' => e = .returned (.bool true) ∧ Kept [] w w' := by
  have HT : Hid (Tab w) := hT
  clear hT
  go_enter Tryd.func5, Tryd.ntmps5
  go_wp2_with fail
  refine (awake_any w HT.out).mono ?_
  rintro e w1 ⟨rfl, k1⟩
  have HK1 : Hid (_) := k1
  clear k1
  go_wp2_with fail
  refine (r_whole _).mono ?_
  rintro e w2 ⟨N, rfl, h2⟩
  obtain ⟨V, X, HV, kv, b1⟩ := one_box w2 #[.slice (some ⟨N + 1 + 1 + 1 + 1, 0, none⟩) 5 5, .slice (some ⟨N + 1, 0, none⟩) 1 1, .slice (some ⟨N, 0, none⟩) 2 2] 27
  have HW : Hid (Wo w1 V N cm0 co0 ca0 cb0 (ci0 N)) := h2.same kv
  have HX : Hid (N + 1 + 1 + 1 + 1 < X) := by have := lt_of_heap h2.hi; have e : w2.heap.size = X := HV.out.2; show _ < _; omega
  have HBx : Hid (V.heap[X]? = some (.cells #[.slice (some ⟨N + 1 + 1 + 1 + 1, 0, none⟩) 5 5, .slice (some ⟨N + 1, 0, none⟩) 1 1, .slice (some ⟨N, 0, none⟩) 2 2] 27 (0, 0))) := b1
  have x0 : V.cell? ⟨X, 0, none⟩ = some (.slice (some ⟨N + 1 + 1 + 1 + 1, 0, none⟩) 5 5) := cellB b1
  have x1 : V.cell? ⟨X, 1, none⟩ = some (.slice (some ⟨N + 1, 0, none⟩) 1 1) := cellB b1
  have x2 : V.cell? ⟨X, 2, none⟩ = some (.slice (some ⟨N, 0, none⟩) 2 2) := cellB b1
  have i2 : V.cell? ⟨N + 1 + 1 + 1 + 1, 2, none⟩ = some (.slice (some ⟨N + 1 + 1, 0, none⟩) 3 3) := by rw [cellB HW.out.hi]; rfl
  have hw1 : wrap64 1 = 1 := by kernel_rfl
  have hw2 : wrap64 (1 + 1) = 2 := by kernel_rfl
  clear h2 kv b1
  go_upto_region 4 with fail
  rw [HV.out.1, HV.out.2]
  clear HV
  have hk : a0 % 2 = 0 ∨ a0 % 2 = 1 := by omega
  rcases hk with hk | hk
  · have hb : bits .and .i64 a0 1 = 0 := by rw [i64_and1, hk]
    have hbw : wrap64 (1 + bits .and .i64 a0 1) = 1 := by rw [hb]; kernel_rfl
    have c3 : V.cell? ⟨N + 1 + 1, 3, none⟩ = some (.int .i64 3) := by rw [cellB HW.out.ha]; rfl
    have f3 : V.frozen? ⟨N + 1 + 1, 3, none⟩ = false := by have := HW.out.ha; simp [World.frozen?, this]
    obtain ⟨W5, hW5⟩ : ∃ W5, V.setCell ⟨N + 1 + 1, 3, none⟩ (.int .i64 2) = W5 := ⟨_, rfl⟩
    have HW5 : Hid (Wo w1 W5 N cm0 co0 (ca0.setIfInBounds 3 (.int .i64 2)) cb0 (ci0 N)) := by rw [← hW5]; exact HW.out.setA 3 (.int .i64 2)
    have HS5 : Hid (Sv W5 ⟨some ⟨N + 1 + 1 + 1 + 1, 0, none⟩, 5, some ⟨N + 1, 0, none⟩, 1, some ⟨N, 0, none⟩, 2⟩ Stw0) := wo_sv HW5.out few_tw0
    have hbx : W5.heap[X]? = some (.cells #[.slice (some ⟨N + 1 + 1 + 1 + 1, 0, none⟩) 5 5, .slice (some ⟨N + 1, 0, none⟩) 1 1, .slice (some ⟨N, 0, none⟩) 2 2] 27 (0, 0)) := by rw [← hW5]; exact far_set HBx.out (by have := HX.out; omega)
    have y0 : W5.cell? ⟨X, 0, none⟩ = some (.slice (some ⟨N + 1 + 1 + 1 + 1, 0, none⟩) 5 5) := cellB hbx
    have y1 : W5.cell? ⟨X, 1, none⟩ = some (.slice (some ⟨N + 1, 0, none⟩) 1 1) := cellB hbx
    have y2 : W5.cell? ⟨X, 2, none⟩ = some (.slice (some ⟨N, 0, none⟩) 2 2) := cellB hbx
    have HWe : Hid (_) := hW5
    have HKw : Hid (Kept [] w W5) := HK1.out.trans HW5.out.kept (by simp)
    clear hbx hW5
    go_upto_region 5 with fail
    (try rw [HWe.out])
    clear HWe x0 x1 x2 i2 hb hbw c3 f3 hw1 hw2
    go_wp2_with fail
    refine (p_Checks HS5.out (HT.out.kept HKw.out) ok_tw0).mono ?_
    rintro e w7 ⟨a7, c7, rfl, h7, k7⟩
    have HK7 : Hid (Kept [] w w7) := HKw.out.trans k7 (by simp)
    have HF7 : Hid (FiA w7 a7 [⟨3, 2, ⟨#[]⟩⟩]) := h7
    clear h7 k7 y0 y1 y2
    obtain ⟨V8, Z, HV8, kv8, b8⟩ := one_box w7 #[.int .i64 3, .int .i64 2, .string ⟨#[]⟩] 42
    have HSm : Hid (Calls Tryd.prog 10 #[.slice a7 1 c7, .slice (some ⟨Z, 0, none⟩) 1 1] V8 fun e w' => e = .returned (.bool true) ∧ Kept [] V8 w') := same_F (M := [⟨3, 2, ⟨#[]⟩⟩]) c7 1 (by simp) (HF7.out.kept kv8) (fia_of (M := [⟨3, 2, ⟨#[]⟩⟩]) b8)
    have HK8 : Hid (Kept [] w V8) := HK7.out.trans kv8 (by simp)
    clear kv8 b8 HF7 HK7
    go_wp2_with fail
    rw [HV8.out.1, HV8.out.2]
    refine Calls.mono HSm.out ?_
    rintro e w9 ⟨rfl, k9⟩
    have HK9 : Hid (Kept [] w w9) := HK8.out.trans k9 (by simp)
    clear k9 HSm HK8 HV8
    go_wp2_with fail
    go_ret
    exact ⟨rfl, HK9.out⟩
  · have hb : bits .and .i64 a0 1 = 1 := by rw [i64_and1, hk]
    have hbw : wrap64 (1 + bits .and .i64 a0 1) = 2 := by rw [hb]; kernel_rfl
    have c3 : V.cell? ⟨N + 1 + 1, 5, none⟩ = some (.int .i64 3) := by rw [cellB HW.out.ha]; rfl
    have f3 : V.frozen? ⟨N + 1 + 1, 5, none⟩ = false := by have := HW.out.ha; simp [World.frozen?, this]
    obtain ⟨W5, hW5⟩ : ∃ W5, V.setCell ⟨N + 1 + 1, 5, none⟩ (.int .i64 2) = W5 := ⟨_, rfl⟩
    have HW5 : Hid (Wo w1 W5 N cm0 co0 (ca0.setIfInBounds 5 (.int .i64 2)) cb0 (ci0 N)) := by rw [← hW5]; exact HW.out.setA 5 (.int .i64 2)
    have HS5 : Hid (Sv W5 ⟨some ⟨N + 1 + 1 + 1 + 1, 0, none⟩, 5, some ⟨N + 1, 0, none⟩, 1, some ⟨N, 0, none⟩, 2⟩ Stw1) := wo_sv HW5.out few_tw1
    have hbx : W5.heap[X]? = some (.cells #[.slice (some ⟨N + 1 + 1 + 1 + 1, 0, none⟩) 5 5, .slice (some ⟨N + 1, 0, none⟩) 1 1, .slice (some ⟨N, 0, none⟩) 2 2] 27 (0, 0)) := by rw [← hW5]; exact far_set HBx.out (by have := HX.out; omega)
    have y0 : W5.cell? ⟨X, 0, none⟩ = some (.slice (some ⟨N + 1 + 1 + 1 + 1, 0, none⟩) 5 5) := cellB hbx
    have y1 : W5.cell? ⟨X, 1, none⟩ = some (.slice (some ⟨N + 1, 0, none⟩) 1 1) := cellB hbx
    have y2 : W5.cell? ⟨X, 2, none⟩ = some (.slice (some ⟨N, 0, none⟩) 2 2) := cellB hbx
    have HWe : Hid (_) := hW5
    have HKw : Hid (Kept [] w W5) := HK1.out.trans HW5.out.kept (by simp)
    clear hbx hW5
    go_upto_region 5 with fail
    (try rw [HWe.out])
    clear HWe x0 x1 x2 i2 hb hbw c3 f3 hw1 hw2
    go_wp2_with fail
    refine (p_Checks HS5.out (HT.out.kept HKw.out) ok_tw1).mono ?_
    rintro e w7 ⟨a7, c7, rfl, h7, k7⟩
    have HK7 : Hid (Kept [] w w7) := HKw.out.trans k7 (by simp)
    have HF7 : Hid (FiA w7 a7 [⟨3, 2, ⟨#[]⟩⟩]) := h7
    clear h7 k7 y0 y1 y2
    obtain ⟨V8, Z, HV8, kv8, b8⟩ := one_box w7 #[.int .i64 3, .int .i64 2, .string ⟨#[]⟩] 42
    have HSm : Hid (Calls Tryd.prog 10 #[.slice a7 1 c7, .slice (some ⟨Z, 0, none⟩) 1 1] V8 fun e w' => e = .returned (.bool true) ∧ Kept [] V8 w') := same_F (M := [⟨3, 2, ⟨#[]⟩⟩]) c7 1 (by simp) (HF7.out.kept kv8) (fia_of (M := [⟨3, 2, ⟨#[]⟩⟩]) b8)
    have HK8 : Hid (Kept [] w V8) := HK7.out.trans kv8 (by simp)
    clear kv8 b8 HF7 HK7
    go_wp2_with fail
    rw [HV8.out.1, HV8.out.2]
    refine Calls.mono HSm.out ?_
    rintro e w9 ⟨rfl, k9⟩
    have HK9 : Hid (Kept [] w w9) := HK8.out.trans k9 (by simp)
    clear k9 HSm HK8 HV8
    go_wp2_with fail
    go_ret
    exact ⟨rfl, HK9.out⟩

end Go.Proofs.YtgfdcnjnkljahaaDoor
