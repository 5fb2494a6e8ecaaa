/-
  Numbers that no core was given.
-/
import Derived.Test.YtgfdcnjnkljahabDoorWg
namespace Go.Proofs.YtgfdcnjnkljahabDoor
open Go.RowKit Go.Lib Go.Maps
set_option linter.unusedVariables false
set_option linter.unusedSimpArgs false

@[reducible] def Snu0 : Sta := ⟨[⟨1, true, [(⟨#[100]⟩, 2), (⟨#[102]⟩, 3), (⟨#[103]⟩, 3)], ⟨#[]⟩⟩, ⟨2, true, [(⟨#[104]⟩, 10)], ⟨#[]⟩⟩, ⟨3, false, [], ⟨#[116, 104, 114, 101, 101]⟩⟩, ⟨10, false, [], ⟨#[]⟩⟩, ⟨11, false, [], ⟨#[111, 112, 101, 110]⟩⟩], [(1, 2, 11)], [1, 2]⟩
theorem ok_nu0 : okS Snu0 [⟨8, 10, ⟨#[]⟩⟩] = true := by kernel_rfl
theorem few_nu0 : Few Snu0 := few_of (by kernel_rfl)

@[reducible] def Snu1 : Sta := ⟨[⟨1, true, [(⟨#[100]⟩, 2), (⟨#[102]⟩, 3), (⟨#[103]⟩, 3)], ⟨#[]⟩⟩, ⟨2, true, [(⟨#[104]⟩, 10)], ⟨#[]⟩⟩, ⟨3, false, [], ⟨#[116, 104, 114, 101, 101]⟩⟩, ⟨10, false, [], ⟨#[]⟩⟩, ⟨11, false, [], ⟨#[111, 112, 101, 110]⟩⟩], [(1, 2, 11)], [2, 2]⟩
theorem ok_nu1 : okS Snu1 [] = true := by kernel_rfl
theorem few_nu1 : Few Snu1 := few_of (by kernel_rfl)

theorem r_numbers0 (w : World) (a0 : Int) (hk : a0 % 2 = 0) : Calls Tryd.prog 11 #[.int .i64 a0] w fun e w' => ∃ Z, e = .returned (.slice (some ⟨Z, 0, none⟩) 1 1) ∧ w'.heap[Z]? = some (.cells #[.int .i64 8, .int .i64 10, .string ⟨#[]⟩] 37 (0, 0)) ∧ Kept [] w w' := by
  have hb : bits .and .i64 a0 1 = 0 := by rw [i64_and1, hk]
  have hb0 : ((0 : Int) == 0) = true := by rfl
  go_enter Tryd.func11, Tryd.ntmps11
  go_wp2_with fail
  go_ret
  exact ⟨_, rfl, Go.heap_alloc_new _ _, (Kept.refl _ _).alloc _⟩

theorem r_numbers1 (w : World) (a0 : Int) (hk : a0 % 2 = 1) : Calls Tryd.prog 11 #[.int .i64 a0] w fun e w' => e = .returned (.slice none 0 0) ∧ Kept [] w w' := by
  have hb : bits .and .i64 a0 1 = 1 := by rw [i64_and1, hk]
  have hb0 : ((1 : Int) == 0) = false := by rfl
  go_enter Tryd.func11, Tryd.ntmps11
  go_wp2_with fail
  go_ret
  exact ⟨rfl, Kept.refl _ _⟩

set_option maxRecDepth 100000 in
set_option maxHeartbeats 8000000 in
theorem numbers_any (a0 : Int) (w : World) (hT : Tab w) :
    Calls Tryd.prog 4 #[.int .i64 a0] w fun e w' => e = .returned (.bool true) ∧ Kept [] w w' := by
  have HT : Hid (Tab w) := hT
  clear hT
  go_enter Tryd.func4, Tryd.ntmps4
  go_wp2_with fail
  refine (awake_any w HT.out).mono ?_
  rintro e w1 ⟨rfl, k1⟩
  have HK1 : Hid (_) := k1
  clear k1
  go_wp2_with fail
  refine (r_whole _).mono ?_
  rintro e w2 ⟨N, rfl, h2⟩
  obtain ⟨V, X, HV, kv, b1⟩ := one_box w2 #[.slice (some ⟨N + 1 + 1 + 1 + 1, 0, none⟩) 5 5, .slice (some ⟨N + 1, 0, none⟩) 1 1, .slice (some ⟨N, 0, none⟩) 2 2] 27
  have HW : Hid (Wo w1 V N cm0 co0 ca0 cb0 (ci0 N)) := h2.same kv
  have HX : Hid (N + 1 + 1 + 1 + 1 < X) := by have := lt_of_heap h2.hi; have e : w2.heap.size = X := HV.out.2; show _ < _; omega
  have HBx : Hid (V.heap[X]? = some (.cells #[.slice (some ⟨N + 1 + 1 + 1 + 1, 0, none⟩) 5 5, .slice (some ⟨N + 1, 0, none⟩) 1 1, .slice (some ⟨N, 0, none⟩) 2 2] 27 (0, 0))) := b1
  have x0 : V.cell? ⟨X, 0, none⟩ = some (.slice (some ⟨N + 1 + 1 + 1 + 1, 0, none⟩) 5 5) := cellB b1
  have x1 : V.cell? ⟨X, 1, none⟩ = some (.slice (some ⟨N + 1, 0, none⟩) 1 1) := cellB b1
  have x2 : V.cell? ⟨X, 2, none⟩ = some (.slice (some ⟨N, 0, none⟩) 2 2) := cellB b1
  clear h2 kv b1
  go_upto_region 4 with fail
  rw [HV.out.1, HV.out.2]
  clear HV
  have hk : a0 % 2 = 0 ∨ a0 % 2 = 1 := by omega
  have c1 : V.cell? ⟨N, 0, none⟩ = some (.int .i64 3) := by rw [cellB HW.out.hm]; rfl
  have f1 : V.frozen? ⟨N, 0, none⟩ = false := by have := HW.out.hm; simp [World.frozen?, this]
  rcases hk with hk | hk
  · have hb : bits .and .i64 a0 1 = 0 := by rw [i64_and1, hk]
    have hbw : wrap64 (1 + bits .and .i64 a0 1) = 1 := by rw [hb]; kernel_rfl
    obtain ⟨W5, hW5⟩ : ∃ W5, V.setCell ⟨N, 0, none⟩ (.int .i64 1) = W5 := ⟨_, rfl⟩
    have HW5 : Hid (Wo w1 W5 N (cm0.setIfInBounds 0 (.int .i64 1)) co0 ca0 cb0 (ci0 N)) := by rw [← hW5]; exact HW.out.setM 0 (.int .i64 1)
    have HS5 : Hid (Sv W5 ⟨some ⟨N + 1 + 1 + 1 + 1, 0, none⟩, 5, some ⟨N + 1, 0, none⟩, 1, some ⟨N, 0, none⟩, 2⟩ Snu0) := wo_sv HW5.out few_nu0
    have hbx : W5.heap[X]? = some (.cells #[.slice (some ⟨N + 1 + 1 + 1 + 1, 0, none⟩) 5 5, .slice (some ⟨N + 1, 0, none⟩) 1 1, .slice (some ⟨N, 0, none⟩) 2 2] 27 (0, 0)) := by rw [← hW5]; exact far_set HBx.out (by have := HX.out; omega)
    have y0 : W5.cell? ⟨X, 0, none⟩ = some (.slice (some ⟨N + 1 + 1 + 1 + 1, 0, none⟩) 5 5) := cellB hbx
    have y1 : W5.cell? ⟨X, 1, none⟩ = some (.slice (some ⟨N + 1, 0, none⟩) 1 1) := cellB hbx
    have y2 : W5.cell? ⟨X, 2, none⟩ = some (.slice (some ⟨N, 0, none⟩) 2 2) := cellB hbx
    have HWe : Hid (_) := hW5
    have HKw : Hid (Kept [] w W5) := HK1.out.trans HW5.out.kept (by simp)
    clear hbx hW5
    go_upto_region 5 with fail
    (try rw [HWe.out])
    clear HWe x0 x1 x2 c1 f1 hb hbw
    go_wp2_with fail
    refine (p_Checks HS5.out (HT.out.kept HKw.out) ok_nu0).mono ?_
    rintro e w7 ⟨a7, c7, rfl, h7, k7⟩
    have HK7 : Hid (Kept [] w w7) := HKw.out.trans k7 (by simp)
    have HF7 : Hid (FiA w7 a7 [⟨8, 10, ⟨#[]⟩⟩]) := h7
    clear h7 k7 y0 y1 y2
    go_wp2_with fail
    refine (r_numbers0 w7 a0 hk).mono ?_
    rintro e w8 ⟨Z, rfl, b8, k8⟩
    have HSm : Hid (Calls Tryd.prog 9 #[.slice a7 1 c7, .slice (some ⟨Z, 0, none⟩) 1 1] w8 fun e w' => e = .returned (.bool true) ∧ Kept [] w8 w') := same_F (M := [⟨8, 10, ⟨#[]⟩⟩]) c7 1 (by simp) (HF7.out.kept k8) (fia_of (M := [⟨8, 10, ⟨#[]⟩⟩]) b8)
    have HK8 : Hid (Kept [] w w8) := HK7.out.trans k8 (by simp)
    clear k8 b8 HF7 HK7
    go_wp2_with fail
    refine Calls.mono HSm.out ?_
    rintro e w9 ⟨rfl, k9⟩
    have HK9 : Hid (Kept [] w w9) := HK8.out.trans k9 (by simp)
    clear k9 HSm HK8
    go_wp2_with fail
    go_ret
    exact ⟨rfl, HK9.out⟩
  · have hb : bits .and .i64 a0 1 = 1 := by rw [i64_and1, hk]
    have hbw : wrap64 (1 + bits .and .i64 a0 1) = 2 := by rw [hb]; kernel_rfl
    obtain ⟨W5, hW5⟩ : ∃ W5, V.setCell ⟨N, 0, none⟩ (.int .i64 2) = W5 := ⟨_, rfl⟩
    have HW5 : Hid (Wo w1 W5 N (cm0.setIfInBounds 0 (.int .i64 2)) co0 ca0 cb0 (ci0 N)) := by rw [← hW5]; exact HW.out.setM 0 (.int .i64 2)
    have HS5 : Hid (Sv W5 ⟨some ⟨N + 1 + 1 + 1 + 1, 0, none⟩, 5, some ⟨N + 1, 0, none⟩, 1, some ⟨N, 0, none⟩, 2⟩ Snu1) := wo_sv HW5.out few_nu1
    have hbx : W5.heap[X]? = some (.cells #[.slice (some ⟨N + 1 + 1 + 1 + 1, 0, none⟩) 5 5, .slice (some ⟨N + 1, 0, none⟩) 1 1, .slice (some ⟨N, 0, none⟩) 2 2] 27 (0, 0)) := by rw [← hW5]; exact far_set HBx.out (by have := HX.out; omega)
    have y0 : W5.cell? ⟨X, 0, none⟩ = some (.slice (some ⟨N + 1 + 1 + 1 + 1, 0, none⟩) 5 5) := cellB hbx
    have y1 : W5.cell? ⟨X, 1, none⟩ = some (.slice (some ⟨N + 1, 0, none⟩) 1 1) := cellB hbx
    have y2 : W5.cell? ⟨X, 2, none⟩ = some (.slice (some ⟨N, 0, none⟩) 2 2) := cellB hbx
    have HWe : Hid (_) := hW5
    have HKw : Hid (Kept [] w W5) := HK1.out.trans HW5.out.kept (by simp)
    clear hbx hW5
    go_upto_region 5 with fail
    (try rw [HWe.out])
    clear HWe x0 x1 x2 c1 f1 hb hbw
    go_wp2_with fail
    refine (p_Checks HS5.out (HT.out.kept HKw.out) ok_nu1).mono ?_
    rintro e w7 ⟨a7, c7, rfl, h7, k7⟩
    have HK7 : Hid (Kept [] w w7) := HKw.out.trans k7 (by simp)
    have HF7 : Hid (FiA w7 a7 []) := h7
    clear h7 k7 y0 y1 y2
    go_wp2_with fail
    refine (r_numbers1 w7 a0 hk).mono ?_
    rintro e w8 ⟨rfl, k8⟩
    have HSm : Hid (Calls Tryd.prog 9 #[.slice a7 0 c7, .slice none 0 0] w8 fun e w' => e = .returned (.bool true) ∧ Kept [] w8 w') := same_F (M := []) c7 0 (by simp) (HF7.out.kept k8) (fun i hi => by simp at hi)
    have HK8 : Hid (Kept [] w w8) := HK7.out.trans k8 (by simp)
    clear k8 HF7 HK7
    go_wp2_with fail
    refine Calls.mono HSm.out ?_
    rintro e w9 ⟨rfl, k9⟩
    have HK9 : Hid (Kept [] w w9) := HK8.out.trans k9 (by simp)
    clear k9 HSm HK8
    go_wp2_with fail
    go_ret
    exact ⟨rfl, HK9.out⟩

end Go.Proofs.YtgfdcnjnkljahabDoor
