/-
  An entry of what is not there, or of the root.
-/
import Derived.Test.YtgfdcnjnkljahaaDoorWg
namespace Go.Proofs.YtgfdcnjnkljahaaDoor
open Go.RowKit Go.Lib Go.Maps
set_option linter.unusedVariables false
set_option linter.unusedSimpArgs false

@[reducible] def Smi0 : Sta := ⟨[⟨1, true, [(⟨#[100]⟩, 2), (⟨#[102]⟩, 77), (⟨#[103]⟩, 3)], ⟨#[]⟩⟩, ⟨2, true, [(⟨#[104]⟩, 10)], ⟨#[]⟩⟩, ⟨3, false, [], ⟨#[116, 104, 114, 101, 101]⟩⟩, ⟨10, false, [], ⟨#[]⟩⟩, ⟨11, false, [], ⟨#[111, 112, 101, 110]⟩⟩], [(1, 2, 11)], [3, 2]⟩
theorem ok_mi0 : okS Smi0 [⟨2, 1, ⟨#[102]⟩⟩] = true := by kernel_rfl
theorem few_mi0 : Few Smi0 := few_of (by kernel_rfl)

@[reducible] def Smi1 : Sta := ⟨[⟨1, true, [(⟨#[100]⟩, 2), (⟨#[102]⟩, 1), (⟨#[103]⟩, 3)], ⟨#[]⟩⟩, ⟨2, true, [(⟨#[104]⟩, 10)], ⟨#[]⟩⟩, ⟨3, false, [], ⟨#[116, 104, 114, 101, 101]⟩⟩, ⟨10, false, [], ⟨#[]⟩⟩, ⟨11, false, [], ⟨#[111, 112, 101, 110]⟩⟩], [(1, 2, 11)], [3, 2]⟩
theorem ok_mi1 : okS Smi1 [⟨2, 1, ⟨#[102]⟩⟩] = true := by kernel_rfl
theorem few_mi1 : Few Smi1 := few_of (by kernel_rfl)

@[reducible] def Smi2 : Sta := ⟨[⟨1, true, [(⟨#[100]⟩, 2), (⟨#[102]⟩, 0), (⟨#[103]⟩, 3)], ⟨#[]⟩⟩, ⟨2, true, [(⟨#[104]⟩, 10)], ⟨#[]⟩⟩, ⟨3, false, [], ⟨#[116, 104, 114, 101, 101]⟩⟩, ⟨10, false, [], ⟨#[]⟩⟩, ⟨11, false, [], ⟨#[111, 112, 101, 110]⟩⟩], [(1, 2, 11)], [3, 2]⟩
theorem ok_mi2 : okS Smi2 [⟨2, 1, ⟨#[102]⟩⟩] = true := by kernel_rfl
theorem few_mi2 : Few Smi2 := few_of (by kernel_rfl)

@[reducible] def Smi3 : Sta := ⟨[⟨1, true, [(⟨#[100]⟩, 2), (⟨#[102]⟩, (-5)), (⟨#[103]⟩, 3)], ⟨#[]⟩⟩, ⟨2, true, [(⟨#[104]⟩, 10)], ⟨#[]⟩⟩, ⟨3, false, [], ⟨#[116, 104, 114, 101, 101]⟩⟩, ⟨10, false, [], ⟨#[]⟩⟩, ⟨11, false, [], ⟨#[111, 112, 101, 110]⟩⟩], [(1, 2, 11)], [3, 2]⟩
theorem ok_mi3 : okS Smi3 [⟨2, 1, ⟨#[102]⟩⟩] = true := by kernel_rfl
theorem few_mi3 : Few Smi3 := few_of (by kernel_rfl)

set_option maxRecDepth 100000 in
set_option maxHeartbeats 8000000 in
theorem missing_any (a0 : Int) (w : World) (hT : Tab w) :
    Calls Tryd.prog 4 #[.int .i64 a0] w fun e w' => e = .returned (.bool true) ∧ Kept [] w w' := by
  have HT : Hid (Tab w) := hT
  clear hT
  go_enter Tryd.func4, Tryd.ntmps4
  go_wp2_with fail
  refine (awake_any w HT.out).mono ?_
  rintro e w1 ⟨rfl, k1⟩
  have HK1 : Hid (_) := k1
  clear k1
  go_wp2_with fail
  refine (r_whole _).mono ?_
  rintro e w2 ⟨N, rfl, h2⟩
  obtain ⟨V, X, HV, kv, b1⟩ := one_box w2 #[.slice (some ⟨N + 1 + 1 + 1 + 1, 0, none⟩) 5 5, .slice (some ⟨N + 1, 0, none⟩) 1 1, .slice (some ⟨N, 0, none⟩) 2 2] 27
  have HW : Hid (Wo w1 V N cm0 co0 ca0 cb0 (ci0 N)) := h2.same kv
  have HX : Hid (N + 1 + 1 + 1 + 1 < X) := by have := lt_of_heap h2.hi; have e : w2.heap.size = X := HV.out.2; show _ < _; omega
  have HBx : Hid (V.heap[X]? = some (.cells #[.slice (some ⟨N + 1 + 1 + 1 + 1, 0, none⟩) 5 5, .slice (some ⟨N + 1, 0, none⟩) 1 1, .slice (some ⟨N, 0, none⟩) 2 2] 27 (0, 0))) := b1
  have x0 : V.cell? ⟨X, 0, none⟩ = some (.slice (some ⟨N + 1 + 1 + 1 + 1, 0, none⟩) 5 5) := cellB b1
  have x1 : V.cell? ⟨X, 1, none⟩ = some (.slice (some ⟨N + 1, 0, none⟩) 1 1) := cellB b1
  have x2 : V.cell? ⟨X, 2, none⟩ = some (.slice (some ⟨N, 0, none⟩) 2 2) := cellB b1
  have i2 : V.cell? ⟨N + 1 + 1 + 1 + 1, 2, none⟩ = some (.slice (some ⟨N + 1 + 1, 0, none⟩) 3 3) := by rw [cellB HW.out.hi]; rfl
  clear h2 kv b1
  go_upto_region 4 with fail
  rw [HV.out.1, HV.out.2]
  clear HV
  have hk : a0 % 4 = 0 ∨ a0 % 4 = 1 ∨ a0 % 4 = 2 ∨ a0 % 4 = 3 := by omega
  rcases hk with hk | hk | hk | hk
  · have hb : bits .and .i64 a0 3 = 0 := by rw [i64_and3, hk]
    obtain ⟨V4, L, HV4, kv4, b4⟩ := one_box V #[.int .i64 77, .int .i64 1, .int .i64 0, .int .i64 (-5)] 3
    have HL : Hid (_) := kv4
    have c3 : V.cell? ⟨N + 1 + 1, 3, none⟩ = some (.int .i64 3) := by rw [cellB HW.out.ha]; rfl
    have f3 : V.frozen? ⟨N + 1 + 1, 3, none⟩ = false := by have := HW.out.ha; simp [World.frozen?, this]
    have HW4 : Hid (_) := HW.out.same kv4
    have hbx4 : V4.heap[X]? = some (.cells #[.slice (some ⟨N + 1 + 1 + 1 + 1, 0, none⟩) 5 5, .slice (some ⟨N + 1, 0, none⟩) 1 1, .slice (some ⟨N, 0, none⟩) 2 2] 27 (0, 0)) := by rw [kv4.block _ (lt_of_heap HBx.out) (by simp)]; exact HBx.out
    have HBx4 : Hid (_) := hbx4
    clear hbx4
    have x0' : (V.alloc (.cells #[.int .i64 77, .int .i64 1, .int .i64 0, .int .i64 (-5)] 3 (0, 0))).cell? ⟨X, 0, none⟩ = some (.slice (some ⟨N + 1 + 1 + 1 + 1, 0, none⟩) 5 5) := by rw [HV4.out.1]; exact kv4.cell x0 (by simp)
    have i2' : (V.alloc (.cells #[.int .i64 77, .int .i64 1, .int .i64 0, .int .i64 (-5)] 3 (0, 0))).cell? ⟨N + 1 + 1 + 1 + 1, 2, none⟩ = some (.slice (some ⟨N + 1 + 1, 0, none⟩) 3 3) := by rw [HV4.out.1]; exact kv4.cell i2 (by simp)
    have c3' : (V.alloc (.cells #[.int .i64 77, .int .i64 1, .int .i64 0, .int .i64 (-5)] 3 (0, 0))).cell? ⟨N + 1 + 1, 3, none⟩ = some (.int .i64 3) := by rw [HV4.out.1]; exact kv4.cell c3 (by simp)
    have f3' : (V.alloc (.cells #[.int .i64 77, .int .i64 1, .int .i64 0, .int .i64 (-5)] 3 (0, 0))).frozen? ⟨N + 1 + 1, 3, none⟩ = false := by rw [HV4.out.1]; have := (HW.out.same kv4).ha; simp [World.frozen?, this]
    clear kv4
    go_region
    rw [HV4.out.1]
    obtain ⟨W5, hW5⟩ : ∃ W5, (V4.setCell ⟨N + 1 + 1, 3, none⟩ (.int .i64 77)).drew = W5 := ⟨_, rfl⟩
    have HW5 : Hid (Wo w1 W5 N cm0 co0 (ca0.setIfInBounds 3 (.int .i64 77)) cb0 (ci0 N)) := by rw [← hW5]; exact (HW4.out.setA 3 (.int .i64 77)).same ((Kept.refl _ _).drew)
    have HS5 : Hid (Sv W5 ⟨some ⟨N + 1 + 1 + 1 + 1, 0, none⟩, 5, some ⟨N + 1, 0, none⟩, 1, some ⟨N, 0, none⟩, 2⟩ Smi0) := wo_sv HW5.out few_mi0
    have hbx : W5.heap[X]? = some (.cells #[.slice (some ⟨N + 1 + 1 + 1 + 1, 0, none⟩) 5 5, .slice (some ⟨N + 1, 0, none⟩) 1 1, .slice (some ⟨N, 0, none⟩) 2 2] 27 (0, 0)) := by rw [← hW5, ((Kept.refl [] _).drew).block _ (by simp; exact lt_of_heap HBx4.out) (by simp)]; exact far_set HBx4.out (by have := HX.out; omega)
    have y0 : W5.cell? ⟨X, 0, none⟩ = some (.slice (some ⟨N + 1 + 1 + 1 + 1, 0, none⟩) 5 5) := cellB hbx
    have y1 : W5.cell? ⟨X, 1, none⟩ = some (.slice (some ⟨N + 1, 0, none⟩) 1 1) := cellB hbx
    have y2 : W5.cell? ⟨X, 2, none⟩ = some (.slice (some ⟨N, 0, none⟩) 2 2) := cellB hbx
    have HWe : Hid (_) := hW5
    have HKw : Hid (Kept [] w W5) := HK1.out.trans HW5.out.kept (by simp)
    clear hbx hW5
    rw [HWe.out]
    clear HWe x0 x1 x2 i2 x0' i2' c3' f3' hb c3 f3 HV4
    go_wp2_with fail
    refine (p_Checks HS5.out (HT.out.kept HKw.out) ok_mi0).mono ?_
    rintro e w7 ⟨a7, c7, rfl, h7, k7⟩
    have HK7 : Hid (Kept [] w w7) := HKw.out.trans k7 (by simp)
    have HF7 : Hid (FiA w7 a7 [⟨2, 1, ⟨#[102]⟩⟩]) := h7
    clear h7 k7 y0 y1 y2
    obtain ⟨V8, Z, HV8, kv8, b8⟩ := one_box w7 #[.int .i64 2, .int .i64 1, .string ⟨#[102]⟩] 42
    have HSm : Hid (Calls Tryd.prog 10 #[.slice a7 1 c7, .slice (some ⟨Z, 0, none⟩) 1 1] V8 fun e w' => e = .returned (.bool true) ∧ Kept [] V8 w') := same_F (M := [⟨2, 1, ⟨#[102]⟩⟩]) c7 1 (by simp) (HF7.out.kept kv8) (fia_of (M := [⟨2, 1, ⟨#[102]⟩⟩]) b8)
    have HK8 : Hid (Kept [] w V8) := HK7.out.trans kv8 (by simp)
    clear kv8 b8 HF7 HK7
    go_wp2_with fail
    rw [HV8.out.1, HV8.out.2]
    refine Calls.mono HSm.out ?_
    rintro e w9 ⟨rfl, k9⟩
    have HK9 : Hid (Kept [] w w9) := HK8.out.trans k9 (by simp)
    clear k9 HSm HK8 HV8
    go_wp2_with fail
    go_ret
    exact ⟨rfl, HK9.out⟩
  · have hb : bits .and .i64 a0 3 = 1 := by rw [i64_and3, hk]
    obtain ⟨V4, L, HV4, kv4, b4⟩ := one_box V #[.int .i64 77, .int .i64 1, .int .i64 0, .int .i64 (-5)] 3
    have HL : Hid (_) := kv4
    have c3 : V.cell? ⟨N + 1 + 1, 3, none⟩ = some (.int .i64 3) := by rw [cellB HW.out.ha]; rfl
    have f3 : V.frozen? ⟨N + 1 + 1, 3, none⟩ = false := by have := HW.out.ha; simp [World.frozen?, this]
    have HW4 : Hid (_) := HW.out.same kv4
    have hbx4 : V4.heap[X]? = some (.cells #[.slice (some ⟨N + 1 + 1 + 1 + 1, 0, none⟩) 5 5, .slice (some ⟨N + 1, 0, none⟩) 1 1, .slice (some ⟨N, 0, none⟩) 2 2] 27 (0, 0)) := by rw [kv4.block _ (lt_of_heap HBx.out) (by simp)]; exact HBx.out
    have HBx4 : Hid (_) := hbx4
    clear hbx4
    have x0' : (V.alloc (.cells #[.int .i64 77, .int .i64 1, .int .i64 0, .int .i64 (-5)] 3 (0, 0))).cell? ⟨X, 0, none⟩ = some (.slice (some ⟨N + 1 + 1 + 1 + 1, 0, none⟩) 5 5) := by rw [HV4.out.1]; exact kv4.cell x0 (by simp)
    have i2' : (V.alloc (.cells #[.int .i64 77, .int .i64 1, .int .i64 0, .int .i64 (-5)] 3 (0, 0))).cell? ⟨N + 1 + 1 + 1 + 1, 2, none⟩ = some (.slice (some ⟨N + 1 + 1, 0, none⟩) 3 3) := by rw [HV4.out.1]; exact kv4.cell i2 (by simp)
    have c3' : (V.alloc (.cells #[.int .i64 77, .int .i64 1, .int .i64 0, .int .i64 (-5)] 3 (0, 0))).cell? ⟨N + 1 + 1, 3, none⟩ = some (.int .i64 3) := by rw [HV4.out.1]; exact kv4.cell c3 (by simp)
    have f3' : (V.alloc (.cells #[.int .i64 77, .int .i64 1, .int .i64 0, .int .i64 (-5)] 3 (0, 0))).frozen? ⟨N + 1 + 1, 3, none⟩ = false := by rw [HV4.out.1]; have := (HW.out.same kv4).ha; simp [World.frozen?, this]
    clear kv4
    go_region
    rw [HV4.out.1]
    obtain ⟨W5, hW5⟩ : ∃ W5, (V4.setCell ⟨N + 1 + 1, 3, none⟩ (.int .i64 1)).drew = W5 := ⟨_, rfl⟩
    have HW5 : Hid (Wo w1 W5 N cm0 co0 (ca0.setIfInBounds 3 (.int .i64 1)) cb0 (ci0 N)) := by rw [← hW5]; exact (HW4.out.setA 3 (.int .i64 1)).same ((Kept.refl _ _).drew)
    have HS5 : Hid (Sv W5 ⟨some ⟨N + 1 + 1 + 1 + 1, 0, none⟩, 5, some ⟨N + 1, 0, none⟩, 1, some ⟨N, 0, none⟩, 2⟩ Smi1) := wo_sv HW5.out few_mi1
    have hbx : W5.heap[X]? = some (.cells #[.slice (some ⟨N + 1 + 1 + 1 + 1, 0, none⟩) 5 5, .slice (some ⟨N + 1, 0, none⟩) 1 1, .slice (some ⟨N, 0, none⟩) 2 2] 27 (0, 0)) := by rw [← hW5, ((Kept.refl [] _).drew).block _ (by simp; exact lt_of_heap HBx4.out) (by simp)]; exact far_set HBx4.out (by have := HX.out; omega)
    have y0 : W5.cell? ⟨X, 0, none⟩ = some (.slice (some ⟨N + 1 + 1 + 1 + 1, 0, none⟩) 5 5) := cellB hbx
    have y1 : W5.cell? ⟨X, 1, none⟩ = some (.slice (some ⟨N + 1, 0, none⟩) 1 1) := cellB hbx
    have y2 : W5.cell? ⟨X, 2, none⟩ = some (.slice (some ⟨N, 0, none⟩) 2 2) := cellB hbx
    have HWe : Hid (_) := hW5
    have HKw : Hid (Kept [] w W5) := HK1.out.trans HW5.out.kept (by simp)
    clear hbx hW5
    rw [HWe.out]
    clear HWe x0 x1 x2 i2 x0' i2' c3' f3' hb c3 f3 HV4
    go_wp2_with fail
    refine (p_Checks HS5.out (HT.out.kept HKw.out) ok_mi1).mono ?_
    rintro e w7 ⟨a7, c7, rfl, h7, k7⟩
    have HK7 : Hid (Kept [] w w7) := HKw.out.trans k7 (by simp)
    have HF7 : Hid (FiA w7 a7 [⟨2, 1, ⟨#[102]⟩⟩]) := h7
    clear h7 k7 y0 y1 y2
    obtain ⟨V8, Z, HV8, kv8, b8⟩ := one_box w7 #[.int .i64 2, .int .i64 1, .string ⟨#[102]⟩] 42
    have HSm : Hid (Calls Tryd.prog 10 #[.slice a7 1 c7, .slice (some ⟨Z, 0, none⟩) 1 1] V8 fun e w' => e = .returned (.bool true) ∧ Kept [] V8 w') := same_F (M := [⟨2, 1, ⟨#[102]⟩⟩]) c7 1 (by simp) (HF7.out.kept kv8) (fia_of (M := [⟨2, 1, ⟨#[102]⟩⟩]) b8)
    have HK8 : Hid (Kept [] w V8) := HK7.out.trans kv8 (by simp)
    clear kv8 b8 HF7 HK7
    go_wp2_with fail
    rw [HV8.out.1, HV8.out.2]
    refine Calls.mono HSm.out ?_
    rintro e w9 ⟨rfl, k9⟩
    have HK9 : Hid (Kept [] w w9) := HK8.out.trans k9 (by simp)
    clear k9 HSm HK8 HV8
    go_wp2_with fail
    go_ret
    exact ⟨rfl, HK9.out⟩
  · have hb : bits .and .i64 a0 3 = 2 := by rw [i64_and3, hk]
    obtain ⟨V4, L, HV4, kv4, b4⟩ := one_box V #[.int .i64 77, .int .i64 1, .int .i64 0, .int .i64 (-5)] 3
    have HL : Hid (_) := kv4
    have c3 : V.cell? ⟨N + 1 + 1, 3, none⟩ = some (.int .i64 3) := by rw [cellB HW.out.ha]; rfl
    have f3 : V.frozen? ⟨N + 1 + 1, 3, none⟩ = false := by have := HW.out.ha; simp [World.frozen?, this]
    have HW4 : Hid (_) := HW.out.same kv4
    have hbx4 : V4.heap[X]? = some (.cells #[.slice (some ⟨N + 1 + 1 + 1 + 1, 0, none⟩) 5 5, .slice (some ⟨N + 1, 0, none⟩) 1 1, .slice (some ⟨N, 0, none⟩) 2 2] 27 (0, 0)) := by rw [kv4.block _ (lt_of_heap HBx.out) (by simp)]; exact HBx.out
    have HBx4 : Hid (_) := hbx4
    clear hbx4
    have x0' : (V.alloc (.cells #[.int .i64 77, .int .i64 1, .int .i64 0, .int .i64 (-5)] 3 (0, 0))).cell? ⟨X, 0, none⟩ = some (.slice (some ⟨N + 1 + 1 + 1 + 1, 0, none⟩) 5 5) := by rw [HV4.out.1]; exact kv4.cell x0 (by simp)
    have i2' : (V.alloc (.cells #[.int .i64 77, .int .i64 1, .int .i64 0, .int .i64 (-5)] 3 (0, 0))).cell? ⟨N + 1 + 1 + 1 + 1, 2, none⟩ = some (.slice (some ⟨N + 1 + 1, 0, none⟩) 3 3) := by rw [HV4.out.1]; exact kv4.cell i2 (by simp)
    have c3' : (V.alloc (.cells #[.int .i64 77, .int .i64 1, .int .i64 0, .int .i64 (-5)] 3 (0, 0))).cell? ⟨N + 1 + 1, 3, none⟩ = some (.int .i64 3) := by rw [HV4.out.1]; exact kv4.cell c3 (by simp)
    have f3' : (V.alloc (.cells #[.int .i64 77, .int .i64 1, .int .i64 0, .int .i64 (-5)] 3 (0, 0))).frozen? ⟨N + 1 + 1, 3, none⟩ = false := by rw [HV4.out.1]; have := (HW.out.same kv4).ha; simp [World.frozen?, this]
    clear kv4
    go_region
    rw [HV4.out.1]
    obtain ⟨W5, hW5⟩ : ∃ W5, (V4.setCell ⟨N + 1 + 1, 3, none⟩ (.int .i64 0)).drew = W5 := ⟨_, rfl⟩
    have HW5 : Hid (Wo w1 W5 N cm0 co0 (ca0.setIfInBounds 3 (.int .i64 0)) cb0 (ci0 N)) := by rw [← hW5]; exact (HW4.out.setA 3 (.int .i64 0)).same ((Kept.refl _ _).drew)
    have HS5 : Hid (Sv W5 ⟨some ⟨N + 1 + 1 + 1 + 1, 0, none⟩, 5, some ⟨N + 1, 0, none⟩, 1, some ⟨N, 0, none⟩, 2⟩ Smi2) := wo_sv HW5.out few_mi2
    have hbx : W5.heap[X]? = some (.cells #[.slice (some ⟨N + 1 + 1 + 1 + 1, 0, none⟩) 5 5, .slice (some ⟨N + 1, 0, none⟩) 1 1, .slice (some ⟨N, 0, none⟩) 2 2] 27 (0, 0)) := by rw [← hW5, ((Kept.refl [] _).drew).block _ (by simp; exact lt_of_heap HBx4.out) (by simp)]; exact far_set HBx4.out (by have := HX.out; omega)
    have y0 : W5.cell? ⟨X, 0, none⟩ = some (.slice (some ⟨N + 1 + 1 + 1 + 1, 0, none⟩) 5 5) := cellB hbx
    have y1 : W5.cell? ⟨X, 1, none⟩ = some (.slice (some ⟨N + 1, 0, none⟩) 1 1) := cellB hbx
    have y2 : W5.cell? ⟨X, 2, none⟩ = some (.slice (some ⟨N, 0, none⟩) 2 2) := cellB hbx
    have HWe : Hid (_) := hW5
    have HKw : Hid (Kept [] w W5) := HK1.out.trans HW5.out.kept (by simp)
    clear hbx hW5
    rw [HWe.out]
    clear HWe x0 x1 x2 i2 x0' i2' c3' f3' hb c3 f3 HV4
    go_wp2_with fail
    refine (p_Checks HS5.out (HT.out.kept HKw.out) ok_mi2).mono ?_
    rintro e w7 ⟨a7, c7, rfl, h7, k7⟩
    have HK7 : Hid (Kept [] w w7) := HKw.out.trans k7 (by simp)
    have HF7 : Hid (FiA w7 a7 [⟨2, 1, ⟨#[102]⟩⟩]) := h7
    clear h7 k7 y0 y1 y2
    obtain ⟨V8, Z, HV8, kv8, b8⟩ := one_box w7 #[.int .i64 2, .int .i64 1, .string ⟨#[102]⟩] 42
    have HSm : Hid (Calls Tryd.prog 10 #[.slice a7 1 c7, .slice (some ⟨Z, 0, none⟩) 1 1] V8 fun e w' => e = .returned (.bool true) ∧ Kept [] V8 w') := same_F (M := [⟨2, 1, ⟨#[102]⟩⟩]) c7 1 (by simp) (HF7.out.kept kv8) (fia_of (M := [⟨2, 1, ⟨#[102]⟩⟩]) b8)
    have HK8 : Hid (Kept [] w V8) := HK7.out.trans kv8 (by simp)
    clear kv8 b8 HF7 HK7
    go_wp2_with fail
    rw [HV8.out.1, HV8.out.2]
    refine Calls.mono HSm.out ?_
    rintro e w9 ⟨rfl, k9⟩
    have HK9 : Hid (Kept [] w w9) := HK8.out.trans k9 (by simp)
    clear k9 HSm HK8 HV8
    go_wp2_with fail
    go_ret
    exact ⟨rfl, HK9.out⟩
  · have hb : bits .and .i64 a0 3 = 3 := by rw [i64_and3, hk]
    obtain ⟨V4, L, HV4, kv4, b4⟩ := one_box V #[.int .i64 77, .int .i64 1, .int .i64 0, .int .i64 (-5)] 3
    have HL : Hid (_) := kv4
    have c3 : V.cell? ⟨N + 1 + 1, 3, none⟩ = some (.int .i64 3) := by rw [cellB HW.out.ha]; rfl
    have f3 : V.frozen? ⟨N + 1 + 1, 3, none⟩ = false := by have := HW.out.ha; simp [World.frozen?, this]
    have HW4 : Hid (_) := HW.out.same kv4
    have hbx4 : V4.heap[X]? = some (.cells #[.slice (some ⟨N + 1 + 1 + 1 + 1, 0, none⟩) 5 5, .slice (some ⟨N + 1, 0, none⟩) 1 1, .slice (some ⟨N, 0, none⟩) 2 2] 27 (0, 0)) := by rw [kv4.block _ (lt_of_heap HBx.out) (by simp)]; exact HBx.out
    have HBx4 : Hid (_) := hbx4
    clear hbx4
    have x0' : (V.alloc (.cells #[.int .i64 77, .int .i64 1, .int .i64 0, .int .i64 (-5)] 3 (0, 0))).cell? ⟨X, 0, none⟩ = some (.slice (some ⟨N + 1 + 1 + 1 + 1, 0, none⟩) 5 5) := by rw [HV4.out.1]; exact kv4.cell x0 (by simp)
    have i2' : (V.alloc (.cells #[.int .i64 77, .int .i64 1, .int .i64 0, .int .i64 (-5)] 3 (0, 0))).cell? ⟨N + 1 + 1 + 1 + 1, 2, none⟩ = some (.slice (some ⟨N + 1 + 1, 0, none⟩) 3 3) := by rw [HV4.out.1]; exact kv4.cell i2 (by simp)
    have c3' : (V.alloc (.cells #[.int .i64 77, .int .i64 1, .int .i64 0, .int .i64 (-5)] 3 (0, 0))).cell? ⟨N + 1 + 1, 3, none⟩ = some (.int .i64 3) := by rw [HV4.out.1]; exact kv4.cell c3 (by simp)
    have f3' : (V.alloc (.cells #[.int .i64 77, .int .i64 1, .int .i64 0, .int .i64 (-5)] 3 (0, 0))).frozen? ⟨N + 1 + 1, 3, none⟩ = false := by rw [HV4.out.1]; have := (HW.out.same kv4).ha; simp [World.frozen?, this]
    clear kv4
    go_region
    rw [HV4.out.1]
    obtain ⟨W5, hW5⟩ : ∃ W5, (V4.setCell ⟨N + 1 + 1, 3, none⟩ (.int .i64 (-5))).drew = W5 := ⟨_, rfl⟩
    have HW5 : Hid (Wo w1 W5 N cm0 co0 (ca0.setIfInBounds 3 (.int .i64 (-5))) cb0 (ci0 N)) := by rw [← hW5]; exact (HW4.out.setA 3 (.int .i64 (-5))).same ((Kept.refl _ _).drew)
    have HS5 : Hid (Sv W5 ⟨some ⟨N + 1 + 1 + 1 + 1, 0, none⟩, 5, some ⟨N + 1, 0, none⟩, 1, some ⟨N, 0, none⟩, 2⟩ Smi3) := wo_sv HW5.out few_mi3
    have hbx : W5.heap[X]? = some (.cells #[.slice (some ⟨N + 1 + 1 + 1 + 1, 0, none⟩) 5 5, .slice (some ⟨N + 1, 0, none⟩) 1 1, .slice (some ⟨N, 0, none⟩) 2 2] 27 (0, 0)) := by rw [← hW5, ((Kept.refl [] _).drew).block _ (by simp; exact lt_of_heap HBx4.out) (by simp)]; exact far_set HBx4.out (by have := HX.out; omega)
    have y0 : W5.cell? ⟨X, 0, none⟩ = some (.slice (some ⟨N + 1 + 1 + 1 + 1, 0, none⟩) 5 5) := cellB hbx
    have y1 : W5.cell? ⟨X, 1, none⟩ = some (.slice (some ⟨N + 1, 0, none⟩) 1 1) := cellB hbx
    have y2 : W5.cell? ⟨X, 2, none⟩ = some (.slice (some ⟨N, 0, none⟩) 2 2) := cellB hbx
    have HWe : Hid (_) := hW5
    have HKw : Hid (Kept [] w W5) := HK1.out.trans HW5.out.kept (by simp)
    clear hbx hW5
    rw [HWe.out]
    clear HWe x0 x1 x2 i2 x0' i2' c3' f3' hb c3 f3 HV4
    go_wp2_with fail
    refine (p_Checks HS5.out (HT.out.kept HKw.out) ok_mi3).mono ?_
    rintro e w7 ⟨a7, c7, rfl, h7, k7⟩
    have HK7 : Hid (Kept [] w w7) := HKw.out.trans k7 (by simp)
    have HF7 : Hid (FiA w7 a7 [⟨2, 1, ⟨#[102]⟩⟩]) := h7
    clear h7 k7 y0 y1 y2
    obtain ⟨V8, Z, HV8, kv8, b8⟩ := one_box w7 #[.int .i64 2, .int .i64 1, .string ⟨#[102]⟩] 42
    have HSm : Hid (Calls Tryd.prog 10 #[.slice a7 1 c7, .slice (some ⟨Z, 0, none⟩) 1 1] V8 fun e w' => e = .returned (.bool true) ∧ Kept [] V8 w') := same_F (M := [⟨2, 1, ⟨#[102]⟩⟩]) c7 1 (by simp) (HF7.out.kept kv8) (fia_of (M := [⟨2, 1, ⟨#[102]⟩⟩]) b8)
    have HK8 : Hid (Kept [] w V8) := HK7.out.trans kv8 (by simp)
    clear kv8 b8 HF7 HK7
    go_wp2_with fail
    rw [HV8.out.1, HV8.out.2]
    refine Calls.mono HSm.out ?_
    rintro e w9 ⟨rfl, k9⟩
    have HK9 : Hid (Kept [] w w9) := HK8.out.trans k9 (by simp)
    clear k9 HSm HK8 HV8
    go_wp2_with fail
    go_ret
    exact ⟨rfl, HK9.out⟩

end Go.Proofs.YtgfdcnjnkljahaaDoor
