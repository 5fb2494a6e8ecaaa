/-
  A descriptor of a directory, of a core or a number that is none.
-/
import Derived.Test.YtgfdcnjnkljahabDoorWg
namespace Go.Proofs.YtgfdcnjnkljahabDoor
open Go.RowKit Go.Lib Go.Maps
set_option linter.unusedVariables false
set_option linter.unusedSimpArgs false

@[reducible] def Sop0 : Sta := ⟨[⟨1, true, [(⟨#[100]⟩, 2), (⟨#[102]⟩, 3), (⟨#[103]⟩, 3)], ⟨#[]⟩⟩, ⟨2, true, [(⟨#[104]⟩, 10)], ⟨#[]⟩⟩, ⟨3, false, [], ⟨#[116, 104, 114, 101, 101]⟩⟩, ⟨10, false, [], ⟨#[]⟩⟩, ⟨11, false, [], ⟨#[111, 112, 101, 110]⟩⟩], [(2, 2, 11)], [3, 2]⟩
theorem ok_op0 : okS Sop0 [⟨9, 11, ⟨#[]⟩⟩] = true := by kernel_rfl
theorem few_op0 : Few Sop0 := few_of (by kernel_rfl)

@[reducible] def Sop1 : Sta := ⟨[⟨1, true, [(⟨#[100]⟩, 2), (⟨#[102]⟩, 3), (⟨#[103]⟩, 3)], ⟨#[]⟩⟩, ⟨2, true, [(⟨#[104]⟩, 10)], ⟨#[]⟩⟩, ⟨3, false, [], ⟨#[116, 104, 114, 101, 101]⟩⟩, ⟨10, false, [], ⟨#[]⟩⟩, ⟨11, false, [], ⟨#[111, 112, 101, 110]⟩⟩], [(1, 4, 11)], [3, 2]⟩
theorem ok_op1 : okS Sop1 [⟨9, 11, ⟨#[]⟩⟩] = true := by kernel_rfl
theorem few_op1 : Few Sop1 := few_of (by kernel_rfl)

@[reducible] def Sop2 : Sta := ⟨[⟨1, true, [(⟨#[100]⟩, 2), (⟨#[102]⟩, 3), (⟨#[103]⟩, 3)], ⟨#[]⟩⟩, ⟨2, true, [(⟨#[104]⟩, 10)], ⟨#[]⟩⟩, ⟨3, false, [], ⟨#[116, 104, 114, 101, 101]⟩⟩, ⟨10, false, [], ⟨#[]⟩⟩, ⟨11, false, [], ⟨#[111, 112, 101, 110]⟩⟩], [(1, (-1), 11)], [3, 2]⟩
theorem ok_op2 : okS Sop2 [⟨9, 11, ⟨#[]⟩⟩] = true := by kernel_rfl
theorem few_op2 : Few Sop2 := few_of (by kernel_rfl)

@[reducible] def Sop3 : Sta := ⟨[⟨1, true, [(⟨#[100]⟩, 2), (⟨#[102]⟩, 3), (⟨#[103]⟩, 3)], ⟨#[]⟩⟩, ⟨2, true, [(⟨#[104]⟩, 10)], ⟨#[]⟩⟩, ⟨3, false, [], ⟨#[116, 104, 114, 101, 101]⟩⟩, ⟨10, false, [], ⟨#[]⟩⟩, ⟨11, false, [], ⟨#[111, 112, 101, 110]⟩⟩], [(1, 2, 11), (1, 2, 3)], [3, 2]⟩
theorem ok_op3 : okS Sop3 [⟨9, 3, ⟨#[]⟩⟩] = true := by kernel_rfl
theorem few_op3 : Few Sop3 := few_of (by kernel_rfl)

theorem r_opened0 (w : World) (a0 : Int) (hk : a0 % 4 = 0) : Calls Tryd.prog 12 #[.int .i64 a0] w fun e w' => e = .returned (.int .i64 11) ∧ w' = w := by
  have hb : bits .and .i64 a0 3 = 0 := by rw [i64_and3, hk]
  have hb0 : ((0 : Int) == 3) = false := by rfl
  go_enter Tryd.func12, Tryd.ntmps12
  go_wp2_with fail
  go_ret
  exact ⟨rfl, rfl⟩

theorem r_opened1 (w : World) (a0 : Int) (hk : a0 % 4 = 1) : Calls Tryd.prog 12 #[.int .i64 a0] w fun e w' => e = .returned (.int .i64 11) ∧ w' = w := by
  have hb : bits .and .i64 a0 3 = 1 := by rw [i64_and3, hk]
  have hb0 : ((1 : Int) == 3) = false := by rfl
  go_enter Tryd.func12, Tryd.ntmps12
  go_wp2_with fail
  go_ret
  exact ⟨rfl, rfl⟩

theorem r_opened2 (w : World) (a0 : Int) (hk : a0 % 4 = 2) : Calls Tryd.prog 12 #[.int .i64 a0] w fun e w' => e = .returned (.int .i64 11) ∧ w' = w := by
  have hb : bits .and .i64 a0 3 = 2 := by rw [i64_and3, hk]
  have hb0 : ((2 : Int) == 3) = false := by rfl
  go_enter Tryd.func12, Tryd.ntmps12
  go_wp2_with fail
  go_ret
  exact ⟨rfl, rfl⟩

theorem r_opened3 (w : World) (a0 : Int) (hk : a0 % 4 = 3) : Calls Tryd.prog 12 #[.int .i64 a0] w fun e w' => e = .returned (.int .i64 3) ∧ w' = w := by
  have hb : bits .and .i64 a0 3 = 3 := by rw [i64_and3, hk]
  have hb0 : ((3 : Int) == 3) = true := by rfl
  go_enter Tryd.func12, Tryd.ntmps12
  go_wp2_with fail
  go_ret
  exact ⟨rfl, rfl⟩

theorem info_Desc : (Tryd.prog.info? 41).map (fun i => (i.zero, i.size, i.bytes)) = some (some (.agg #[.int .i64 0, .int .i64 0, .int .i64 0]), 3, 24) := by kernel_rfl

theorem app_desc {w : World} {Q b : Nat} (hq : w.heap[Q]? = some (.cells co0 41 (0, 0))) (hb : w.heap[b]? = some (.cells #[.int .i64 1, .int .i64 2, .int .i64 3] 41 (0, 0))) :
    ∃ g cap cur w', (Builtin.append_ #[24, 24] 24 #[.slice (some ⟨Q, 0, none⟩) 1 1, .slice (some ⟨b, 0, none⟩) 1 1]).run Tryd.prog w = .ok (.slice (some ⟨g, 0, none⟩) 2 cap) w' ∧ w'.heap[g]? = some (.cells cur 41 (0, 0)) ∧ cur.toList.take 6 = [.int .i64 1, .int .i64 2, .int .i64 11, .int .i64 1, .int .i64 2, .int .i64 3] ∧ Kept [Q] w w' ∧ (g = Q ∨ g = w.heap.size) ∧ 2 ≤ cap := by
  obtain ⟨i0, hi, hz0, hz1, hz2⟩ := info_parts info_Desc
  obtain ⟨g, cap, w', hr, h2, h3, h4, h5⟩ := run_append_lies (P := Tryd.prog) w 24 24 0 41 i0 _ 3 24 Tryd.underlying24 hi hz0 hz1 hz2 rfl (by omega) (.slice (some ⟨Q, 0, none⟩) 1 1) 1 [.int .i64 1, .int .i64 2, .int .i64 11]
    ⟨rfl, .inr ⟨Q, 1, co0, rfl, Nat.zero_le _, hq, Nat.le_refl _, by unfold maxLen; omega, rfl, rfl⟩⟩ ⟨b, 0, none⟩ 1 1 [.int .i64 1, .int .i64 2, .int .i64 3] rfl
    (fun j u hu => by
      rw [add_lit, Nat.zero_add, cellB hb]
      simpa using hu)
    (by intro u hu; simp at hu; rcases hu with rfl | rfl | rfl <;> rfl) (by omega) (by unfold maxLen; omega) (by omega) (Nat.zero_le _) w.heap.size rfl
  obtain ⟨-, h2⟩ := h2
  rcases h2 with ⟨h6, -⟩ | ⟨g', cap', cur, e, h7, h8, h9, h10, h11, h12⟩
  · cases h6
  · injection e with e1 e2 e3
    injection e1 with e1
    injection e1 with e1
    subst e1 e3
    refine ⟨g, cap, cur, w', hr, h8, by simpa using h12, (Kept.refl [Q] w).grown h3 (fun k e => Or.inl (by simp [Value.ownBlock] at e; simp [e])), ?_, h9⟩
    rcases h4 with h4 | h4
    · left; simpa [Value.ownBlock] using h4.symm
    · right; exact h4

set_option maxRecDepth 100000 in
set_option maxHeartbeats 8000000 in
theorem opens_any (a0 : Int) (w : World) (hT : Tab w) :
    Calls Tryd.prog 5 #[.int .i64 a0] w fun e w' => e = .returned (.bool true) ∧ Kept [] w w' := by
  have HT : Hid (Tab w) := hT
  clear hT
  go_enter Tryd.func5, Tryd.ntmps5
  go_wp2_with fail
  refine (awake_any w HT.out).mono ?_
  rintro e w1 ⟨rfl, k1⟩
  have HK1 : Hid (_) := k1
  clear k1
  go_wp2_with fail
  refine (r_whole _).mono ?_
  rintro e w2 ⟨N, rfl, h2⟩
  obtain ⟨V, X, HV, kv, b1⟩ := one_box w2 #[.slice (some ⟨N + 1 + 1 + 1 + 1, 0, none⟩) 5 5, .slice (some ⟨N + 1, 0, none⟩) 1 1, .slice (some ⟨N, 0, none⟩) 2 2] 27
  have HW : Hid (Wo w1 V N cm0 co0 ca0 cb0 (ci0 N)) := h2.same kv
  have HX : Hid (N + 1 + 1 + 1 + 1 < X) := by have := lt_of_heap h2.hi; have e : w2.heap.size = X := HV.out.2; show _ < _; omega
  have HBx : Hid (V.heap[X]? = some (.cells #[.slice (some ⟨N + 1 + 1 + 1 + 1, 0, none⟩) 5 5, .slice (some ⟨N + 1, 0, none⟩) 1 1, .slice (some ⟨N, 0, none⟩) 2 2] 27 (0, 0))) := b1
  have x0 : V.cell? ⟨X, 0, none⟩ = some (.slice (some ⟨N + 1 + 1 + 1 + 1, 0, none⟩) 5 5) := cellB b1
  have x1 : V.cell? ⟨X, 1, none⟩ = some (.slice (some ⟨N + 1, 0, none⟩) 1 1) := cellB b1
  have x2 : V.cell? ⟨X, 2, none⟩ = some (.slice (some ⟨N, 0, none⟩) 2 2) := cellB b1
  clear h2 kv b1
  go_upto_region 4 with fail
  rw [HV.out.1, HV.out.2]
  clear HV
  have hk : a0 % 4 = 0 ∨ a0 % 4 = 1 ∨ a0 % 4 = 2 ∨ a0 % 4 = 3 := by omega
  rcases hk with hk | hk | hk | hk
  · have hb : bits .and .i64 a0 3 = 0 := by rw [i64_and3, hk]
    have e0 : ((0 : Int) == 0) = true := by rfl
    have e1 : ((0 : Int) == 1) = false := by rfl
    have e2 : ((0 : Int) == 2) = false := by rfl
    have c1 : V.cell? ⟨N + 1, 0, none⟩ = some (.int .i64 1) := by rw [cellB HW.out.ho]; rfl
    have f1 : V.frozen? ⟨N + 1, 0, none⟩ = false := by have := HW.out.ho; simp [World.frozen?, this]
    obtain ⟨W5, hW5⟩ : ∃ W5, V.setCell ⟨N + 1, 0, none⟩ (.int .i64 2) = W5 := ⟨_, rfl⟩
    have HW5 : Hid (Wo w1 W5 N cm0 (co0.setIfInBounds 0 (.int .i64 2)) ca0 cb0 (ci0 N)) := by rw [← hW5]; exact HW.out.setO 0 (.int .i64 2)
    have HS5 : Hid (Sv W5 ⟨some ⟨N + 1 + 1 + 1 + 1, 0, none⟩, 5, some ⟨N + 1, 0, none⟩, 1, some ⟨N, 0, none⟩, 2⟩ Sop0) := wo_sv HW5.out few_op0
    have hbx : W5.heap[X]? = some (.cells #[.slice (some ⟨N + 1 + 1 + 1 + 1, 0, none⟩) 5 5, .slice (some ⟨N + 1, 0, none⟩) 1 1, .slice (some ⟨N, 0, none⟩) 2 2] 27 (0, 0)) := by rw [← hW5]; exact far_set HBx.out (by have := HX.out; omega)
    have y0 : W5.cell? ⟨X, 0, none⟩ = some (.slice (some ⟨N + 1 + 1 + 1 + 1, 0, none⟩) 5 5) := cellB hbx
    have y1 : W5.cell? ⟨X, 1, none⟩ = some (.slice (some ⟨N + 1, 0, none⟩) 1 1) := cellB hbx
    have y2 : W5.cell? ⟨X, 2, none⟩ = some (.slice (some ⟨N, 0, none⟩) 2 2) := cellB hbx
    have HWe : Hid (_) := hW5
    have HKw : Hid (Kept [] w W5) := HK1.out.trans HW5.out.kept (by simp)
    clear hbx hW5
    go_upto_region 12 with fail
    (try rw [HWe.out])
    clear x0 x1 x2 c1 f1 hb e0 e1 e2
    (try go_wp2_with fail)
    (try rw [HWe.out])
    refine (p_Checks HS5.out (HT.out.kept HKw.out) ok_op0).mono ?_
    rintro e w7 ⟨a7, c7, rfl, h7, k7⟩
    have HK7 : Hid (Kept [] w w7) := HKw.out.trans k7 (by simp)
    have HF7 : Hid (FiA w7 a7 [⟨9, 11, ⟨#[]⟩⟩]) := h7
    clear h7 k7 y0 y1 y2
    go_wp2_with fail
    refine (r_opened0 w7 a0 hk).mono ?_
    rintro e w8 ⟨rfl, hw8⟩
    have hw9 := hw8.symm
    subst hw9
    clear hw8
    obtain ⟨V8, Z, HV8, kv8, b8⟩ := one_box w7 #[.int .i64 9, .int .i64 11, .string ⟨#[]⟩] 37
    have HSm : Hid (Calls Tryd.prog 9 #[.slice a7 1 c7, .slice (some ⟨Z, 0, none⟩) 1 1] V8 fun e w' => e = .returned (.bool true) ∧ Kept [] V8 w') := same_F (M := [⟨9, 11, ⟨#[]⟩⟩]) c7 1 (by simp) (HF7.out.kept kv8) (fia_of (M := [⟨9, 11, ⟨#[]⟩⟩]) b8)
    have HK8 : Hid (Kept [] w V8) := HK7.out.trans kv8 (by simp)
    clear kv8 b8 HF7 HK7
    go_wp2_with fail
    rw [HV8.out.1, HV8.out.2]
    refine Calls.mono HSm.out ?_
    rintro e w9 ⟨rfl, k9⟩
    have HK9 : Hid (Kept [] w w9) := HK8.out.trans k9 (by simp)
    clear k9 HSm HK8 HV8
    go_wp2_with fail
    go_ret
    exact ⟨rfl, HK9.out⟩
  · have hb : bits .and .i64 a0 3 = 1 := by rw [i64_and3, hk]
    have e0 : ((1 : Int) == 0) = false := by rfl
    have e1 : ((1 : Int) == 1) = true := by rfl
    have e2 : ((1 : Int) == 2) = false := by rfl
    have c1 : V.cell? ⟨N + 1, 1, none⟩ = some (.int .i64 2) := by rw [cellB HW.out.ho]; rfl
    have f1 : V.frozen? ⟨N + 1, 1, none⟩ = false := by have := HW.out.ho; simp [World.frozen?, this]
    obtain ⟨W5, hW5⟩ : ∃ W5, V.setCell ⟨N + 1, 1, none⟩ (.int .i64 4) = W5 := ⟨_, rfl⟩
    have HW5 : Hid (Wo w1 W5 N cm0 (co0.setIfInBounds 1 (.int .i64 4)) ca0 cb0 (ci0 N)) := by rw [← hW5]; exact HW.out.setO 1 (.int .i64 4)
    have HS5 : Hid (Sv W5 ⟨some ⟨N + 1 + 1 + 1 + 1, 0, none⟩, 5, some ⟨N + 1, 0, none⟩, 1, some ⟨N, 0, none⟩, 2⟩ Sop1) := wo_sv HW5.out few_op1
    have hbx : W5.heap[X]? = some (.cells #[.slice (some ⟨N + 1 + 1 + 1 + 1, 0, none⟩) 5 5, .slice (some ⟨N + 1, 0, none⟩) 1 1, .slice (some ⟨N, 0, none⟩) 2 2] 27 (0, 0)) := by rw [← hW5]; exact far_set HBx.out (by have := HX.out; omega)
    have y0 : W5.cell? ⟨X, 0, none⟩ = some (.slice (some ⟨N + 1 + 1 + 1 + 1, 0, none⟩) 5 5) := cellB hbx
    have y1 : W5.cell? ⟨X, 1, none⟩ = some (.slice (some ⟨N + 1, 0, none⟩) 1 1) := cellB hbx
    have y2 : W5.cell? ⟨X, 2, none⟩ = some (.slice (some ⟨N, 0, none⟩) 2 2) := cellB hbx
    have HWe : Hid (_) := hW5
    have HKw : Hid (Kept [] w W5) := HK1.out.trans HW5.out.kept (by simp)
    clear hbx hW5
    go_upto_region 12 with fail
    (try rw [HWe.out])
    clear x0 x1 x2 c1 f1 hb e0 e1 e2
    (try go_wp2_with fail)
    (try rw [HWe.out])
    refine (p_Checks HS5.out (HT.out.kept HKw.out) ok_op1).mono ?_
    rintro e w7 ⟨a7, c7, rfl, h7, k7⟩
    have HK7 : Hid (Kept [] w w7) := HKw.out.trans k7 (by simp)
    have HF7 : Hid (FiA w7 a7 [⟨9, 11, ⟨#[]⟩⟩]) := h7
    clear h7 k7 y0 y1 y2
    go_wp2_with fail
    refine (r_opened1 w7 a0 hk).mono ?_
    rintro e w8 ⟨rfl, hw8⟩
    have hw9 := hw8.symm
    subst hw9
    clear hw8
    obtain ⟨V8, Z, HV8, kv8, b8⟩ := one_box w7 #[.int .i64 9, .int .i64 11, .string ⟨#[]⟩] 37
    have HSm : Hid (Calls Tryd.prog 9 #[.slice a7 1 c7, .slice (some ⟨Z, 0, none⟩) 1 1] V8 fun e w' => e = .returned (.bool true) ∧ Kept [] V8 w') := same_F (M := [⟨9, 11, ⟨#[]⟩⟩]) c7 1 (by simp) (HF7.out.kept kv8) (fia_of (M := [⟨9, 11, ⟨#[]⟩⟩]) b8)
    have HK8 : Hid (Kept [] w V8) := HK7.out.trans kv8 (by simp)
    clear kv8 b8 HF7 HK7
    go_wp2_with fail
    rw [HV8.out.1, HV8.out.2]
    refine Calls.mono HSm.out ?_
    rintro e w9 ⟨rfl, k9⟩
    have HK9 : Hid (Kept [] w w9) := HK8.out.trans k9 (by simp)
    clear k9 HSm HK8 HV8
    go_wp2_with fail
    go_ret
    exact ⟨rfl, HK9.out⟩
  · have hb : bits .and .i64 a0 3 = 2 := by rw [i64_and3, hk]
    have e0 : ((2 : Int) == 0) = false := by rfl
    have e1 : ((2 : Int) == 1) = false := by rfl
    have e2 : ((2 : Int) == 2) = true := by rfl
    have c1 : V.cell? ⟨N + 1, 1, none⟩ = some (.int .i64 2) := by rw [cellB HW.out.ho]; rfl
    have f1 : V.frozen? ⟨N + 1, 1, none⟩ = false := by have := HW.out.ho; simp [World.frozen?, this]
    obtain ⟨W5, hW5⟩ : ∃ W5, V.setCell ⟨N + 1, 1, none⟩ (.int .i64 (-1)) = W5 := ⟨_, rfl⟩
    have HW5 : Hid (Wo w1 W5 N cm0 (co0.setIfInBounds 1 (.int .i64 (-1))) ca0 cb0 (ci0 N)) := by rw [← hW5]; exact HW.out.setO 1 (.int .i64 (-1))
    have HS5 : Hid (Sv W5 ⟨some ⟨N + 1 + 1 + 1 + 1, 0, none⟩, 5, some ⟨N + 1, 0, none⟩, 1, some ⟨N, 0, none⟩, 2⟩ Sop2) := wo_sv HW5.out few_op2
    have hbx : W5.heap[X]? = some (.cells #[.slice (some ⟨N + 1 + 1 + 1 + 1, 0, none⟩) 5 5, .slice (some ⟨N + 1, 0, none⟩) 1 1, .slice (some ⟨N, 0, none⟩) 2 2] 27 (0, 0)) := by rw [← hW5]; exact far_set HBx.out (by have := HX.out; omega)
    have y0 : W5.cell? ⟨X, 0, none⟩ = some (.slice (some ⟨N + 1 + 1 + 1 + 1, 0, none⟩) 5 5) := cellB hbx
    have y1 : W5.cell? ⟨X, 1, none⟩ = some (.slice (some ⟨N + 1, 0, none⟩) 1 1) := cellB hbx
    have y2 : W5.cell? ⟨X, 2, none⟩ = some (.slice (some ⟨N, 0, none⟩) 2 2) := cellB hbx
    have HWe : Hid (_) := hW5
    have HKw : Hid (Kept [] w W5) := HK1.out.trans HW5.out.kept (by simp)
    clear hbx hW5
    go_upto_region 12 with fail
    (try rw [HWe.out])
    clear x0 x1 x2 c1 f1 hb e0 e1 e2
    (try go_wp2_with fail)
    (try rw [HWe.out])
    refine (p_Checks HS5.out (HT.out.kept HKw.out) ok_op2).mono ?_
    rintro e w7 ⟨a7, c7, rfl, h7, k7⟩
    have HK7 : Hid (Kept [] w w7) := HKw.out.trans k7 (by simp)
    have HF7 : Hid (FiA w7 a7 [⟨9, 11, ⟨#[]⟩⟩]) := h7
    clear h7 k7 y0 y1 y2
    go_wp2_with fail
    refine (r_opened2 w7 a0 hk).mono ?_
    rintro e w8 ⟨rfl, hw8⟩
    have hw9 := hw8.symm
    subst hw9
    clear hw8
    obtain ⟨V8, Z, HV8, kv8, b8⟩ := one_box w7 #[.int .i64 9, .int .i64 11, .string ⟨#[]⟩] 37
    have HSm : Hid (Calls Tryd.prog 9 #[.slice a7 1 c7, .slice (some ⟨Z, 0, none⟩) 1 1] V8 fun e w' => e = .returned (.bool true) ∧ Kept [] V8 w') := same_F (M := [⟨9, 11, ⟨#[]⟩⟩]) c7 1 (by simp) (HF7.out.kept kv8) (fia_of (M := [⟨9, 11, ⟨#[]⟩⟩]) b8)
    have HK8 : Hid (Kept [] w V8) := HK7.out.trans kv8 (by simp)
    clear kv8 b8 HF7 HK7
    go_wp2_with fail
    rw [HV8.out.1, HV8.out.2]
    refine Calls.mono HSm.out ?_
    rintro e w9 ⟨rfl, k9⟩
    have HK9 : Hid (Kept [] w w9) := HK8.out.trans k9 (by simp)
    clear k9 HSm HK8 HV8
    go_wp2_with fail
    go_ret
    exact ⟨rfl, HK9.out⟩
  · have hb : bits .and .i64 a0 3 = 3 := by rw [i64_and3, hk]
    have e0 : ((3 : Int) == 0) = false := by rfl
    have e1 : ((3 : Int) == 1) = false := by rfl
    have e2 : ((3 : Int) == 2) = false := by rfl
    obtain ⟨V4, L, HV4, kv4, b4⟩ := one_box V #[.int .i64 1, .int .i64 2, .int .i64 3] 41
    have HW4 := HW.out.same kv4
    obtain ⟨g, cap, cur, W6, hr6, hg6, hc6, k6, hgs, hcap⟩ := app_desc HW4.ho b4
    have HAp : Hid ((Builtin.append_ #[24, 24] 24 #[.slice (some ⟨N + 1, 0, none⟩) 1 1, .slice (some ⟨L, 0, none⟩) 1 1]).run Tryd.prog V4 = .ok (.slice (some ⟨g, 0, none⟩) 2 cap) W6) := hr6
    have hx := HX.out
    have hXV : X < V.heap.size := lt_of_heap HBx.out
    have hVL : V.heap.size = L := HV4.out.2
    have hgX : g ≠ X := by
      rcases hgs with h | h
      · omega
      · have := kv4.size; omega
    have hb4x : V4.heap[X]? = some (.cells #[.slice (some ⟨N + 1 + 1 + 1 + 1, 0, none⟩) 5 5, .slice (some ⟨N + 1, 0, none⟩) 1 1, .slice (some ⟨N, 0, none⟩) 2 2] 27 (0, 0)) := by rw [kv4.block _ hXV (by simp)]; exact HBx.out
    have hb6 : W6.heap[X]? = some (.cells #[.slice (some ⟨N + 1 + 1 + 1 + 1, 0, none⟩) 5 5, .slice (some ⟨N + 1, 0, none⟩) 1 1, .slice (some ⟨N, 0, none⟩) 2 2] 27 (0, 0)) := by rw [k6.block _ (lt_of_heap hb4x) (by simp; omega)]; exact hb4x
    have x1' : W6.cell? ⟨X, 1, none⟩ = some (.slice (some ⟨N + 1, 0, none⟩) 1 1) := cellB hb6
    have xf' : W6.frozen? ⟨X, 1, none⟩ = false := by simp [World.frozen?, hb6]
    obtain ⟨W5, hW5⟩ : ∃ W5, W6.setCell ⟨X, 1, none⟩ (.slice (some ⟨g, 0, none⟩) 2 cap) = W5 := ⟨_, rfl⟩
    have k5 : Kept [X] W6 W5 := by rw [← hW5]; exact (Kept.refl _ _).setCell (Or.inl (by simp)) _
    have hbx : W5.heap[X]? = some (.cells #[.slice (some ⟨N + 1 + 1 + 1 + 1, 0, none⟩) 5 5, .slice (some ⟨g, 0, none⟩) 2 cap, .slice (some ⟨N, 0, none⟩) 2 2] 27 (0, 0)) := by rw [← hW5]; exact near_set hb6
    have far : ∀ c o, V4.heap[c]? = some o → c ≠ N + 1 → c ≠ X → W5.heap[c]? = some o := fun c o h h1 h2 => by
      have h6 : W6.heap[c]? = some o := by rw [k6.block _ (lt_of_heap h) (by simpa using h1)]; exact h
      rw [k5.block _ (lt_of_heap h6) (by simpa using h2)]; exact h6
    have hi5 := far _ _ HW4.hi (by omega) (by omega)
    have ha5 := far _ _ HW4.ha (by omega) (by omega)
    have hb5 := far _ _ HW4.hb (by omega) (by omega)
    have hm5 := far _ _ HW4.hm (by omega) (by omega)
    have hg5 : W5.heap[g]? = some (.cells cur 41 (0, 0)) := by rw [k5.block _ (lt_of_heap hg6) (by simpa using hgX)]; exact hg6
    have hlow := HW4.low
    have HKw : Hid (Kept [] w W5) := (HK1.out.trans HW4.kept (by simp)).trans ((k6.mono (by simp) : Kept [N + 1, X] V4 W6).trans (k5.mono (by simp)) (fun x hx => Or.inl hx)) (fun x hx => Or.inr (by simp at hx; have := HK1.out.size; omega))
    have hds : DesA W5 (some ⟨g, 0, none⟩) [(1, 2, 11), (1, 2, 3)] := fun i hi => by
      have hq : ∀ j u, j < 6 → [Value.int .i64 1, .int .i64 2, .int .i64 11, .int .i64 1, .int .i64 2, .int .i64 3][j]? = some u → W5.cell? ⟨g, j, none⟩ = some u := fun j u hj hu => by
        rw [← hc6, List.getElem?_take_of_lt hj] at hu
        rw [cellB hg5]
        simpa using hu
      have h2 : i = 0 ∨ i = 1 := by simp at hi; omega
      rcases h2 with rfl | rfl
      · exact ⟨g, 0, rfl, hq 0 _ (by omega) rfl, hq 1 _ (by omega) rfl, hq 2 _ (by omega) rfl⟩
      · exact ⟨g, 0, rfl, hq 3 _ (by omega) rfl, hq 4 _ (by omega) rfl, hq 5 _ (by omega) rfl⟩
    have HS5 : Hid (Sv W5 ⟨some ⟨N + 1 + 1 + 1 + 1, 0, none⟩, 5, some ⟨g, 0, none⟩, cap, some ⟨N, 0, none⟩, 2⟩ Sop3) := sv_mk (ino_of (L := [(⟨1, true, [(⟨#[100]⟩, 2), (⟨#[102]⟩, 3), (⟨#[103]⟩, 3)], ⟨#[]⟩⟩, some ⟨N + 1 + 1, 0, none⟩, 3), (⟨2, true, [(⟨#[104]⟩, 10)], ⟨#[]⟩⟩, some ⟨N + 1 + 1 + 1, 0, none⟩, 1), (⟨3, false, [], ⟨#[116, 104, 114, 101, 101]⟩⟩, none, 0), (⟨10, false, [], ⟨#[]⟩⟩, none, 0), (⟨11, false, [], ⟨#[111, 112, 101, 110]⟩⟩, none, 0)]) hi5 (fun x hx => by
        simp only [List.mem_cons, List.not_mem_nil, or_false] at hx
        rcases hx with rfl | rfl | rfl | rfl | rfl
        · exact ⟨ent_of (E := [(⟨#[100]⟩, 2), (⟨#[102]⟩, 3), (⟨#[103]⟩, 3)]) ha5, Nat.le_refl _⟩
        · exact ⟨ent_of (E := [(⟨#[104]⟩, 10)]) hb5, Nat.le_refl _⟩
        · exact ⟨ent_nil _ _, Nat.le_refl _⟩
        · exact ⟨ent_nil _ _, Nat.le_refl _⟩
        · exact ⟨ent_nil _ _, Nat.le_refl _⟩)) hds (int_of (M := [3, 2]) hm5) few_op3 (Nat.le_refl _) hcap (Nat.le_refl _)
    have y0 : W5.cell? ⟨X, 0, none⟩ = some (.slice (some ⟨N + 1 + 1 + 1 + 1, 0, none⟩) 5 5) := cellB hbx
    have y1 : W5.cell? ⟨X, 1, none⟩ = some (.slice (some ⟨g, 0, none⟩) 2 cap) := cellB hbx
    have y2 : W5.cell? ⟨X, 2, none⟩ = some (.slice (some ⟨N, 0, none⟩) 2 2) := cellB hbx
    have HWe : Hid (_) := hW5
    clear HW4 hr6 hg6 hc6 k6 hgs hgX hb4x hb6 k5 hbx far hi5 ha5 hb5 hm5 hg5 hlow hds kv4 b4 hx hXV hVL
    go_upto_region 5 with fail
    go_wp2_with (at_builtin; (try rw [HV4.out.1, HV4.out.2]); refine wpList_append_run _ rfl _ _ 24 24 rfl _ _ rfl rfl _ _ HAp.out ?_)
    clear HAp x1' xf' x0 x1 x2 HV4
    (try go_wp2_with fail)
    (try rw [HWe.out])
    refine (p_Checks HS5.out (HT.out.kept HKw.out) ok_op3).mono ?_
    rintro e w7 ⟨a7, c7, rfl, h7, k7⟩
    have HK7 : Hid (Kept [] w w7) := HKw.out.trans k7 (by simp)
    have HF7 : Hid (FiA w7 a7 [⟨9, 3, ⟨#[]⟩⟩]) := h7
    clear h7 k7 y0 y1 y2
    go_wp2_with fail
    refine (r_opened3 w7 a0 hk).mono ?_
    rintro e w8 ⟨rfl, hw8⟩
    have hw9 := hw8.symm
    subst hw9
    clear hw8
    obtain ⟨V8, Z, HV8, kv8, b8⟩ := one_box w7 #[.int .i64 9, .int .i64 3, .string ⟨#[]⟩] 37
    have HSm : Hid (Calls Tryd.prog 9 #[.slice a7 1 c7, .slice (some ⟨Z, 0, none⟩) 1 1] V8 fun e w' => e = .returned (.bool true) ∧ Kept [] V8 w') := same_F (M := [⟨9, 3, ⟨#[]⟩⟩]) c7 1 (by simp) (HF7.out.kept kv8) (fia_of (M := [⟨9, 3, ⟨#[]⟩⟩]) b8)
    have HK8 : Hid (Kept [] w V8) := HK7.out.trans kv8 (by simp)
    clear kv8 b8 HF7 HK7
    go_wp2_with fail
    rw [HV8.out.1, HV8.out.2]
    refine Calls.mono HSm.out ?_
    rintro e w9 ⟨rfl, k9⟩
    have HK9 : Hid (Kept [] w w9) := HK8.out.trans k9 (by simp)
    clear k9 HSm HK8 HV8
    go_wp2_with fail
    go_ret
    exact ⟨rfl, HK9.out⟩

end Go.Proofs.YtgfdcnjnkljahabDoor
