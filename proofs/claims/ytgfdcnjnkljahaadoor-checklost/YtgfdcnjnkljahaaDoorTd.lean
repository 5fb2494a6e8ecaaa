/-
  A file that nothing leads to.
-/
import Derived.Test.YtgfdcnjnkljahaaDoorWg
namespace Go.Proofs.YtgfdcnjnkljahaaDoor
open Go.RowKit Go.Lib Go.Maps
set_option linter.unusedVariables false
set_option linter.unusedSimpArgs false

@[reducible] def Slo0 : Sta := ⟨[⟨1, true, [(⟨#[100]⟩, 2), (⟨#[102]⟩, 3), (⟨#[103]⟩, 3)], ⟨#[]⟩⟩, ⟨2, true, [(⟨#[104]⟩, 10)], ⟨#[]⟩⟩, ⟨3, false, [], ⟨#[116, 104, 114, 101, 101]⟩⟩, ⟨10, false, [], ⟨#[]⟩⟩, ⟨11, false, [], ⟨#[111, 112, 101, 110]⟩⟩], [], [3, 2]⟩
theorem ok_lo0 : okS Slo0 [⟨4, 11, ⟨#[]⟩⟩] = true := by kernel_rfl
theorem few_lo0 : Few Slo0 := few_of (by kernel_rfl)

@[reducible] def Slo1 : Sta := ⟨[⟨1, true, [(⟨#[102]⟩, 3), (⟨#[103]⟩, 3)], ⟨#[]⟩⟩, ⟨2, true, [(⟨#[104]⟩, 10)], ⟨#[]⟩⟩, ⟨3, false, [], ⟨#[116, 104, 114, 101, 101]⟩⟩, ⟨10, false, [], ⟨#[]⟩⟩, ⟨11, false, [], ⟨#[111, 112, 101, 110]⟩⟩], [], [3, 2]⟩
theorem ok_lo1 : okS Slo1 [⟨3, 2, ⟨#[]⟩⟩, ⟨4, 2, ⟨#[]⟩⟩, ⟨4, 10, ⟨#[]⟩⟩, ⟨4, 11, ⟨#[]⟩⟩] = true := by kernel_rfl
theorem few_lo1 : Few Slo1 := few_of (by kernel_rfl)

theorem ent_tail {w : World} {A : Nat} {e : En} {E : List En} (h : EntA w (some ⟨A, 0, none⟩) (e :: E)) : EntA w (some ⟨A, 2, none⟩) E := fun i hi => by
  obtain ⟨b, o, e1, h1, h2⟩ := h (i + 1) (by simp; omega)
  injection e1 with e1
  injection e1 with q1 q2
  subst q1 q2
  refine ⟨_, _, rfl, ?_, ?_⟩
  · rw [show 2 + i * 2 = 0 + (i + 1) * 2 by omega]; simpa using h1
  · rw [show 2 + i * 2 + 1 = 0 + (i + 1) * 2 + 1 by omega]; simpa using h2

theorem r_lost0 (w : World) (a0 : Int) (hk : a0 % 2 = 0) : Calls Tryd.prog 13 #[.int .i64 a0] w fun e w' => ∃ Z, e = .returned (.slice (some ⟨Z, 0, none⟩) 1 1) ∧ w'.heap[Z]? = some (.cells #[.int .i64 4, .int .i64 11, .string ⟨#[]⟩] 42 (0, 0)) ∧ Kept [] w w' := by
  have hb : bits .and .i64 a0 1 = 0 := by rw [i64_and1, hk]
  have hb0 : ((0 : Int) == 0) = true := by rfl
  go_enter Tryd.func13, Tryd.ntmps13
  go_wp2_with fail
  go_ret
  exact ⟨_, rfl, Go.heap_alloc_new _ _, (Kept.refl _ _).alloc _⟩

theorem r_lost1 (w : World) (a0 : Int) (hk : a0 % 2 = 1) : Calls Tryd.prog 13 #[.int .i64 a0] w fun e w' => ∃ Z, e = .returned (.slice (some ⟨Z, 0, none⟩) 4 4) ∧ w'.heap[Z]? = some (.cells #[.int .i64 3, .int .i64 2, .string ⟨#[]⟩, .int .i64 4, .int .i64 2, .string ⟨#[]⟩, .int .i64 4, .int .i64 10, .string ⟨#[]⟩, .int .i64 4, .int .i64 11, .string ⟨#[]⟩] 42 (0, 0)) ∧ Kept [] w w' := by
  have hb : bits .and .i64 a0 1 = 1 := by rw [i64_and1, hk]
  have hb0 : ((1 : Int) == 0) = false := by rfl
  go_enter Tryd.func13, Tryd.ntmps13
  go_wp2_with fail
  go_ret
  exact ⟨_, rfl, Go.heap_alloc_new _ _, (Kept.refl _ _).alloc _⟩

set_option maxRecDepth 100000 in
set_option maxHeartbeats 8000000 in
theorem lost_any (a0 : Int) (w : World) (hT : Tab w) :
    Calls Tryd.prog 6 #[.int .i64 a0] w fun e w' => e = .returned (.bool true) ∧ Kept [] w w' := by
  have HT : Hid (Tab w) := hT
  clear hT
  go_enter Tryd.func6, Tryd.ntmps6
  go_wp2_with fail
  refine (awake_any w HT.out).mono ?_
  rintro e w1 ⟨rfl, k1⟩
  have HK1 : Hid (_) := k1
  clear k1
  go_wp2_with fail
  refine (r_whole _).mono ?_
  rintro e w2 ⟨N, rfl, h2⟩
  obtain ⟨V, X, HV, kv, b1⟩ := one_box w2 #[.slice (some ⟨N + 1 + 1 + 1 + 1, 0, none⟩) 5 5, .slice (some ⟨N + 1, 0, none⟩) 1 1, .slice (some ⟨N, 0, none⟩) 2 2] 27
  have HW : Hid (Wo w1 V N cm0 co0 ca0 cb0 (ci0 N)) := h2.same kv
  have HX : Hid (N + 1 + 1 + 1 + 1 < X) := by have := lt_of_heap h2.hi; have e : w2.heap.size = X := HV.out.2; show _ < _; omega
  have HBx : Hid (V.heap[X]? = some (.cells #[.slice (some ⟨N + 1 + 1 + 1 + 1, 0, none⟩) 5 5, .slice (some ⟨N + 1, 0, none⟩) 1 1, .slice (some ⟨N, 0, none⟩) 2 2] 27 (0, 0))) := b1
  have x0 : V.cell? ⟨X, 0, none⟩ = some (.slice (some ⟨N + 1 + 1 + 1 + 1, 0, none⟩) 5 5) := cellB b1
  have x1 : V.cell? ⟨X, 1, none⟩ = some (.slice (some ⟨N + 1, 0, none⟩) 1 1) := cellB b1
  have x2 : V.cell? ⟨X, 2, none⟩ = some (.slice (some ⟨N, 0, none⟩) 2 2) := cellB b1
  have fx : V.frozen? ⟨X, 1, none⟩ = false := by simp [World.frozen?, b1]
  obtain ⟨W1, hW1⟩ : ∃ W1, V.setCell ⟨X, 1, none⟩ (.slice none 0 0) = W1 := ⟨_, rfl⟩
  clear h2 kv b1
  go_upto_region 4 with fail
  rw [HV.out.1, HV.out.2]
  clear HV
  have hbx1 : W1.heap[X]? = some (.cells #[.slice (some ⟨N + 1 + 1 + 1 + 1, 0, none⟩) 5 5, .slice none 0 0, .slice (some ⟨N, 0, none⟩) 2 2] 27 (0, 0)) := by rw [← hW1]; exact near_set HBx.out
  have HW1 : Hid (Wo w1 W1 N cm0 co0 ca0 cb0 (ci0 N)) := by
    have hx := HX.out
    have h := HW.out
    rw [← hW1]
    exact ⟨kept_set1 h.kept (by have := h.low; omega), h.low, far_set h.hm (by omega), far_set h.ho (by omega), far_set h.ha (by omega), far_set h.hb (by omega), far_set h.hi (by omega)⟩
  go_upto_region 5 with fail
  (try rw [hW1])
  have HBx1 : Hid (_) := hbx1
  clear hW1 fx x0 x1 x2 HW HBx hbx1
  have hk : a0 % 2 = 0 ∨ a0 % 2 = 1 := by omega
  have x0 : W1.cell? ⟨X, 0, none⟩ = some (.slice (some ⟨N + 1 + 1 + 1 + 1, 0, none⟩) 5 5) := cellB HBx1.out
  rcases hk with hk | hk
  · have hb : bits .and .i64 a0 1 = 0 := by rw [i64_and1, hk]
    have hbe : ((0 : Int) == 1) = false := by rfl
    obtain ⟨W5, hW5⟩ : ∃ W5, W1 = W5 := ⟨_, rfl⟩
    have HW5 : Hid (Wo w1 W5 N cm0 co0 ca0 cb0 (ci0 N)) := by rw [← hW5]; exact HW1.out
    have hbx : W5.heap[X]? = some (.cells #[.slice (some ⟨N + 1 + 1 + 1 + 1, 0, none⟩) 5 5, .slice none 0 0, .slice (some ⟨N, 0, none⟩) 2 2] 27 (0, 0)) := by rw [← hW5]; exact HBx1.out
    have HS5 : Hid (Sv W5 ⟨some ⟨N + 1 + 1 + 1 + 1, 0, none⟩, 5, none, 0, some ⟨N, 0, none⟩, 2⟩ Slo0) := sv_mk (ino_of (L := [(⟨1, true, [(⟨#[100]⟩, 2), (⟨#[102]⟩, 3), (⟨#[103]⟩, 3)], ⟨#[]⟩⟩, some ⟨N + 1 + 1, 0, none⟩, 3), (⟨2, true, [(⟨#[104]⟩, 10)], ⟨#[]⟩⟩, some ⟨N + 1 + 1 + 1, 0, none⟩, 1), (⟨3, false, [], ⟨#[116, 104, 114, 101, 101]⟩⟩, none, 0), (⟨10, false, [], ⟨#[]⟩⟩, none, 0), (⟨11, false, [], ⟨#[111, 112, 101, 110]⟩⟩, none, 0)]) HW5.out.hi (fun x hx => by
        simp only [List.mem_cons, List.not_mem_nil, or_false] at hx
        rcases hx with rfl | rfl | rfl | rfl | rfl
        · exact ⟨ent_of (E := [(⟨#[100]⟩, 2), (⟨#[102]⟩, 3), (⟨#[103]⟩, 3)]) HW5.out.ha, Nat.le_refl _⟩
        · exact ⟨ent_of (E := [(⟨#[104]⟩, 10)]) HW5.out.hb, Nat.le_refl _⟩
        · exact ⟨ent_nil _ _, Nat.le_refl _⟩
        · exact ⟨ent_nil _ _, Nat.le_refl _⟩
        · exact ⟨ent_nil _ _, Nat.le_refl _⟩)) (fun i hi => by simp at hi) (int_of (M := [3, 2]) HW5.out.hm) few_lo0 (Nat.le_refl _) (Nat.le_refl _) (Nat.le_refl _)
    have HWe : Hid (_) := hW5
    have HKw : Hid (Kept [] w W5) := HK1.out.trans HW5.out.kept (by simp)
    have HBx5 : Hid (_) := hbx
    clear hbx hW5
    go_upto_region 7 with fail
    rw [HWe.out]
    clear HWe x0 hb hbe
    have y0 : W5.cell? ⟨X, 0, none⟩ = some (.slice (some ⟨N + 1 + 1 + 1 + 1, 0, none⟩) 5 5) := cellB HBx5.out
    have y1 : W5.cell? ⟨X, 1, none⟩ = some (.slice none 0 0) := cellB HBx5.out
    have y2 : W5.cell? ⟨X, 2, none⟩ = some (.slice (some ⟨N, 0, none⟩) 2 2) := cellB HBx5.out
    go_wp2_with fail
    refine (p_Checks HS5.out (HT.out.kept HKw.out) ok_lo0).mono ?_
    rintro e w7 ⟨a7, c7, rfl, h7, k7⟩
    have HK7 : Hid (Kept [] w w7) := HKw.out.trans k7 (by simp)
    have HF7 : Hid (FiA w7 a7 [⟨4, 11, ⟨#[]⟩⟩]) := h7
    clear h7 k7 y0 y1 y2
    go_wp2_with fail
    refine (r_lost0 w7 a0 hk).mono ?_
    rintro e w8 ⟨Z, rfl, b8, k8⟩
    have HSm : Hid (Calls Tryd.prog 10 #[.slice a7 1 c7, .slice (some ⟨Z, 0, none⟩) 1 1] w8 fun e w' => e = .returned (.bool true) ∧ Kept [] w8 w') := same_F (M := [⟨4, 11, ⟨#[]⟩⟩]) c7 1 (by simp) (HF7.out.kept k8) (fia_of (M := [⟨4, 11, ⟨#[]⟩⟩]) b8)
    have HK8 : Hid (Kept [] w w8) := HK7.out.trans k8 (by simp)
    clear k8 b8 HF7 HK7
    go_wp2_with fail
    refine Calls.mono HSm.out ?_
    rintro e w9 ⟨rfl, k9⟩
    have HK9 : Hid (Kept [] w w9) := HK8.out.trans k9 (by simp)
    clear k9 HSm HK8
    go_wp2_with fail
    go_ret
    exact ⟨rfl, HK9.out⟩
  · have hb : bits .and .i64 a0 1 = 1 := by rw [i64_and1, hk]
    have hbe : ((1 : Int) == 1) = true := by rfl
    have c2 : W1.cell? ⟨N + 1 + 1 + 1 + 1, 2, none⟩ = some (.slice (some ⟨N + 1 + 1, 0, none⟩) 3 3) := by rw [cellB HW1.out.hi]; rfl
    have f2 : W1.frozen? ⟨N + 1 + 1 + 1 + 1, 2, none⟩ = false := by have := HW1.out.hi; simp [World.frozen?, this]
    obtain ⟨W5, hW5⟩ : ∃ W5, (W1.setCell ⟨N + 1 + 1 + 1 + 1, 2, none⟩ (.slice (some ⟨N + 1 + 1, 2, none⟩) 2 2)).drew = W5 := ⟨_, rfl⟩
    have HW5 : Hid (Wo w1 W5 N cm0 co0 ca0 cb0 ((ci0 N).setIfInBounds 2 (.slice (some ⟨N + 1 + 1, 2, none⟩) 2 2))) := by rw [← hW5]; exact (HW1.out.setI 2 (.slice (some ⟨N + 1 + 1, 2, none⟩) 2 2)).same ((Kept.refl _ _).drew)
    have hbx : W5.heap[X]? = some (.cells #[.slice (some ⟨N + 1 + 1 + 1 + 1, 0, none⟩) 5 5, .slice none 0 0, .slice (some ⟨N, 0, none⟩) 2 2] 27 (0, 0)) := by rw [← hW5, ((Kept.refl [] _).drew).block _ (by simp; exact lt_of_heap HBx1.out) (by simp)]; exact far_set HBx1.out (by have := HX.out; omega)
    have HS5 : Hid (Sv W5 ⟨some ⟨N + 1 + 1 + 1 + 1, 0, none⟩, 5, none, 0, some ⟨N, 0, none⟩, 2⟩ Slo1) := sv_mk (ino_of (L := [(⟨1, true, [(⟨#[102]⟩, 3), (⟨#[103]⟩, 3)], ⟨#[]⟩⟩, some ⟨N + 1 + 1, 2, none⟩, 2), (⟨2, true, [(⟨#[104]⟩, 10)], ⟨#[]⟩⟩, some ⟨N + 1 + 1 + 1, 0, none⟩, 1), (⟨3, false, [], ⟨#[116, 104, 114, 101, 101]⟩⟩, none, 0), (⟨10, false, [], ⟨#[]⟩⟩, none, 0), (⟨11, false, [], ⟨#[111, 112, 101, 110]⟩⟩, none, 0)]) HW5.out.hi (fun x hx => by
        simp only [List.mem_cons, List.not_mem_nil, or_false] at hx
        rcases hx with rfl | rfl | rfl | rfl | rfl
        · exact ⟨ent_tail (e := (⟨#[100]⟩, 2)) (ent_of (E := [(⟨#[100]⟩, 2), (⟨#[102]⟩, 3), (⟨#[103]⟩, 3)]) HW5.out.ha), Nat.le_refl _⟩
        · exact ⟨ent_of (E := [(⟨#[104]⟩, 10)]) HW5.out.hb, Nat.le_refl _⟩
        · exact ⟨ent_nil _ _, Nat.le_refl _⟩
        · exact ⟨ent_nil _ _, Nat.le_refl _⟩
        · exact ⟨ent_nil _ _, Nat.le_refl _⟩)) (fun i hi => by simp at hi) (int_of (M := [3, 2]) HW5.out.hm) few_lo1 (Nat.le_refl _) (Nat.le_refl _) (Nat.le_refl _)
    have HWe : Hid (_) := hW5
    have HKw : Hid (Kept [] w W5) := HK1.out.trans HW5.out.kept (by simp)
    have HBx5 : Hid (_) := hbx
    clear hbx hW5
    go_upto_region 6 with fail
    go_region
    rw [HWe.out]
    clear c2 f2
    clear HWe x0 hb hbe
    have y0 : W5.cell? ⟨X, 0, none⟩ = some (.slice (some ⟨N + 1 + 1 + 1 + 1, 0, none⟩) 5 5) := cellB HBx5.out
    have y1 : W5.cell? ⟨X, 1, none⟩ = some (.slice none 0 0) := cellB HBx5.out
    have y2 : W5.cell? ⟨X, 2, none⟩ = some (.slice (some ⟨N, 0, none⟩) 2 2) := cellB HBx5.out
    go_wp2_with fail
    refine (p_Checks HS5.out (HT.out.kept HKw.out) ok_lo1).mono ?_
    rintro e w7 ⟨a7, c7, rfl, h7, k7⟩
    have HK7 : Hid (Kept [] w w7) := HKw.out.trans k7 (by simp)
    have HF7 : Hid (FiA w7 a7 [⟨3, 2, ⟨#[]⟩⟩, ⟨4, 2, ⟨#[]⟩⟩, ⟨4, 10, ⟨#[]⟩⟩, ⟨4, 11, ⟨#[]⟩⟩]) := h7
    clear h7 k7 y0 y1 y2
    go_wp2_with fail
    refine (r_lost1 w7 a0 hk).mono ?_
    rintro e w8 ⟨Z, rfl, b8, k8⟩
    have HSm : Hid (Calls Tryd.prog 10 #[.slice a7 4 c7, .slice (some ⟨Z, 0, none⟩) 4 4] w8 fun e w' => e = .returned (.bool true) ∧ Kept [] w8 w') := same_F (M := [⟨3, 2, ⟨#[]⟩⟩, ⟨4, 2, ⟨#[]⟩⟩, ⟨4, 10, ⟨#[]⟩⟩, ⟨4, 11, ⟨#[]⟩⟩]) c7 4 (by simp) (HF7.out.kept k8) (fia_of (M := [⟨3, 2, ⟨#[]⟩⟩, ⟨4, 2, ⟨#[]⟩⟩, ⟨4, 10, ⟨#[]⟩⟩, ⟨4, 11, ⟨#[]⟩⟩]) b8)
    have HK8 : Hid (Kept [] w w8) := HK7.out.trans k8 (by simp)
    clear k8 b8 HF7 HK7
    go_wp2_with fail
    refine Calls.mono HSm.out ?_
    rintro e w9 ⟨rfl, k9⟩
    have HK9 : Hid (Kept [] w w9) := HK8.out.trans k9 (by simp)
    clear k9 HSm HK8
    go_wp2_with fail
    go_ret
    exact ⟨rfl, HK9.out⟩

end Go.Proofs.YtgfdcnjnkljahaaDoor
