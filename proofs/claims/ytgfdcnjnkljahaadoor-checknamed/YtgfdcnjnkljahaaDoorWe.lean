/-
  What every program answers that is one: awake.
-/
import Derived.Test.YtgfdcnjnkljahaaDoorWd
namespace Go.Proofs.YtgfdcnjnkljahaaDoor
open Go.RowKit Go.Lib Go.Maps
set_option linter.unusedVariables false
set_option linter.unusedSimpArgs false

set_option maxRecDepth 100000 in
set_option maxHeartbeats 8000000 in
theorem awake_any (w : World) (hT : Tab w) : Calls Tryd.prog 8 #[] w fun e w' => e = .returned (.bool true) ∧ Kept [] w w' := by
  have HT : Hid (Tab w) := hT
  clear hT
  go_enter Tryd.func8, Tryd.ntmps8
  go_wp2_with fail
  refine (r_New1 _).mono ?_
  rintro e w1 ⟨I, M, rfl, hI, hM, k1⟩
  obtain ⟨V1, X, HV1, kv1, b1⟩ := one_box w1 #[.slice (some ⟨I, 0, none⟩) 1 1, .slice none 0 0, .slice (some ⟨M, 0, none⟩) 1 1] 27
  have hI1 : V1.heap[I]? = some (.cells #[.int .i64 1, .bool true, .slice none 0 0, .string ⟨#[]⟩] 31 (0, 0)) := by rw [kv1.block _ (lt_of_heap hI) (by simp)]; exact hI
  have hM1 : V1.heap[M]? = some (.cells #[.int .i64 0] 3 (0, 0)) := by rw [kv1.block _ (lt_of_heap hM) (by simp)]; exact hM
  have HS0 : Hid (Sv V1 ⟨some ⟨I, 0, none⟩, 1, none, 0, some ⟨M, 0, none⟩, 1⟩ S0) := sv_mk (ino_of (L := [(rootI, none, 0)]) hI1 (fun x hx => by simp at hx; subst hx; exact ⟨ent_nil _ _, Nat.le_refl _⟩)) (fun i hi => by simp at hi) (int_of (M := [0]) hM1) few_0 (Nat.le_refl _) (Nat.le_refl _) (Nat.le_refl _)
  have HK1 : Hid (Kept [] w V1) := k1.trans kv1 (by simp)
  have HB1 : Hid (V1.heap[X]? = some (.cells #[.slice (some ⟨I, 0, none⟩) 1 1, .slice none 0 0, .slice (some ⟨M, 0, none⟩) 1 1] 27 (0, 0))) := b1
  have HCp : Hid (Calls Tryd.prog 15 #[.agg #[.slice (some ⟨I, 0, none⟩) 1 1, .slice none 0 0, .slice (some ⟨M, 0, none⟩) 1 1]] V1 (Copied V1)) := r_Copy1 hI1 hM1
  have x0 : V1.cell? ⟨X, 0, none⟩ = some (.slice (some ⟨I, 0, none⟩) 1 1) := cellB b1
  have x1 : V1.cell? ⟨X, 1, none⟩ = some (.slice none 0 0) := cellB b1
  have x2 : V1.cell? ⟨X, 2, none⟩ = some (.slice (some ⟨M, 0, none⟩) 1 1) := cellB b1
  clear hI hM k1 kv1 b1 hI1 hM1
  go_upto_region 2 with fail
  rw [HV1.out.1, HV1.out.2]
  clear HV1
  go_wp2_with fail
  refine Calls.mono HCp.out ?_
  rintro e w2 ⟨g, cg, cur, e0, m, cm, mur, rfl, hg, hcur, hm, hmur, k2, hgm, hgs, hcg, hcm⟩
  obtain ⟨V2, Y, HV2, kv2, b2⟩ := one_box w2 #[.slice (some ⟨g, 0, none⟩) 1 cg, .slice none 0 0, .slice (some ⟨m, 0, none⟩) 1 cm] 27
  have hg2 : V2.heap[g]? = some (.cells cur 31 (0, 0)) := by rw [kv2.block _ (lt_of_heap hg) (by simp)]; exact hg
  have hm2 : V2.heap[m]? = some (.cells mur 3 (0, 0)) := by rw [kv2.block _ (lt_of_heap hm) (by simp)]; exact hm
  have HK2 : Hid (Kept [] V1 V2) := k2.trans kv2 (by simp)
  obtain ⟨V3, E, HV3, kv3, b3⟩ := one_box V2 #[.string ⟨#[97]⟩, .int .i64 2] 33
  have hg3 : V3.heap[g]? = some (.cells cur 31 (0, 0)) := by rw [kv3.block _ (lt_of_heap hg2) (by simp)]; exact hg2
  have hm3 : V3.heap[m]? = some (.cells mur 3 (0, 0)) := by rw [kv3.block _ (lt_of_heap hm2) (by simp)]; exact hm2
  have b2' : V3.heap[Y]? = some (.cells #[.slice (some ⟨g, 0, none⟩) 1 cg, .slice none 0 0, .slice (some ⟨m, 0, none⟩) 1 cm] 27 (0, 0)) := by rw [kv3.block _ (lt_of_heap b2) (by simp)]; exact b2
  have hcl : ∀ j u, j < 4 → [Value.int .i64 1, .bool true, .slice (some ⟨e0, 0, none⟩) 0 0, .string ⟨#[]⟩][j]? = some u → cur[j]? = some u := fun j u hj hu => by
    rw [← hcur, List.getElem?_take_of_lt hj] at hu
    simpa using hu
  obtain ⟨V4, hV4⟩ : ∃ V4, V3.setCell ⟨g, 2, none⟩ (.slice (some ⟨E, 0, none⟩) 1 1) = V4 := ⟨_, rfl⟩
  have k4 : Kept [g] V3 V4 := by rw [← hV4]; exact (Kept.refl _ _).setCell (Or.inl (by simp)) _
  have hgl := lt_of_heap hg
  have hg4 : V4.heap[g]? = some (.cells (cur.setIfInBounds 2 (.slice (some ⟨E, 0, none⟩) 1 1)) 31 (0, 0)) := by rw [← hV4, Go.heap_setCell_same V3 _ 2 _ _ _ hg3]
  have hEg : E ≠ g := by have := HV3.out.2; have := lt_of_heap hg2; omega
  have hYg : Y ≠ g := by have := HV2.out.2; omega
  have b3' : V4.heap[E]? = some (.cells #[.string ⟨#[97]⟩, .int .i64 2] 33 (0, 0)) := by rw [k4.block _ (lt_of_heap b3) (by simpa using hEg)]; exact b3
  have b4 : V4.heap[Y]? = some (.cells #[.slice (some ⟨g, 0, none⟩) 1 cg, .slice none 0 0, .slice (some ⟨m, 0, none⟩) 1 cm] 27 (0, 0)) := by rw [k4.block _ (lt_of_heap b2') (by simpa using hYg)]; exact b2'
  have hm4 : V4.heap[m]? = some (.cells mur 3 (0, 0)) := by rw [k4.block _ (lt_of_heap hm3) (by simpa using hgm.symm)]; exact hm3
  have HKw4 : Hid (Kept [] V1 V4) := (HK2.out.trans kv3 (by simp)).trans k4 (fun x hx => Or.inr (by simp at hx; omega))
  have HS1 : Hid (Sv V4 ⟨some ⟨g, 0, none⟩, cg, none, 0, some ⟨m, 0, none⟩, cm⟩ S1) := by
    refine sv_mk (fun i hi => ?_) (fun i hi => by simp at hi) (fun i hi => ?_) few_1 hcg (Nat.le_refl _) hcm
    · have e : i = 0 := by simp at hi; omega
      subst e
      have hsz : 4 ≤ cur.size := by have := congrArg List.length hcur; simp at this; omega
      have hc2 : ∀ j u, j ≠ 2 → cur[j]? = some u → V4.cell? ⟨g, j, none⟩ = some u := fun j u hj hu => by
        rw [cellB hg4, Array.getElem?_setIfInBounds_ne (Ne.symm hj)]; exact hu
      refine ⟨g, 0, some ⟨E, 0, none⟩, 1, rfl, hc2 0 _ (by omega) (hcl 0 _ (by omega) rfl), hc2 1 _ (by omega) (hcl 1 _ (by omega) rfl), ?_, hc2 3 _ (by omega) (hcl 3 _ (by omega) rfl), ent_of (E := [(⟨#[97]⟩, 2)]) b3', Nat.le_refl _, trivial⟩
      rw [cellB hg4]
      simp [show 2 < cur.size by omega]
    · have e : i = 0 := by simp at hi; omega
      subst e
      refine ⟨m, 0, rfl, ?_⟩
      rw [cellB hm4]
      have : (mur.toList.take 1)[0]? = some (Value.int .i64 0) := by rw [hmur]; rfl
      rw [List.getElem?_take_of_lt (by omega)] at this
      simpa using this
  have y0 : V2.cell? ⟨Y, 0, none⟩ = some (.slice (some ⟨g, 0, none⟩) 1 cg) := cellB b2
  have y0' : V3.cell? ⟨Y, 0, none⟩ = some (.slice (some ⟨g, 0, none⟩) 1 cg) := cellB b2'
  have g2 : V3.cell? ⟨g, 2, none⟩ = some (.slice (some ⟨e0, 0, none⟩) 0 0) := by rw [cellB hg3]; exact hcl 2 _ (by omega) rfl
  have gf : V3.frozen? ⟨g, 2, none⟩ = false := by simp [World.frozen?, hg3]
  have g2' : (V2.alloc (.cells #[.string ⟨#[97]⟩, .int .i64 2] 33 (0, 0))).cell? ⟨g, 2, none⟩ = some (.slice (some ⟨e0, 0, none⟩) 0 0) := by rw [HV3.out.1]; exact g2
  have gf' : (V2.alloc (.cells #[.string ⟨#[97]⟩, .int .i64 2] 33 (0, 0))).frozen? ⟨g, 2, none⟩ = false := by rw [HV3.out.1]; exact gf
  have HB4 : Hid (_) := b4
  have HV4 : Hid (_) := hV4
  clear hg hcur hm hmur k2 hgm hgs hcg hcm kv2 b2 hg2 hm2 kv3 b3 hg3 hm3 b2' hcl hV4 k4 hgl hg4 hEg hYg b3' b4 hm4 HCp HK2 x0 x1 x2
  go_upto_region 3 with fail
  rw [HV2.out.1, HV2.out.2]
  clear HV2
  go_upto_region 4 with fail
  rw [HV3.out.1, HV3.out.2, HV4.out]
  clear HV3 HV4 g2 gf g2' gf' y0 y0'
  go_wp2_with fail
  refine (r_Image0 _).mono ?_
  rintro e w5 ⟨⟨vi, rfl⟩, k5⟩
  have HK5 : Hid (Kept [] V1 w5) := HKw4.out.trans k5 (by simp)
  have HB5 : Hid (w5.heap[Y]? = some (.cells #[.slice (some ⟨g, 0, none⟩) 1 cg, .slice none 0 0, .slice (some ⟨m, 0, none⟩) 1 cm] 27 (0, 0))) := by show _ = _; rw [k5.block _ (lt_of_heap HB4.out) (by simp)]; exact HB4.out
  have HS15 : Hid (_) := HS1.out.kept k5
  clear k5 HB4 HS1 HKw4
  have hbX : w5.heap[X]? = some (.cells #[.slice (some ⟨I, 0, none⟩) 1 1, .slice none 0 0, .slice (some ⟨M, 0, none⟩) 1 1] 27 (0, 0)) := by rw [HK5.out.block _ (lt_of_heap HB1.out) (by simp)]; exact HB1.out
  have x0 : w5.cell? ⟨X, 0, none⟩ = some (.slice (some ⟨I, 0, none⟩) 1 1) := cellB hbX
  have x1 : w5.cell? ⟨X, 1, none⟩ = some (.slice none 0 0) := cellB hbX
  have x2 : w5.cell? ⟨X, 2, none⟩ = some (.slice (some ⟨M, 0, none⟩) 1 1) := cellB hbX
  clear hbX
  go_upto_region 5 with fail
  go_wp2_with fail
  refine (p_Checks (HS0.out.kept HK5.out) (HT.out.kept (HK1.out.trans HK5.out (by simp))) ok_0).mono ?_
  rintro e w6 ⟨a6, c6, rfl, -, k6⟩
  have hbY : w6.heap[Y]? = some (.cells #[.slice (some ⟨g, 0, none⟩) 1 cg, .slice none 0 0, .slice (some ⟨m, 0, none⟩) 1 cm] 27 (0, 0)) := by rw [k6.block _ (lt_of_heap HB5.out) (by simp)]; exact HB5.out
  have y0 : w6.cell? ⟨Y, 0, none⟩ = some (.slice (some ⟨g, 0, none⟩) 1 cg) := cellB hbY
  have y1 : w6.cell? ⟨Y, 1, none⟩ = some (.slice none 0 0) := cellB hbY
  have y2 : w6.cell? ⟨Y, 2, none⟩ = some (.slice (some ⟨m, 0, none⟩) 1 cm) := cellB hbY
  have HK6 : Hid (Kept [] w w6) := (HK1.out.trans HK5.out (by simp)).trans k6 (by simp)
  have HS16 : Hid (_) := HS15.out.kept k6
  clear k6 hbY HS0 HS15 HB1 HB5 HK1 HK5 x0 x1 x2
  go_wp2_with fail
  refine (p_Checks HS16.out (HT.out.kept HK6.out) ok_1).mono ?_
  rintro e w7 ⟨a7, c7, rfl, h7, k7⟩
  have HK7 : Hid (Kept [] w w7) := HK6.out.trans k7 (by simp)
  have HF7 : Hid (FiA w7 a7 M1) := h7
  clear h7 k7 y0 y1 y2 HK6 HS16
  obtain ⟨V8, Z, HV8, kv8, b8⟩ := one_box w7 #[.int .i64 2, .int .i64 1, .string ⟨#[97]⟩] 42
  have HSm : Hid (Calls Tryd.prog 10 #[.slice a7 M1.length c7, .slice (some ⟨Z, 0, none⟩) M1.length 1] V8 fun e w' => e = .returned (.bool true) ∧ Kept [] V8 w') := same_F c7 1 (by simp) (HF7.out.kept kv8) (fia_of (M := M1) b8)
  have HK8 : Hid (Kept [] w V8) := HK7.out.trans kv8 (by simp)
  clear kv8 b8 HF7 HK7
  go_wp2_with fail
  rw [HV8.out.1, HV8.out.2]
  refine Calls.mono HSm.out ?_
  rintro e w9 ⟨rfl, k9⟩
  have HK9 : Hid (Kept [] w w9) := HK8.out.trans k9 (by simp)
  clear k9 HSm HK8 HV8
  go_wp2_with fail
  refine (n_num _ _).mono ?_
  rintro e w10 ⟨rfl, hw⟩
  have hw2 := hw.symm
  subst hw2
  clear hw
  go_wp2_with fail
  go_ret
  exact ⟨rfl, HK9.out⟩

end Go.Proofs.YtgfdcnjnkljahaaDoor
