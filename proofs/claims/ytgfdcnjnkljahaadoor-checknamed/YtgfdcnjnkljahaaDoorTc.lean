/-
  Names that may not be, or do not rise.
-/
import Derived.Test.YtgfdcnjnkljahaaDoorWg
namespace Go.Proofs.YtgfdcnjnkljahaaDoor
open Go.RowKit Go.Lib Go.Maps
set_option linter.unusedVariables false
set_option linter.unusedSimpArgs false

@[reducible] def Sna0 : Sta := ⟨[⟨1, true, [(⟨#[100]⟩, 2), (⟨#[97, 47, 98]⟩, 3), (⟨#[103]⟩, 3)], ⟨#[]⟩⟩, ⟨2, true, [(⟨#[104]⟩, 10)], ⟨#[]⟩⟩, ⟨3, false, [], ⟨#[116, 104, 114, 101, 101]⟩⟩, ⟨10, false, [], ⟨#[]⟩⟩, ⟨11, false, [], ⟨#[111, 112, 101, 110]⟩⟩], [(1, 2, 11)], [3, 2]⟩
theorem ok_na0 : okS Sna0 [⟨5, 1, ⟨#[97, 47, 98]⟩⟩] = true := by kernel_rfl
theorem few_na0 : Few Sna0 := few_of (by kernel_rfl)

@[reducible] def Sna1 : Sta := ⟨[⟨1, true, [(⟨#[100]⟩, 2), (⟨#[]⟩, 3), (⟨#[103]⟩, 3)], ⟨#[]⟩⟩, ⟨2, true, [(⟨#[104]⟩, 10)], ⟨#[]⟩⟩, ⟨3, false, [], ⟨#[116, 104, 114, 101, 101]⟩⟩, ⟨10, false, [], ⟨#[]⟩⟩, ⟨11, false, [], ⟨#[111, 112, 101, 110]⟩⟩], [(1, 2, 11)], [3, 2]⟩
theorem ok_na1 : okS Sna1 [⟨5, 1, ⟨#[]⟩⟩] = true := by kernel_rfl
theorem few_na1 : Few Sna1 := few_of (by kernel_rfl)

@[reducible] def Sna2 : Sta := ⟨[⟨1, true, [(⟨#[100]⟩, 2), (⟨#[100]⟩, 3), (⟨#[103]⟩, 3)], ⟨#[]⟩⟩, ⟨2, true, [(⟨#[104]⟩, 10)], ⟨#[]⟩⟩, ⟨3, false, [], ⟨#[116, 104, 114, 101, 101]⟩⟩, ⟨10, false, [], ⟨#[]⟩⟩, ⟨11, false, [], ⟨#[111, 112, 101, 110]⟩⟩], [(1, 2, 11)], [3, 2]⟩
theorem ok_na2 : okS Sna2 [⟨5, 1, ⟨#[100]⟩⟩] = true := by kernel_rfl
theorem few_na2 : Few Sna2 := few_of (by kernel_rfl)

@[reducible] def Sna3 : Sta := ⟨[⟨1, true, [(⟨#[100]⟩, 2), (⟨#[98]⟩, 3), (⟨#[103]⟩, 3)], ⟨#[]⟩⟩, ⟨2, true, [(⟨#[104]⟩, 10)], ⟨#[]⟩⟩, ⟨3, false, [], ⟨#[116, 104, 114, 101, 101]⟩⟩, ⟨10, false, [], ⟨#[]⟩⟩, ⟨11, false, [], ⟨#[111, 112, 101, 110]⟩⟩], [(1, 2, 11)], [3, 2]⟩
theorem ok_na3 : okS Sna3 [⟨5, 1, ⟨#[98]⟩⟩] = true := by kernel_rfl
theorem few_na3 : Few Sna3 := few_of (by kernel_rfl)

set_option maxRecDepth 100000 in
set_option maxHeartbeats 8000000 in
theorem named_any (a0 : Int) (w : World) (hT : Tab w) :
    Calls Tryd.prog 7 #[.int .i64 a0] w fun e w' => e = .returned (.bool true) ∧ Kept [] w w' := by
  have HT : Hid (Tab w) := hT
  clear hT
  go_enter Tryd.func7, Tryd.ntmps7
  go_wp2_with fail
  refine (awake_any w HT.out).mono ?_
  rintro e w1 ⟨rfl, k1⟩
  have HK1 : Hid (_) := k1
  clear k1
  go_wp2_with fail
  refine (r_whole _).mono ?_
  rintro e w2 ⟨N, rfl, h2⟩
  obtain ⟨V, X, HV, kv, b1⟩ := one_box w2 #[.slice (some ⟨N + 1 + 1 + 1 + 1, 0, none⟩) 5 5, .slice (some ⟨N + 1, 0, none⟩) 1 1, .slice (some ⟨N, 0, none⟩) 2 2] 27
  have HW : Hid (Wo w1 V N cm0 co0 ca0 cb0 (ci0 N)) := h2.same kv
  have HX : Hid (N + 1 + 1 + 1 + 1 < X) := by have := lt_of_heap h2.hi; have e : w2.heap.size = X := HV.out.2; show _ < _; omega
  have HBx : Hid (V.heap[X]? = some (.cells #[.slice (some ⟨N + 1 + 1 + 1 + 1, 0, none⟩) 5 5, .slice (some ⟨N + 1, 0, none⟩) 1 1, .slice (some ⟨N, 0, none⟩) 2 2] 27 (0, 0))) := b1
  have x0 : V.cell? ⟨X, 0, none⟩ = some (.slice (some ⟨N + 1 + 1 + 1 + 1, 0, none⟩) 5 5) := cellB b1
  have x1 : V.cell? ⟨X, 1, none⟩ = some (.slice (some ⟨N + 1, 0, none⟩) 1 1) := cellB b1
  have x2 : V.cell? ⟨X, 2, none⟩ = some (.slice (some ⟨N, 0, none⟩) 2 2) := cellB b1
  clear h2 kv b1
  go_upto_region 4 with fail
  rw [HV.out.1, HV.out.2]
  clear HV
  obtain ⟨V4, L, HV4, kv4, b4⟩ := one_box V #[.string ⟨#[97, 47, 98]⟩, .string ⟨#[]⟩, .string ⟨#[100]⟩, .string ⟨#[98]⟩] 9
  have HW4 : Hid (_) := HW.out.same kv4
  have hbx4 : V4.heap[X]? = some (.cells #[.slice (some ⟨N + 1 + 1 + 1 + 1, 0, none⟩) 5 5, .slice (some ⟨N + 1, 0, none⟩) 1 1, .slice (some ⟨N, 0, none⟩) 2 2] 27 (0, 0)) := by rw [kv4.block _ (lt_of_heap HBx.out) (by simp)]; exact HBx.out
  have HBx4 : Hid (_) := hbx4
  have HB4 : Hid (V4.heap[L]? = some (.cells #[.string ⟨#[97, 47, 98]⟩, .string ⟨#[]⟩, .string ⟨#[100]⟩, .string ⟨#[98]⟩] 9 (0, 0))) := b4
  clear hbx4 kv4 b4 x0 x1 x2
  have hk : a0 % 4 = 0 ∨ a0 % 4 = 1 ∨ a0 % 4 = 2 ∨ a0 % 4 = 3 := by omega
  rcases hk with hk | hk | hk | hk
  · have hb : bits .and .i64 a0 3 = 0 := by rw [i64_and3, hk]
    have cL4 : V4.cell? ⟨L, 0, none⟩ = some (.string ⟨#[97, 47, 98]⟩) := by rw [cellB HB4.out]; rfl
    go_upto_region 5 with fail
    rw [HV4.out.1]
    have x0 : V4.cell? ⟨X, 0, none⟩ = some (.slice (some ⟨N + 1 + 1 + 1 + 1, 0, none⟩) 5 5) := cellB HBx4.out
    have i2 : V4.cell? ⟨N + 1 + 1 + 1 + 1, 2, none⟩ = some (.slice (some ⟨N + 1 + 1, 0, none⟩) 3 3) := by rw [cellB HW4.out.hi]; rfl
    have c3 : V4.cell? ⟨N + 1 + 1, 2, none⟩ = some (.string ⟨#[102]⟩) := by rw [cellB HW4.out.ha]; rfl
    have f3 : V4.frozen? ⟨N + 1 + 1, 2, none⟩ = false := by have := HW4.out.ha; simp [World.frozen?, this]
    obtain ⟨W5, hW5⟩ : ∃ W5, V4.setCell ⟨N + 1 + 1, 2, none⟩ (.string ⟨#[97, 47, 98]⟩) = W5 := ⟨_, rfl⟩
    have HW5 : Hid (Wo w1 W5 N cm0 co0 (ca0.setIfInBounds 2 (.string ⟨#[97, 47, 98]⟩)) cb0 (ci0 N)) := by rw [← hW5]; exact HW4.out.setA 2 (.string ⟨#[97, 47, 98]⟩)
    have HS5 : Hid (Sv W5 ⟨some ⟨N + 1 + 1 + 1 + 1, 0, none⟩, 5, some ⟨N + 1, 0, none⟩, 1, some ⟨N, 0, none⟩, 2⟩ Sna0) := wo_sv HW5.out few_na0
    have hbx : W5.heap[X]? = some (.cells #[.slice (some ⟨N + 1 + 1 + 1 + 1, 0, none⟩) 5 5, .slice (some ⟨N + 1, 0, none⟩) 1 1, .slice (some ⟨N, 0, none⟩) 2 2] 27 (0, 0)) := by rw [← hW5]; exact far_set HBx4.out (by have := HX.out; omega)
    have HKw : Hid (Kept [] w W5) := HK1.out.trans HW5.out.kept (by simp)
    have HC8 : Hid (∀ w', Kept [] W5 w' → w'.cell? ⟨X, 0, none⟩ = some (.slice (some ⟨N + 1 + 1 + 1 + 1, 0, none⟩) 5 5) ∧ w'.cell? ⟨X, 1, none⟩ = some (.slice (some ⟨N + 1, 0, none⟩) 1 1) ∧ w'.cell? ⟨X, 2, none⟩ = some (.slice (some ⟨N, 0, none⟩) 2 2)) := fun w' kw => by
      have hb' : w'.heap[X]? = some (.cells #[.slice (some ⟨N + 1 + 1 + 1 + 1, 0, none⟩) 5 5, .slice (some ⟨N + 1, 0, none⟩) 1 1, .slice (some ⟨N, 0, none⟩) 2 2] 27 (0, 0)) := by rw [kw.block _ (lt_of_heap hbx) (by simp)]; exact hbx
      exact ⟨cellB hb', cellB hb', cellB hb'⟩
    clear hbx
    go_upto_region 6 with fail
    (try rw [hW5])
    clear hW5 x0 i2 c3 f3 cL4
    refine wp_region_held_drew (S := fun w' => w'.cell? ⟨X, 0, none⟩ = some (.slice (some ⟨N + 1 + 1 + 1 + 1, 0, none⟩) 5 5) ∧ w'.cell? ⟨X, 1, none⟩ = some (.slice (some ⟨N + 1, 0, none⟩) 1 1) ∧ w'.cell? ⟨X, 2, none⟩ = some (.slice (some ⟨N, 0, none⟩) 2 2)) (by kernel_rfl) ?_ (fun hHeld => ?_)
    · exact HC8.out _ (Kept.refl _ _).drew
    have kd0 : Kept [] W5 W5.drew := (Kept.refl _ _).drew
    obtain ⟨U0, hU0⟩ : ∃ U0, U0 = W5.drew := ⟨_, rfl⟩
    rw [← hU0] at kd0 hHeld ⊢
    clear hU0
    refine wpAnyH_take (i := 0) (v := ?vq1) rfl (by kernel_rfl) (by kernel_rfl) (by kernel_rfl) (fun _ _ _ h => h) (Or.inl ⟨by rfl, ?hq1⟩) (by assumption) ?_
    case hq1 =>
      intro w hSw
      (try dsimp only at hSw)
      go_simp
      try with_reducible rfl
    try simp only [Act.put, List.setIfInBounds_toArray, List.set_cons_zero, List.set_cons_succ, List.getElem_toArray, List.getElem_cons_zero, List.getElem_cons_succ]
    refine wpAnyH_take (i := 3) (v := ?vq2) rfl (by kernel_rfl) (by kernel_rfl) (by kernel_rfl) (fun _ _ _ h => h) (Or.inl ⟨by rfl, ?hq2⟩) (by assumption) ?_
    case hq2 =>
      intro w hSw
      (try dsimp only at hSw)
      go_simp
      try with_reducible rfl
    try simp only [Act.put, List.setIfInBounds_toArray, List.set_cons_zero, List.set_cons_succ, List.getElem_toArray, List.getElem_cons_zero, List.getElem_cons_succ]
    refine wpAnyH_take (i := 4) (v := ?vq3) rfl (by kernel_rfl) (by kernel_rfl) (by kernel_rfl) (fun _ _ _ h => h) (Or.inl ⟨by rfl, ?hq3⟩) (by assumption) ?_
    case hq3 =>
      intro w hSw
      (try dsimp only at hSw)
      go_simp
      try with_reducible rfl
    try simp only [Act.put, List.setIfInBounds_toArray, List.set_cons_zero, List.set_cons_succ, List.getElem_toArray, List.getElem_cons_zero, List.getElem_cons_succ]
    refine wpAnyH_ready (rs := [1, 2]) (by kernel_rfl) (by simp) ?_
    refine AllReadyH.cons rfl (fun K hK => ?_) (AllReadyH.cons rfl (fun K hK => ?_) AllReadyH.nil)
    · go_simp
      refine (p_Checks (HS5.out.kept kd0) (HT.out.kept (HKw.out.trans kd0 (by simp))) ok_na0).mono ?_
      rintro e w4 ⟨a7, c7, rfl, HF, kq4⟩
      go_wp2_with fail
      have kk4 : Kept [] W5 w4 := kd0.trans kq4 (by simp)
      refine hK.out _ _ ?_ (fun hHeld => ?_)
      · exact HC8.out _ kk4
      clear hK K
      try simp only [Act.put, List.setIfInBounds_toArray, List.set_cons_zero, List.set_cons_succ, List.getElem_toArray, List.getElem_cons_zero, List.getElem_cons_succ]
      refine wpAnyH_ready (rs := [2]) (by kernel_rfl) (by simp) ?_
      refine AllReadyH.cons rfl (fun K hK => ?_) AllReadyH.nil
      obtain ⟨w5, L5, HV5, kq5, bL⟩ := one_box w4 #[.string ⟨#[97, 47, 98]⟩, .string ⟨#[]⟩, .string ⟨#[100]⟩, .string ⟨#[98]⟩] 9
      go_simp
      rw [HV5.out.1, HV5.out.2]
      have kk5 : Kept [] W5 w5 := kk4.trans kq5 (by simp)
      have HF := HF.kept kq5
      refine hK.out _ _ ?_ (fun hHeld => ?_)
      · exact HC8.out _ kk5
      clear hK K
      try simp only [Act.put, List.setIfInBounds_toArray, List.set_cons_zero, List.set_cons_succ, List.getElem_toArray, List.getElem_cons_zero, List.getElem_cons_succ]
      refine wpAnyH_take (i := 5) (v := ?vq6) rfl (by kernel_rfl) (by kernel_rfl) (by kernel_rfl) (fun _ _ _ h => h) (Or.inl ⟨by rfl, ?hq6⟩) (by assumption) ?_
      case hq6 =>
        intro w hSw
        (try dsimp only at hSw)
        go_simp
        try with_reducible rfl
      try simp only [Act.put, List.setIfInBounds_toArray, List.set_cons_zero, List.set_cons_succ, List.getElem_toArray, List.getElem_cons_zero, List.getElem_cons_succ]
      refine wpAnyH_ready (rs := [6]) (by kernel_rfl) (by simp) ?_
      refine AllReadyH.cons rfl (fun K hK => ?_) AllReadyH.nil
      have cL : w5.cell? ⟨L5, 0, none⟩ = some (.string ⟨#[97, 47, 98]⟩) := by rw [cellB bL]; rfl
      go_simp
      refine hK.out _ _ ?_ (fun hHeld => ?_)
      · exact HC8.out _ kk5
      clear hK K
      try simp only [Act.put, List.setIfInBounds_toArray, List.set_cons_zero, List.set_cons_succ, List.getElem_toArray, List.getElem_cons_zero, List.getElem_cons_succ]
      refine wpAnyH_take (i := 7) (v := ?vq8) rfl (by kernel_rfl) (by kernel_rfl) (by kernel_rfl) (fun _ _ _ h => h) (Or.inl ⟨by rfl, ?hq8⟩) (by assumption) ?_
      case hq8 =>
        intro w hSw
        (try dsimp only at hSw)
        go_simp
        try with_reducible rfl
      try simp only [Act.put, List.setIfInBounds_toArray, List.set_cons_zero, List.set_cons_succ, List.getElem_toArray, List.getElem_cons_zero, List.getElem_cons_succ]
      refine wpAnyH_ready (rs := [8]) (by kernel_rfl) (by simp) ?_
      refine AllReadyH.cons rfl (fun K hK => ?_) AllReadyH.nil
      obtain ⟨w9, Z9, HV9, kq9, bZ⟩ := one_box w5 #[.int .i64 5, .int .i64 1, .string ⟨#[97, 47, 98]⟩] 42
      go_simp
      rw [HV9.out.1, HV9.out.2]
      have kk9 : Kept [] W5 w9 := kk5.trans kq9 (by simp)
      have HF := HF.kept kq9
      have bL : w9.heap[L5]? = some (.cells #[.string ⟨#[97, 47, 98]⟩, .string ⟨#[]⟩, .string ⟨#[100]⟩, .string ⟨#[98]⟩] 9 (0, 0)) := by rw [kq9.block _ (lt_of_heap bL) (by simp)]; exact bL
      refine hK.out _ _ ?_ (fun hHeld => ?_)
      · exact HC8.out _ kk9
      clear hK K
      try simp only [Act.put, List.setIfInBounds_toArray, List.set_cons_zero, List.set_cons_succ, List.getElem_toArray, List.getElem_cons_zero, List.getElem_cons_succ]
      refine wpAnyH_ready (rs := [9]) (by kernel_rfl) (by simp) ?_
      refine AllReadyH.cons rfl (fun K hK => ?_) AllReadyH.nil
      go_simp
      refine (same_F (M := [⟨5, 1, ⟨#[97, 47, 98]⟩⟩]) c7 1 (by simp) HF (fia_of (M := [⟨5, 1, ⟨#[97, 47, 98]⟩⟩]) bZ)).mono ?_
      rintro e w10 ⟨rfl, kq10⟩
      have HKz : Hid (Kept [] w w10) := HKw.out.trans (kk9.trans kq10 (by simp)) (by simp)
      go_wp2_with fail
      have kk10 : Kept [] W5 w10 := kk9.trans kq10 (by simp)
      have HF := HF.kept kq10
      have bL : w10.heap[L5]? = some (.cells #[.string ⟨#[97, 47, 98]⟩, .string ⟨#[]⟩, .string ⟨#[100]⟩, .string ⟨#[98]⟩] 9 (0, 0)) := by rw [kq10.block _ (lt_of_heap bL) (by simp)]; exact bL
      have bZ : w10.heap[Z9]? = some (.cells #[.int .i64 5, .int .i64 1, .string ⟨#[97, 47, 98]⟩] 42 (0, 0)) := by rw [kq10.block _ (lt_of_heap bZ) (by simp)]; exact bZ
      refine hK.out _ _ ?_ (fun hHeld => ?_)
      · exact HC8.out _ kk10
      clear hK K
      try simp only [Act.put, List.setIfInBounds_toArray, List.set_cons_zero, List.set_cons_succ, List.getElem_toArray, List.getElem_cons_zero, List.getElem_cons_succ]
      refine wpAnyH_take (i := 10) (v := ?vq11) rfl (by kernel_rfl) (by kernel_rfl) (by kernel_rfl) (fun _ _ _ h => h) (Or.inl ⟨by rfl, ?hq11⟩) (by assumption) ?_
      case hq11 =>
        intro w hSw
        (try dsimp only at hSw)
        go_simp
        try with_reducible rfl
      try simp only [Act.put, List.setIfInBounds_toArray, List.set_cons_zero, List.set_cons_succ, List.getElem_toArray, List.getElem_cons_zero, List.getElem_cons_succ]
      refine wpAnyH_done (by kernel_rfl) ?_ _
      clear HF hHeld
      go_wp2_with fail
      go_ret
      exact ⟨rfl, HKz.out⟩
    · obtain ⟨w12, L12, HV12, kq12, bL⟩ := one_box U0 #[.string ⟨#[97, 47, 98]⟩, .string ⟨#[]⟩, .string ⟨#[100]⟩, .string ⟨#[98]⟩] 9
      go_simp
      rw [HV12.out.1, HV12.out.2]
      have kk12 : Kept [] W5 w12 := kd0.trans kq12 (by simp)
      refine hK.out _ _ ?_ (fun hHeld => ?_)
      · exact HC8.out _ kk12
      clear hK K
      try simp only [Act.put, List.setIfInBounds_toArray, List.set_cons_zero, List.set_cons_succ, List.getElem_toArray, List.getElem_cons_zero, List.getElem_cons_succ]
      refine wpAnyH_take (i := 5) (v := ?vq13) rfl (by kernel_rfl) (by kernel_rfl) (by kernel_rfl) (fun _ _ _ h => h) (Or.inl ⟨by rfl, ?hq13⟩) (by assumption) ?_
      case hq13 =>
        intro w hSw
        (try dsimp only at hSw)
        go_simp
        try with_reducible rfl
      try simp only [Act.put, List.setIfInBounds_toArray, List.set_cons_zero, List.set_cons_succ, List.getElem_toArray, List.getElem_cons_zero, List.getElem_cons_succ]
      refine wpAnyH_ready (rs := [1, 6]) (by kernel_rfl) (by simp) ?_
      refine AllReadyH.cons rfl (fun K hK => ?_) (AllReadyH.cons rfl (fun K hK => ?_) AllReadyH.nil)
      · go_simp
        refine (p_Checks (HS5.out.kept kk12) (HT.out.kept (HKw.out.trans kk12 (by simp))) ok_na0).mono ?_
        rintro e w14 ⟨a7, c7, rfl, HF, kq14⟩
        go_wp2_with fail
        have kk14 : Kept [] W5 w14 := kk12.trans kq14 (by simp)
        have bL : w14.heap[L12]? = some (.cells #[.string ⟨#[97, 47, 98]⟩, .string ⟨#[]⟩, .string ⟨#[100]⟩, .string ⟨#[98]⟩] 9 (0, 0)) := by rw [kq14.block _ (lt_of_heap bL) (by simp)]; exact bL
        refine hK.out _ _ ?_ (fun hHeld => ?_)
        · exact HC8.out _ kk14
        clear hK K
        try simp only [Act.put, List.setIfInBounds_toArray, List.set_cons_zero, List.set_cons_succ, List.getElem_toArray, List.getElem_cons_zero, List.getElem_cons_succ]
        refine wpAnyH_ready (rs := [6]) (by kernel_rfl) (by simp) ?_
        refine AllReadyH.cons rfl (fun K hK => ?_) AllReadyH.nil
        have cL : w14.cell? ⟨L12, 0, none⟩ = some (.string ⟨#[97, 47, 98]⟩) := by rw [cellB bL]; rfl
        go_simp
        refine hK.out _ _ ?_ (fun hHeld => ?_)
        · exact HC8.out _ kk14
        clear hK K
        try simp only [Act.put, List.setIfInBounds_toArray, List.set_cons_zero, List.set_cons_succ, List.getElem_toArray, List.getElem_cons_zero, List.getElem_cons_succ]
        refine wpAnyH_take (i := 7) (v := ?vq16) rfl (by kernel_rfl) (by kernel_rfl) (by kernel_rfl) (fun _ _ _ h => h) (Or.inl ⟨by rfl, ?hq16⟩) (by assumption) ?_
        case hq16 =>
          intro w hSw
          (try dsimp only at hSw)
          go_simp
          try with_reducible rfl
        try simp only [Act.put, List.setIfInBounds_toArray, List.set_cons_zero, List.set_cons_succ, List.getElem_toArray, List.getElem_cons_zero, List.getElem_cons_succ]
        refine wpAnyH_ready (rs := [8]) (by kernel_rfl) (by simp) ?_
        refine AllReadyH.cons rfl (fun K hK => ?_) AllReadyH.nil
        obtain ⟨w17, Z17, HV17, kq17, bZ⟩ := one_box w14 #[.int .i64 5, .int .i64 1, .string ⟨#[97, 47, 98]⟩] 42
        go_simp
        rw [HV17.out.1, HV17.out.2]
        have kk17 : Kept [] W5 w17 := kk14.trans kq17 (by simp)
        have HF := HF.kept kq17
        have bL : w17.heap[L12]? = some (.cells #[.string ⟨#[97, 47, 98]⟩, .string ⟨#[]⟩, .string ⟨#[100]⟩, .string ⟨#[98]⟩] 9 (0, 0)) := by rw [kq17.block _ (lt_of_heap bL) (by simp)]; exact bL
        refine hK.out _ _ ?_ (fun hHeld => ?_)
        · exact HC8.out _ kk17
        clear hK K
        try simp only [Act.put, List.setIfInBounds_toArray, List.set_cons_zero, List.set_cons_succ, List.getElem_toArray, List.getElem_cons_zero, List.getElem_cons_succ]
        refine wpAnyH_ready (rs := [9]) (by kernel_rfl) (by simp) ?_
        refine AllReadyH.cons rfl (fun K hK => ?_) AllReadyH.nil
        go_simp
        refine (same_F (M := [⟨5, 1, ⟨#[97, 47, 98]⟩⟩]) c7 1 (by simp) HF (fia_of (M := [⟨5, 1, ⟨#[97, 47, 98]⟩⟩]) bZ)).mono ?_
        rintro e w18 ⟨rfl, kq18⟩
        have HKz : Hid (Kept [] w w18) := HKw.out.trans (kk17.trans kq18 (by simp)) (by simp)
        go_wp2_with fail
        have kk18 : Kept [] W5 w18 := kk17.trans kq18 (by simp)
        have HF := HF.kept kq18
        have bL : w18.heap[L12]? = some (.cells #[.string ⟨#[97, 47, 98]⟩, .string ⟨#[]⟩, .string ⟨#[100]⟩, .string ⟨#[98]⟩] 9 (0, 0)) := by rw [kq18.block _ (lt_of_heap bL) (by simp)]; exact bL
        have bZ : w18.heap[Z17]? = some (.cells #[.int .i64 5, .int .i64 1, .string ⟨#[97, 47, 98]⟩] 42 (0, 0)) := by rw [kq18.block _ (lt_of_heap bZ) (by simp)]; exact bZ
        refine hK.out _ _ ?_ (fun hHeld => ?_)
        · exact HC8.out _ kk18
        clear hK K
        try simp only [Act.put, List.setIfInBounds_toArray, List.set_cons_zero, List.set_cons_succ, List.getElem_toArray, List.getElem_cons_zero, List.getElem_cons_succ]
        refine wpAnyH_take (i := 10) (v := ?vq19) rfl (by kernel_rfl) (by kernel_rfl) (by kernel_rfl) (fun _ _ _ h => h) (Or.inl ⟨by rfl, ?hq19⟩) (by assumption) ?_
        case hq19 =>
          intro w hSw
          (try dsimp only at hSw)
          go_simp
          try with_reducible rfl
        try simp only [Act.put, List.setIfInBounds_toArray, List.set_cons_zero, List.set_cons_succ, List.getElem_toArray, List.getElem_cons_zero, List.getElem_cons_succ]
        refine wpAnyH_done (by kernel_rfl) ?_ _
        clear HF hHeld
        go_wp2_with fail
        go_ret
        exact ⟨rfl, HKz.out⟩
      · have cL : w12.cell? ⟨L12, 0, none⟩ = some (.string ⟨#[97, 47, 98]⟩) := by rw [cellB bL]; rfl
        go_simp
        refine hK.out _ _ ?_ (fun hHeld => ?_)
        · exact HC8.out _ kk12
        clear hK K
        try simp only [Act.put, List.setIfInBounds_toArray, List.set_cons_zero, List.set_cons_succ, List.getElem_toArray, List.getElem_cons_zero, List.getElem_cons_succ]
        refine wpAnyH_take (i := 7) (v := ?vq21) rfl (by kernel_rfl) (by kernel_rfl) (by kernel_rfl) (fun _ _ _ h => h) (Or.inl ⟨by rfl, ?hq21⟩) (by assumption) ?_
        case hq21 =>
          intro w hSw
          (try dsimp only at hSw)
          go_simp
          try with_reducible rfl
        try simp only [Act.put, List.setIfInBounds_toArray, List.set_cons_zero, List.set_cons_succ, List.getElem_toArray, List.getElem_cons_zero, List.getElem_cons_succ]
        refine wpAnyH_ready (rs := [1, 8]) (by kernel_rfl) (by simp) ?_
        refine AllReadyH.cons rfl (fun K hK => ?_) (AllReadyH.cons rfl (fun K hK => ?_) AllReadyH.nil)
        · go_simp
          refine (p_Checks (HS5.out.kept kk12) (HT.out.kept (HKw.out.trans kk12 (by simp))) ok_na0).mono ?_
          rintro e w22 ⟨a7, c7, rfl, HF, kq22⟩
          go_wp2_with fail
          have kk22 : Kept [] W5 w22 := kk12.trans kq22 (by simp)
          have bL : w22.heap[L12]? = some (.cells #[.string ⟨#[97, 47, 98]⟩, .string ⟨#[]⟩, .string ⟨#[100]⟩, .string ⟨#[98]⟩] 9 (0, 0)) := by rw [kq22.block _ (lt_of_heap bL) (by simp)]; exact bL
          refine hK.out _ _ ?_ (fun hHeld => ?_)
          · exact HC8.out _ kk22
          clear hK K
          try simp only [Act.put, List.setIfInBounds_toArray, List.set_cons_zero, List.set_cons_succ, List.getElem_toArray, List.getElem_cons_zero, List.getElem_cons_succ]
          refine wpAnyH_ready (rs := [8]) (by kernel_rfl) (by simp) ?_
          refine AllReadyH.cons rfl (fun K hK => ?_) AllReadyH.nil
          obtain ⟨w23, Z23, HV23, kq23, bZ⟩ := one_box w22 #[.int .i64 5, .int .i64 1, .string ⟨#[97, 47, 98]⟩] 42
          go_simp
          rw [HV23.out.1, HV23.out.2]
          have kk23 : Kept [] W5 w23 := kk22.trans kq23 (by simp)
          have HF := HF.kept kq23
          have bL : w23.heap[L12]? = some (.cells #[.string ⟨#[97, 47, 98]⟩, .string ⟨#[]⟩, .string ⟨#[100]⟩, .string ⟨#[98]⟩] 9 (0, 0)) := by rw [kq23.block _ (lt_of_heap bL) (by simp)]; exact bL
          refine hK.out _ _ ?_ (fun hHeld => ?_)
          · exact HC8.out _ kk23
          clear hK K
          try simp only [Act.put, List.setIfInBounds_toArray, List.set_cons_zero, List.set_cons_succ, List.getElem_toArray, List.getElem_cons_zero, List.getElem_cons_succ]
          refine wpAnyH_ready (rs := [9]) (by kernel_rfl) (by simp) ?_
          refine AllReadyH.cons rfl (fun K hK => ?_) AllReadyH.nil
          go_simp
          refine (same_F (M := [⟨5, 1, ⟨#[97, 47, 98]⟩⟩]) c7 1 (by simp) HF (fia_of (M := [⟨5, 1, ⟨#[97, 47, 98]⟩⟩]) bZ)).mono ?_
          rintro e w24 ⟨rfl, kq24⟩
          have HKz : Hid (Kept [] w w24) := HKw.out.trans (kk23.trans kq24 (by simp)) (by simp)
          go_wp2_with fail
          have kk24 : Kept [] W5 w24 := kk23.trans kq24 (by simp)
          have HF := HF.kept kq24
          have bL : w24.heap[L12]? = some (.cells #[.string ⟨#[97, 47, 98]⟩, .string ⟨#[]⟩, .string ⟨#[100]⟩, .string ⟨#[98]⟩] 9 (0, 0)) := by rw [kq24.block _ (lt_of_heap bL) (by simp)]; exact bL
          have bZ : w24.heap[Z23]? = some (.cells #[.int .i64 5, .int .i64 1, .string ⟨#[97, 47, 98]⟩] 42 (0, 0)) := by rw [kq24.block _ (lt_of_heap bZ) (by simp)]; exact bZ
          refine hK.out _ _ ?_ (fun hHeld => ?_)
          · exact HC8.out _ kk24
          clear hK K
          try simp only [Act.put, List.setIfInBounds_toArray, List.set_cons_zero, List.set_cons_succ, List.getElem_toArray, List.getElem_cons_zero, List.getElem_cons_succ]
          refine wpAnyH_take (i := 10) (v := ?vq25) rfl (by kernel_rfl) (by kernel_rfl) (by kernel_rfl) (fun _ _ _ h => h) (Or.inl ⟨by rfl, ?hq25⟩) (by assumption) ?_
          case hq25 =>
            intro w hSw
            (try dsimp only at hSw)
            go_simp
            try with_reducible rfl
          try simp only [Act.put, List.setIfInBounds_toArray, List.set_cons_zero, List.set_cons_succ, List.getElem_toArray, List.getElem_cons_zero, List.getElem_cons_succ]
          refine wpAnyH_done (by kernel_rfl) ?_ _
          clear HF hHeld
          go_wp2_with fail
          go_ret
          exact ⟨rfl, HKz.out⟩
        · obtain ⟨w26, Z26, HV26, kq26, bZ⟩ := one_box w12 #[.int .i64 5, .int .i64 1, .string ⟨#[97, 47, 98]⟩] 42
          go_simp
          rw [HV26.out.1, HV26.out.2]
          have kk26 : Kept [] W5 w26 := kk12.trans kq26 (by simp)
          have bL : w26.heap[L12]? = some (.cells #[.string ⟨#[97, 47, 98]⟩, .string ⟨#[]⟩, .string ⟨#[100]⟩, .string ⟨#[98]⟩] 9 (0, 0)) := by rw [kq26.block _ (lt_of_heap bL) (by simp)]; exact bL
          refine hK.out _ _ ?_ (fun hHeld => ?_)
          · exact HC8.out _ kk26
          clear hK K
          try simp only [Act.put, List.setIfInBounds_toArray, List.set_cons_zero, List.set_cons_succ, List.getElem_toArray, List.getElem_cons_zero, List.getElem_cons_succ]
          refine wpAnyH_ready (rs := [1]) (by kernel_rfl) (by simp) ?_
          refine AllReadyH.cons rfl (fun K hK => ?_) AllReadyH.nil
          go_simp
          refine (p_Checks (HS5.out.kept kk26) (HT.out.kept (HKw.out.trans kk26 (by simp))) ok_na0).mono ?_
          rintro e w27 ⟨a7, c7, rfl, HF, kq27⟩
          go_wp2_with fail
          have kk27 : Kept [] W5 w27 := kk26.trans kq27 (by simp)
          have bL : w27.heap[L12]? = some (.cells #[.string ⟨#[97, 47, 98]⟩, .string ⟨#[]⟩, .string ⟨#[100]⟩, .string ⟨#[98]⟩] 9 (0, 0)) := by rw [kq27.block _ (lt_of_heap bL) (by simp)]; exact bL
          have bZ : w27.heap[Z26]? = some (.cells #[.int .i64 5, .int .i64 1, .string ⟨#[97, 47, 98]⟩] 42 (0, 0)) := by rw [kq27.block _ (lt_of_heap bZ) (by simp)]; exact bZ
          refine hK.out _ _ ?_ (fun hHeld => ?_)
          · exact HC8.out _ kk27
          clear hK K
          try simp only [Act.put, List.setIfInBounds_toArray, List.set_cons_zero, List.set_cons_succ, List.getElem_toArray, List.getElem_cons_zero, List.getElem_cons_succ]
          refine wpAnyH_ready (rs := [9]) (by kernel_rfl) (by simp) ?_
          refine AllReadyH.cons rfl (fun K hK => ?_) AllReadyH.nil
          go_simp
          refine (same_F (M := [⟨5, 1, ⟨#[97, 47, 98]⟩⟩]) c7 1 (by simp) HF (fia_of (M := [⟨5, 1, ⟨#[97, 47, 98]⟩⟩]) bZ)).mono ?_
          rintro e w28 ⟨rfl, kq28⟩
          have HKz : Hid (Kept [] w w28) := HKw.out.trans (kk27.trans kq28 (by simp)) (by simp)
          go_wp2_with fail
          have kk28 : Kept [] W5 w28 := kk27.trans kq28 (by simp)
          have HF := HF.kept kq28
          have bL : w28.heap[L12]? = some (.cells #[.string ⟨#[97, 47, 98]⟩, .string ⟨#[]⟩, .string ⟨#[100]⟩, .string ⟨#[98]⟩] 9 (0, 0)) := by rw [kq28.block _ (lt_of_heap bL) (by simp)]; exact bL
          have bZ : w28.heap[Z26]? = some (.cells #[.int .i64 5, .int .i64 1, .string ⟨#[97, 47, 98]⟩] 42 (0, 0)) := by rw [kq28.block _ (lt_of_heap bZ) (by simp)]; exact bZ
          refine hK.out _ _ ?_ (fun hHeld => ?_)
          · exact HC8.out _ kk28
          clear hK K
          try simp only [Act.put, List.setIfInBounds_toArray, List.set_cons_zero, List.set_cons_succ, List.getElem_toArray, List.getElem_cons_zero, List.getElem_cons_succ]
          refine wpAnyH_take (i := 10) (v := ?vq29) rfl (by kernel_rfl) (by kernel_rfl) (by kernel_rfl) (fun _ _ _ h => h) (Or.inl ⟨by rfl, ?hq29⟩) (by assumption) ?_
          case hq29 =>
            intro w hSw
            (try dsimp only at hSw)
            go_simp
            try with_reducible rfl
          try simp only [Act.put, List.setIfInBounds_toArray, List.set_cons_zero, List.set_cons_succ, List.getElem_toArray, List.getElem_cons_zero, List.getElem_cons_succ]
          refine wpAnyH_done (by kernel_rfl) ?_ _
          clear HF hHeld
          go_wp2_with fail
          go_ret
          exact ⟨rfl, HKz.out⟩
  · have hb : bits .and .i64 a0 3 = 1 := by rw [i64_and3, hk]
    have cL4 : V4.cell? ⟨L, 1, none⟩ = some (.string ⟨#[]⟩) := by rw [cellB HB4.out]; rfl
    go_upto_region 5 with fail
    rw [HV4.out.1]
    have x0 : V4.cell? ⟨X, 0, none⟩ = some (.slice (some ⟨N + 1 + 1 + 1 + 1, 0, none⟩) 5 5) := cellB HBx4.out
    have i2 : V4.cell? ⟨N + 1 + 1 + 1 + 1, 2, none⟩ = some (.slice (some ⟨N + 1 + 1, 0, none⟩) 3 3) := by rw [cellB HW4.out.hi]; rfl
    have c3 : V4.cell? ⟨N + 1 + 1, 2, none⟩ = some (.string ⟨#[102]⟩) := by rw [cellB HW4.out.ha]; rfl
    have f3 : V4.frozen? ⟨N + 1 + 1, 2, none⟩ = false := by have := HW4.out.ha; simp [World.frozen?, this]
    obtain ⟨W5, hW5⟩ : ∃ W5, V4.setCell ⟨N + 1 + 1, 2, none⟩ (.string ⟨#[]⟩) = W5 := ⟨_, rfl⟩
    have HW5 : Hid (Wo w1 W5 N cm0 co0 (ca0.setIfInBounds 2 (.string ⟨#[]⟩)) cb0 (ci0 N)) := by rw [← hW5]; exact HW4.out.setA 2 (.string ⟨#[]⟩)
    have HS5 : Hid (Sv W5 ⟨some ⟨N + 1 + 1 + 1 + 1, 0, none⟩, 5, some ⟨N + 1, 0, none⟩, 1, some ⟨N, 0, none⟩, 2⟩ Sna1) := wo_sv HW5.out few_na1
    have hbx : W5.heap[X]? = some (.cells #[.slice (some ⟨N + 1 + 1 + 1 + 1, 0, none⟩) 5 5, .slice (some ⟨N + 1, 0, none⟩) 1 1, .slice (some ⟨N, 0, none⟩) 2 2] 27 (0, 0)) := by rw [← hW5]; exact far_set HBx4.out (by have := HX.out; omega)
    have HKw : Hid (Kept [] w W5) := HK1.out.trans HW5.out.kept (by simp)
    have HC8 : Hid (∀ w', Kept [] W5 w' → w'.cell? ⟨X, 0, none⟩ = some (.slice (some ⟨N + 1 + 1 + 1 + 1, 0, none⟩) 5 5) ∧ w'.cell? ⟨X, 1, none⟩ = some (.slice (some ⟨N + 1, 0, none⟩) 1 1) ∧ w'.cell? ⟨X, 2, none⟩ = some (.slice (some ⟨N, 0, none⟩) 2 2)) := fun w' kw => by
      have hb' : w'.heap[X]? = some (.cells #[.slice (some ⟨N + 1 + 1 + 1 + 1, 0, none⟩) 5 5, .slice (some ⟨N + 1, 0, none⟩) 1 1, .slice (some ⟨N, 0, none⟩) 2 2] 27 (0, 0)) := by rw [kw.block _ (lt_of_heap hbx) (by simp)]; exact hbx
      exact ⟨cellB hb', cellB hb', cellB hb'⟩
    clear hbx
    go_upto_region 6 with fail
    (try rw [hW5])
    clear hW5 x0 i2 c3 f3 cL4
    refine wp_region_held_drew (S := fun w' => w'.cell? ⟨X, 0, none⟩ = some (.slice (some ⟨N + 1 + 1 + 1 + 1, 0, none⟩) 5 5) ∧ w'.cell? ⟨X, 1, none⟩ = some (.slice (some ⟨N + 1, 0, none⟩) 1 1) ∧ w'.cell? ⟨X, 2, none⟩ = some (.slice (some ⟨N, 0, none⟩) 2 2)) (by kernel_rfl) ?_ (fun hHeld => ?_)
    · exact HC8.out _ (Kept.refl _ _).drew
    have kd0 : Kept [] W5 W5.drew := (Kept.refl _ _).drew
    obtain ⟨U0, hU0⟩ : ∃ U0, U0 = W5.drew := ⟨_, rfl⟩
    rw [← hU0] at kd0 hHeld ⊢
    clear hU0
    refine wpAnyH_take (i := 0) (v := ?vq30) rfl (by kernel_rfl) (by kernel_rfl) (by kernel_rfl) (fun _ _ _ h => h) (Or.inl ⟨by rfl, ?hq30⟩) (by assumption) ?_
    case hq30 =>
      intro w hSw
      (try dsimp only at hSw)
      go_simp
      try with_reducible rfl
    try simp only [Act.put, List.setIfInBounds_toArray, List.set_cons_zero, List.set_cons_succ, List.getElem_toArray, List.getElem_cons_zero, List.getElem_cons_succ]
    refine wpAnyH_take (i := 3) (v := ?vq31) rfl (by kernel_rfl) (by kernel_rfl) (by kernel_rfl) (fun _ _ _ h => h) (Or.inl ⟨by rfl, ?hq31⟩) (by assumption) ?_
    case hq31 =>
      intro w hSw
      (try dsimp only at hSw)
      go_simp
      try with_reducible rfl
    try simp only [Act.put, List.setIfInBounds_toArray, List.set_cons_zero, List.set_cons_succ, List.getElem_toArray, List.getElem_cons_zero, List.getElem_cons_succ]
    refine wpAnyH_take (i := 4) (v := ?vq32) rfl (by kernel_rfl) (by kernel_rfl) (by kernel_rfl) (fun _ _ _ h => h) (Or.inl ⟨by rfl, ?hq32⟩) (by assumption) ?_
    case hq32 =>
      intro w hSw
      (try dsimp only at hSw)
      go_simp
      try with_reducible rfl
    try simp only [Act.put, List.setIfInBounds_toArray, List.set_cons_zero, List.set_cons_succ, List.getElem_toArray, List.getElem_cons_zero, List.getElem_cons_succ]
    refine wpAnyH_ready (rs := [1, 2]) (by kernel_rfl) (by simp) ?_
    refine AllReadyH.cons rfl (fun K hK => ?_) (AllReadyH.cons rfl (fun K hK => ?_) AllReadyH.nil)
    · go_simp
      refine (p_Checks (HS5.out.kept kd0) (HT.out.kept (HKw.out.trans kd0 (by simp))) ok_na1).mono ?_
      rintro e w33 ⟨a7, c7, rfl, HF, kq33⟩
      go_wp2_with fail
      have kk33 : Kept [] W5 w33 := kd0.trans kq33 (by simp)
      refine hK.out _ _ ?_ (fun hHeld => ?_)
      · exact HC8.out _ kk33
      clear hK K
      try simp only [Act.put, List.setIfInBounds_toArray, List.set_cons_zero, List.set_cons_succ, List.getElem_toArray, List.getElem_cons_zero, List.getElem_cons_succ]
      refine wpAnyH_ready (rs := [2]) (by kernel_rfl) (by simp) ?_
      refine AllReadyH.cons rfl (fun K hK => ?_) AllReadyH.nil
      obtain ⟨w34, L34, HV34, kq34, bL⟩ := one_box w33 #[.string ⟨#[97, 47, 98]⟩, .string ⟨#[]⟩, .string ⟨#[100]⟩, .string ⟨#[98]⟩] 9
      go_simp
      rw [HV34.out.1, HV34.out.2]
      have kk34 : Kept [] W5 w34 := kk33.trans kq34 (by simp)
      have HF := HF.kept kq34
      refine hK.out _ _ ?_ (fun hHeld => ?_)
      · exact HC8.out _ kk34
      clear hK K
      try simp only [Act.put, List.setIfInBounds_toArray, List.set_cons_zero, List.set_cons_succ, List.getElem_toArray, List.getElem_cons_zero, List.getElem_cons_succ]
      refine wpAnyH_take (i := 5) (v := ?vq35) rfl (by kernel_rfl) (by kernel_rfl) (by kernel_rfl) (fun _ _ _ h => h) (Or.inl ⟨by rfl, ?hq35⟩) (by assumption) ?_
      case hq35 =>
        intro w hSw
        (try dsimp only at hSw)
        go_simp
        try with_reducible rfl
      try simp only [Act.put, List.setIfInBounds_toArray, List.set_cons_zero, List.set_cons_succ, List.getElem_toArray, List.getElem_cons_zero, List.getElem_cons_succ]
      refine wpAnyH_ready (rs := [6]) (by kernel_rfl) (by simp) ?_
      refine AllReadyH.cons rfl (fun K hK => ?_) AllReadyH.nil
      have cL : w34.cell? ⟨L34, 1, none⟩ = some (.string ⟨#[]⟩) := by rw [cellB bL]; rfl
      go_simp
      refine hK.out _ _ ?_ (fun hHeld => ?_)
      · exact HC8.out _ kk34
      clear hK K
      try simp only [Act.put, List.setIfInBounds_toArray, List.set_cons_zero, List.set_cons_succ, List.getElem_toArray, List.getElem_cons_zero, List.getElem_cons_succ]
      refine wpAnyH_take (i := 7) (v := ?vq37) rfl (by kernel_rfl) (by kernel_rfl) (by kernel_rfl) (fun _ _ _ h => h) (Or.inl ⟨by rfl, ?hq37⟩) (by assumption) ?_
      case hq37 =>
        intro w hSw
        (try dsimp only at hSw)
        go_simp
        try with_reducible rfl
      try simp only [Act.put, List.setIfInBounds_toArray, List.set_cons_zero, List.set_cons_succ, List.getElem_toArray, List.getElem_cons_zero, List.getElem_cons_succ]
      refine wpAnyH_ready (rs := [8]) (by kernel_rfl) (by simp) ?_
      refine AllReadyH.cons rfl (fun K hK => ?_) AllReadyH.nil
      obtain ⟨w38, Z38, HV38, kq38, bZ⟩ := one_box w34 #[.int .i64 5, .int .i64 1, .string ⟨#[]⟩] 42
      go_simp
      rw [HV38.out.1, HV38.out.2]
      have kk38 : Kept [] W5 w38 := kk34.trans kq38 (by simp)
      have HF := HF.kept kq38
      have bL : w38.heap[L34]? = some (.cells #[.string ⟨#[97, 47, 98]⟩, .string ⟨#[]⟩, .string ⟨#[100]⟩, .string ⟨#[98]⟩] 9 (0, 0)) := by rw [kq38.block _ (lt_of_heap bL) (by simp)]; exact bL
      refine hK.out _ _ ?_ (fun hHeld => ?_)
      · exact HC8.out _ kk38
      clear hK K
      try simp only [Act.put, List.setIfInBounds_toArray, List.set_cons_zero, List.set_cons_succ, List.getElem_toArray, List.getElem_cons_zero, List.getElem_cons_succ]
      refine wpAnyH_ready (rs := [9]) (by kernel_rfl) (by simp) ?_
      refine AllReadyH.cons rfl (fun K hK => ?_) AllReadyH.nil
      go_simp
      refine (same_F (M := [⟨5, 1, ⟨#[]⟩⟩]) c7 1 (by simp) HF (fia_of (M := [⟨5, 1, ⟨#[]⟩⟩]) bZ)).mono ?_
      rintro e w39 ⟨rfl, kq39⟩
      have HKz : Hid (Kept [] w w39) := HKw.out.trans (kk38.trans kq39 (by simp)) (by simp)
      go_wp2_with fail
      have kk39 : Kept [] W5 w39 := kk38.trans kq39 (by simp)
      have HF := HF.kept kq39
      have bL : w39.heap[L34]? = some (.cells #[.string ⟨#[97, 47, 98]⟩, .string ⟨#[]⟩, .string ⟨#[100]⟩, .string ⟨#[98]⟩] 9 (0, 0)) := by rw [kq39.block _ (lt_of_heap bL) (by simp)]; exact bL
      have bZ : w39.heap[Z38]? = some (.cells #[.int .i64 5, .int .i64 1, .string ⟨#[]⟩] 42 (0, 0)) := by rw [kq39.block _ (lt_of_heap bZ) (by simp)]; exact bZ
      refine hK.out _ _ ?_ (fun hHeld => ?_)
      · exact HC8.out _ kk39
      clear hK K
      try simp only [Act.put, List.setIfInBounds_toArray, List.set_cons_zero, List.set_cons_succ, List.getElem_toArray, List.getElem_cons_zero, List.getElem_cons_succ]
      refine wpAnyH_take (i := 10) (v := ?vq40) rfl (by kernel_rfl) (by kernel_rfl) (by kernel_rfl) (fun _ _ _ h => h) (Or.inl ⟨by rfl, ?hq40⟩) (by assumption) ?_
      case hq40 =>
        intro w hSw
        (try dsimp only at hSw)
        go_simp
        try with_reducible rfl
      try simp only [Act.put, List.setIfInBounds_toArray, List.set_cons_zero, List.set_cons_succ, List.getElem_toArray, List.getElem_cons_zero, List.getElem_cons_succ]
      refine wpAnyH_done (by kernel_rfl) ?_ _
      clear HF hHeld
      go_wp2_with fail
      go_ret
      exact ⟨rfl, HKz.out⟩
    · obtain ⟨w41, L41, HV41, kq41, bL⟩ := one_box U0 #[.string ⟨#[97, 47, 98]⟩, .string ⟨#[]⟩, .string ⟨#[100]⟩, .string ⟨#[98]⟩] 9
      go_simp
      rw [HV41.out.1, HV41.out.2]
      have kk41 : Kept [] W5 w41 := kd0.trans kq41 (by simp)
      refine hK.out _ _ ?_ (fun hHeld => ?_)
      · exact HC8.out _ kk41
      clear hK K
      try simp only [Act.put, List.setIfInBounds_toArray, List.set_cons_zero, List.set_cons_succ, List.getElem_toArray, List.getElem_cons_zero, List.getElem_cons_succ]
      refine wpAnyH_take (i := 5) (v := ?vq42) rfl (by kernel_rfl) (by kernel_rfl) (by kernel_rfl) (fun _ _ _ h => h) (Or.inl ⟨by rfl, ?hq42⟩) (by assumption) ?_
      case hq42 =>
        intro w hSw
        (try dsimp only at hSw)
        go_simp
        try with_reducible rfl
      try simp only [Act.put, List.setIfInBounds_toArray, List.set_cons_zero, List.set_cons_succ, List.getElem_toArray, List.getElem_cons_zero, List.getElem_cons_succ]
      refine wpAnyH_ready (rs := [1, 6]) (by kernel_rfl) (by simp) ?_
      refine AllReadyH.cons rfl (fun K hK => ?_) (AllReadyH.cons rfl (fun K hK => ?_) AllReadyH.nil)
      · go_simp
        refine (p_Checks (HS5.out.kept kk41) (HT.out.kept (HKw.out.trans kk41 (by simp))) ok_na1).mono ?_
        rintro e w43 ⟨a7, c7, rfl, HF, kq43⟩
        go_wp2_with fail
        have kk43 : Kept [] W5 w43 := kk41.trans kq43 (by simp)
        have bL : w43.heap[L41]? = some (.cells #[.string ⟨#[97, 47, 98]⟩, .string ⟨#[]⟩, .string ⟨#[100]⟩, .string ⟨#[98]⟩] 9 (0, 0)) := by rw [kq43.block _ (lt_of_heap bL) (by simp)]; exact bL
        refine hK.out _ _ ?_ (fun hHeld => ?_)
        · exact HC8.out _ kk43
        clear hK K
        try simp only [Act.put, List.setIfInBounds_toArray, List.set_cons_zero, List.set_cons_succ, List.getElem_toArray, List.getElem_cons_zero, List.getElem_cons_succ]
        refine wpAnyH_ready (rs := [6]) (by kernel_rfl) (by simp) ?_
        refine AllReadyH.cons rfl (fun K hK => ?_) AllReadyH.nil
        have cL : w43.cell? ⟨L41, 1, none⟩ = some (.string ⟨#[]⟩) := by rw [cellB bL]; rfl
        go_simp
        refine hK.out _ _ ?_ (fun hHeld => ?_)
        · exact HC8.out _ kk43
        clear hK K
        try simp only [Act.put, List.setIfInBounds_toArray, List.set_cons_zero, List.set_cons_succ, List.getElem_toArray, List.getElem_cons_zero, List.getElem_cons_succ]
        refine wpAnyH_take (i := 7) (v := ?vq45) rfl (by kernel_rfl) (by kernel_rfl) (by kernel_rfl) (fun _ _ _ h => h) (Or.inl ⟨by rfl, ?hq45⟩) (by assumption) ?_
        case hq45 =>
          intro w hSw
          (try dsimp only at hSw)
          go_simp
          try with_reducible rfl
        try simp only [Act.put, List.setIfInBounds_toArray, List.set_cons_zero, List.set_cons_succ, List.getElem_toArray, List.getElem_cons_zero, List.getElem_cons_succ]
        refine wpAnyH_ready (rs := [8]) (by kernel_rfl) (by simp) ?_
        refine AllReadyH.cons rfl (fun K hK => ?_) AllReadyH.nil
        obtain ⟨w46, Z46, HV46, kq46, bZ⟩ := one_box w43 #[.int .i64 5, .int .i64 1, .string ⟨#[]⟩] 42
        go_simp
        rw [HV46.out.1, HV46.out.2]
        have kk46 : Kept [] W5 w46 := kk43.trans kq46 (by simp)
        have HF := HF.kept kq46
        have bL : w46.heap[L41]? = some (.cells #[.string ⟨#[97, 47, 98]⟩, .string ⟨#[]⟩, .string ⟨#[100]⟩, .string ⟨#[98]⟩] 9 (0, 0)) := by rw [kq46.block _ (lt_of_heap bL) (by simp)]; exact bL
        refine hK.out _ _ ?_ (fun hHeld => ?_)
        · exact HC8.out _ kk46
        clear hK K
        try simp only [Act.put, List.setIfInBounds_toArray, List.set_cons_zero, List.set_cons_succ, List.getElem_toArray, List.getElem_cons_zero, List.getElem_cons_succ]
        refine wpAnyH_ready (rs := [9]) (by kernel_rfl) (by simp) ?_
        refine AllReadyH.cons rfl (fun K hK => ?_) AllReadyH.nil
        go_simp
        refine (same_F (M := [⟨5, 1, ⟨#[]⟩⟩]) c7 1 (by simp) HF (fia_of (M := [⟨5, 1, ⟨#[]⟩⟩]) bZ)).mono ?_
        rintro e w47 ⟨rfl, kq47⟩
        have HKz : Hid (Kept [] w w47) := HKw.out.trans (kk46.trans kq47 (by simp)) (by simp)
        go_wp2_with fail
        have kk47 : Kept [] W5 w47 := kk46.trans kq47 (by simp)
        have HF := HF.kept kq47
        have bL : w47.heap[L41]? = some (.cells #[.string ⟨#[97, 47, 98]⟩, .string ⟨#[]⟩, .string ⟨#[100]⟩, .string ⟨#[98]⟩] 9 (0, 0)) := by rw [kq47.block _ (lt_of_heap bL) (by simp)]; exact bL
        have bZ : w47.heap[Z46]? = some (.cells #[.int .i64 5, .int .i64 1, .string ⟨#[]⟩] 42 (0, 0)) := by rw [kq47.block _ (lt_of_heap bZ) (by simp)]; exact bZ
        refine hK.out _ _ ?_ (fun hHeld => ?_)
        · exact HC8.out _ kk47
        clear hK K
        try simp only [Act.put, List.setIfInBounds_toArray, List.set_cons_zero, List.set_cons_succ, List.getElem_toArray, List.getElem_cons_zero, List.getElem_cons_succ]
        refine wpAnyH_take (i := 10) (v := ?vq48) rfl (by kernel_rfl) (by kernel_rfl) (by kernel_rfl) (fun _ _ _ h => h) (Or.inl ⟨by rfl, ?hq48⟩) (by assumption) ?_
        case hq48 =>
          intro w hSw
          (try dsimp only at hSw)
          go_simp
          try with_reducible rfl
        try simp only [Act.put, List.setIfInBounds_toArray, List.set_cons_zero, List.set_cons_succ, List.getElem_toArray, List.getElem_cons_zero, List.getElem_cons_succ]
        refine wpAnyH_done (by kernel_rfl) ?_ _
        clear HF hHeld
        go_wp2_with fail
        go_ret
        exact ⟨rfl, HKz.out⟩
      · have cL : w41.cell? ⟨L41, 1, none⟩ = some (.string ⟨#[]⟩) := by rw [cellB bL]; rfl
        go_simp
        refine hK.out _ _ ?_ (fun hHeld => ?_)
        · exact HC8.out _ kk41
        clear hK K
        try simp only [Act.put, List.setIfInBounds_toArray, List.set_cons_zero, List.set_cons_succ, List.getElem_toArray, List.getElem_cons_zero, List.getElem_cons_succ]
        refine wpAnyH_take (i := 7) (v := ?vq50) rfl (by kernel_rfl) (by kernel_rfl) (by kernel_rfl) (fun _ _ _ h => h) (Or.inl ⟨by rfl, ?hq50⟩) (by assumption) ?_
        case hq50 =>
          intro w hSw
          (try dsimp only at hSw)
          go_simp
          try with_reducible rfl
        try simp only [Act.put, List.setIfInBounds_toArray, List.set_cons_zero, List.set_cons_succ, List.getElem_toArray, List.getElem_cons_zero, List.getElem_cons_succ]
        refine wpAnyH_ready (rs := [1, 8]) (by kernel_rfl) (by simp) ?_
        refine AllReadyH.cons rfl (fun K hK => ?_) (AllReadyH.cons rfl (fun K hK => ?_) AllReadyH.nil)
        · go_simp
          refine (p_Checks (HS5.out.kept kk41) (HT.out.kept (HKw.out.trans kk41 (by simp))) ok_na1).mono ?_
          rintro e w51 ⟨a7, c7, rfl, HF, kq51⟩
          go_wp2_with fail
          have kk51 : Kept [] W5 w51 := kk41.trans kq51 (by simp)
          have bL : w51.heap[L41]? = some (.cells #[.string ⟨#[97, 47, 98]⟩, .string ⟨#[]⟩, .string ⟨#[100]⟩, .string ⟨#[98]⟩] 9 (0, 0)) := by rw [kq51.block _ (lt_of_heap bL) (by simp)]; exact bL
          refine hK.out _ _ ?_ (fun hHeld => ?_)
          · exact HC8.out _ kk51
          clear hK K
          try simp only [Act.put, List.setIfInBounds_toArray, List.set_cons_zero, List.set_cons_succ, List.getElem_toArray, List.getElem_cons_zero, List.getElem_cons_succ]
          refine wpAnyH_ready (rs := [8]) (by kernel_rfl) (by simp) ?_
          refine AllReadyH.cons rfl (fun K hK => ?_) AllReadyH.nil
          obtain ⟨w52, Z52, HV52, kq52, bZ⟩ := one_box w51 #[.int .i64 5, .int .i64 1, .string ⟨#[]⟩] 42
          go_simp
          rw [HV52.out.1, HV52.out.2]
          have kk52 : Kept [] W5 w52 := kk51.trans kq52 (by simp)
          have HF := HF.kept kq52
          have bL : w52.heap[L41]? = some (.cells #[.string ⟨#[97, 47, 98]⟩, .string ⟨#[]⟩, .string ⟨#[100]⟩, .string ⟨#[98]⟩] 9 (0, 0)) := by rw [kq52.block _ (lt_of_heap bL) (by simp)]; exact bL
          refine hK.out _ _ ?_ (fun hHeld => ?_)
          · exact HC8.out _ kk52
          clear hK K
          try simp only [Act.put, List.setIfInBounds_toArray, List.set_cons_zero, List.set_cons_succ, List.getElem_toArray, List.getElem_cons_zero, List.getElem_cons_succ]
          refine wpAnyH_ready (rs := [9]) (by kernel_rfl) (by simp) ?_
          refine AllReadyH.cons rfl (fun K hK => ?_) AllReadyH.nil
          go_simp
          refine (same_F (M := [⟨5, 1, ⟨#[]⟩⟩]) c7 1 (by simp) HF (fia_of (M := [⟨5, 1, ⟨#[]⟩⟩]) bZ)).mono ?_
          rintro e w53 ⟨rfl, kq53⟩
          have HKz : Hid (Kept [] w w53) := HKw.out.trans (kk52.trans kq53 (by simp)) (by simp)
          go_wp2_with fail
          have kk53 : Kept [] W5 w53 := kk52.trans kq53 (by simp)
          have HF := HF.kept kq53
          have bL : w53.heap[L41]? = some (.cells #[.string ⟨#[97, 47, 98]⟩, .string ⟨#[]⟩, .string ⟨#[100]⟩, .string ⟨#[98]⟩] 9 (0, 0)) := by rw [kq53.block _ (lt_of_heap bL) (by simp)]; exact bL
          have bZ : w53.heap[Z52]? = some (.cells #[.int .i64 5, .int .i64 1, .string ⟨#[]⟩] 42 (0, 0)) := by rw [kq53.block _ (lt_of_heap bZ) (by simp)]; exact bZ
          refine hK.out _ _ ?_ (fun hHeld => ?_)
          · exact HC8.out _ kk53
          clear hK K
          try simp only [Act.put, List.setIfInBounds_toArray, List.set_cons_zero, List.set_cons_succ, List.getElem_toArray, List.getElem_cons_zero, List.getElem_cons_succ]
          refine wpAnyH_take (i := 10) (v := ?vq54) rfl (by kernel_rfl) (by kernel_rfl) (by kernel_rfl) (fun _ _ _ h => h) (Or.inl ⟨by rfl, ?hq54⟩) (by assumption) ?_
          case hq54 =>
            intro w hSw
            (try dsimp only at hSw)
            go_simp
            try with_reducible rfl
          try simp only [Act.put, List.setIfInBounds_toArray, List.set_cons_zero, List.set_cons_succ, List.getElem_toArray, List.getElem_cons_zero, List.getElem_cons_succ]
          refine wpAnyH_done (by kernel_rfl) ?_ _
          clear HF hHeld
          go_wp2_with fail
          go_ret
          exact ⟨rfl, HKz.out⟩
        · obtain ⟨w55, Z55, HV55, kq55, bZ⟩ := one_box w41 #[.int .i64 5, .int .i64 1, .string ⟨#[]⟩] 42
          go_simp
          rw [HV55.out.1, HV55.out.2]
          have kk55 : Kept [] W5 w55 := kk41.trans kq55 (by simp)
          have bL : w55.heap[L41]? = some (.cells #[.string ⟨#[97, 47, 98]⟩, .string ⟨#[]⟩, .string ⟨#[100]⟩, .string ⟨#[98]⟩] 9 (0, 0)) := by rw [kq55.block _ (lt_of_heap bL) (by simp)]; exact bL
          refine hK.out _ _ ?_ (fun hHeld => ?_)
          · exact HC8.out _ kk55
          clear hK K
          try simp only [Act.put, List.setIfInBounds_toArray, List.set_cons_zero, List.set_cons_succ, List.getElem_toArray, List.getElem_cons_zero, List.getElem_cons_succ]
          refine wpAnyH_ready (rs := [1]) (by kernel_rfl) (by simp) ?_
          refine AllReadyH.cons rfl (fun K hK => ?_) AllReadyH.nil
          go_simp
          refine (p_Checks (HS5.out.kept kk55) (HT.out.kept (HKw.out.trans kk55 (by simp))) ok_na1).mono ?_
          rintro e w56 ⟨a7, c7, rfl, HF, kq56⟩
          go_wp2_with fail
          have kk56 : Kept [] W5 w56 := kk55.trans kq56 (by simp)
          have bL : w56.heap[L41]? = some (.cells #[.string ⟨#[97, 47, 98]⟩, .string ⟨#[]⟩, .string ⟨#[100]⟩, .string ⟨#[98]⟩] 9 (0, 0)) := by rw [kq56.block _ (lt_of_heap bL) (by simp)]; exact bL
          have bZ : w56.heap[Z55]? = some (.cells #[.int .i64 5, .int .i64 1, .string ⟨#[]⟩] 42 (0, 0)) := by rw [kq56.block _ (lt_of_heap bZ) (by simp)]; exact bZ
          refine hK.out _ _ ?_ (fun hHeld => ?_)
          · exact HC8.out _ kk56
          clear hK K
          try simp only [Act.put, List.setIfInBounds_toArray, List.set_cons_zero, List.set_cons_succ, List.getElem_toArray, List.getElem_cons_zero, List.getElem_cons_succ]
          refine wpAnyH_ready (rs := [9]) (by kernel_rfl) (by simp) ?_
          refine AllReadyH.cons rfl (fun K hK => ?_) AllReadyH.nil
          go_simp
          refine (same_F (M := [⟨5, 1, ⟨#[]⟩⟩]) c7 1 (by simp) HF (fia_of (M := [⟨5, 1, ⟨#[]⟩⟩]) bZ)).mono ?_
          rintro e w57 ⟨rfl, kq57⟩
          have HKz : Hid (Kept [] w w57) := HKw.out.trans (kk56.trans kq57 (by simp)) (by simp)
          go_wp2_with fail
          have kk57 : Kept [] W5 w57 := kk56.trans kq57 (by simp)
          have HF := HF.kept kq57
          have bL : w57.heap[L41]? = some (.cells #[.string ⟨#[97, 47, 98]⟩, .string ⟨#[]⟩, .string ⟨#[100]⟩, .string ⟨#[98]⟩] 9 (0, 0)) := by rw [kq57.block _ (lt_of_heap bL) (by simp)]; exact bL
          have bZ : w57.heap[Z55]? = some (.cells #[.int .i64 5, .int .i64 1, .string ⟨#[]⟩] 42 (0, 0)) := by rw [kq57.block _ (lt_of_heap bZ) (by simp)]; exact bZ
          refine hK.out _ _ ?_ (fun hHeld => ?_)
          · exact HC8.out _ kk57
          clear hK K
          try simp only [Act.put, List.setIfInBounds_toArray, List.set_cons_zero, List.set_cons_succ, List.getElem_toArray, List.getElem_cons_zero, List.getElem_cons_succ]
          refine wpAnyH_take (i := 10) (v := ?vq58) rfl (by kernel_rfl) (by kernel_rfl) (by kernel_rfl) (fun _ _ _ h => h) (Or.inl ⟨by rfl, ?hq58⟩) (by assumption) ?_
          case hq58 =>
            intro w hSw
            (try dsimp only at hSw)
            go_simp
            try with_reducible rfl
          try simp only [Act.put, List.setIfInBounds_toArray, List.set_cons_zero, List.set_cons_succ, List.getElem_toArray, List.getElem_cons_zero, List.getElem_cons_succ]
          refine wpAnyH_done (by kernel_rfl) ?_ _
          clear HF hHeld
          go_wp2_with fail
          go_ret
          exact ⟨rfl, HKz.out⟩
  · have hb : bits .and .i64 a0 3 = 2 := by rw [i64_and3, hk]
    have cL4 : V4.cell? ⟨L, 2, none⟩ = some (.string ⟨#[100]⟩) := by rw [cellB HB4.out]; rfl
    go_upto_region 5 with fail
    rw [HV4.out.1]
    have x0 : V4.cell? ⟨X, 0, none⟩ = some (.slice (some ⟨N + 1 + 1 + 1 + 1, 0, none⟩) 5 5) := cellB HBx4.out
    have i2 : V4.cell? ⟨N + 1 + 1 + 1 + 1, 2, none⟩ = some (.slice (some ⟨N + 1 + 1, 0, none⟩) 3 3) := by rw [cellB HW4.out.hi]; rfl
    have c3 : V4.cell? ⟨N + 1 + 1, 2, none⟩ = some (.string ⟨#[102]⟩) := by rw [cellB HW4.out.ha]; rfl
    have f3 : V4.frozen? ⟨N + 1 + 1, 2, none⟩ = false := by have := HW4.out.ha; simp [World.frozen?, this]
    obtain ⟨W5, hW5⟩ : ∃ W5, V4.setCell ⟨N + 1 + 1, 2, none⟩ (.string ⟨#[100]⟩) = W5 := ⟨_, rfl⟩
    have HW5 : Hid (Wo w1 W5 N cm0 co0 (ca0.setIfInBounds 2 (.string ⟨#[100]⟩)) cb0 (ci0 N)) := by rw [← hW5]; exact HW4.out.setA 2 (.string ⟨#[100]⟩)
    have HS5 : Hid (Sv W5 ⟨some ⟨N + 1 + 1 + 1 + 1, 0, none⟩, 5, some ⟨N + 1, 0, none⟩, 1, some ⟨N, 0, none⟩, 2⟩ Sna2) := wo_sv HW5.out few_na2
    have hbx : W5.heap[X]? = some (.cells #[.slice (some ⟨N + 1 + 1 + 1 + 1, 0, none⟩) 5 5, .slice (some ⟨N + 1, 0, none⟩) 1 1, .slice (some ⟨N, 0, none⟩) 2 2] 27 (0, 0)) := by rw [← hW5]; exact far_set HBx4.out (by have := HX.out; omega)
    have HKw : Hid (Kept [] w W5) := HK1.out.trans HW5.out.kept (by simp)
    have HC8 : Hid (∀ w', Kept [] W5 w' → w'.cell? ⟨X, 0, none⟩ = some (.slice (some ⟨N + 1 + 1 + 1 + 1, 0, none⟩) 5 5) ∧ w'.cell? ⟨X, 1, none⟩ = some (.slice (some ⟨N + 1, 0, none⟩) 1 1) ∧ w'.cell? ⟨X, 2, none⟩ = some (.slice (some ⟨N, 0, none⟩) 2 2)) := fun w' kw => by
      have hb' : w'.heap[X]? = some (.cells #[.slice (some ⟨N + 1 + 1 + 1 + 1, 0, none⟩) 5 5, .slice (some ⟨N + 1, 0, none⟩) 1 1, .slice (some ⟨N, 0, none⟩) 2 2] 27 (0, 0)) := by rw [kw.block _ (lt_of_heap hbx) (by simp)]; exact hbx
      exact ⟨cellB hb', cellB hb', cellB hb'⟩
    clear hbx
    go_upto_region 6 with fail
    (try rw [hW5])
    clear hW5 x0 i2 c3 f3 cL4
    refine wp_region_held_drew (S := fun w' => w'.cell? ⟨X, 0, none⟩ = some (.slice (some ⟨N + 1 + 1 + 1 + 1, 0, none⟩) 5 5) ∧ w'.cell? ⟨X, 1, none⟩ = some (.slice (some ⟨N + 1, 0, none⟩) 1 1) ∧ w'.cell? ⟨X, 2, none⟩ = some (.slice (some ⟨N, 0, none⟩) 2 2)) (by kernel_rfl) ?_ (fun hHeld => ?_)
    · exact HC8.out _ (Kept.refl _ _).drew
    have kd0 : Kept [] W5 W5.drew := (Kept.refl _ _).drew
    obtain ⟨U0, hU0⟩ : ∃ U0, U0 = W5.drew := ⟨_, rfl⟩
    rw [← hU0] at kd0 hHeld ⊢
    clear hU0
    refine wpAnyH_take (i := 0) (v := ?vq59) rfl (by kernel_rfl) (by kernel_rfl) (by kernel_rfl) (fun _ _ _ h => h) (Or.inl ⟨by rfl, ?hq59⟩) (by assumption) ?_
    case hq59 =>
      intro w hSw
      (try dsimp only at hSw)
      go_simp
      try with_reducible rfl
    try simp only [Act.put, List.setIfInBounds_toArray, List.set_cons_zero, List.set_cons_succ, List.getElem_toArray, List.getElem_cons_zero, List.getElem_cons_succ]
    refine wpAnyH_take (i := 3) (v := ?vq60) rfl (by kernel_rfl) (by kernel_rfl) (by kernel_rfl) (fun _ _ _ h => h) (Or.inl ⟨by rfl, ?hq60⟩) (by assumption) ?_
    case hq60 =>
      intro w hSw
      (try dsimp only at hSw)
      go_simp
      try with_reducible rfl
    try simp only [Act.put, List.setIfInBounds_toArray, List.set_cons_zero, List.set_cons_succ, List.getElem_toArray, List.getElem_cons_zero, List.getElem_cons_succ]
    refine wpAnyH_take (i := 4) (v := ?vq61) rfl (by kernel_rfl) (by kernel_rfl) (by kernel_rfl) (fun _ _ _ h => h) (Or.inl ⟨by rfl, ?hq61⟩) (by assumption) ?_
    case hq61 =>
      intro w hSw
      (try dsimp only at hSw)
      go_simp
      try with_reducible rfl
    try simp only [Act.put, List.setIfInBounds_toArray, List.set_cons_zero, List.set_cons_succ, List.getElem_toArray, List.getElem_cons_zero, List.getElem_cons_succ]
    refine wpAnyH_ready (rs := [1, 2]) (by kernel_rfl) (by simp) ?_
    refine AllReadyH.cons rfl (fun K hK => ?_) (AllReadyH.cons rfl (fun K hK => ?_) AllReadyH.nil)
    · go_simp
      refine (p_Checks (HS5.out.kept kd0) (HT.out.kept (HKw.out.trans kd0 (by simp))) ok_na2).mono ?_
      rintro e w62 ⟨a7, c7, rfl, HF, kq62⟩
      go_wp2_with fail
      have kk62 : Kept [] W5 w62 := kd0.trans kq62 (by simp)
      refine hK.out _ _ ?_ (fun hHeld => ?_)
      · exact HC8.out _ kk62
      clear hK K
      try simp only [Act.put, List.setIfInBounds_toArray, List.set_cons_zero, List.set_cons_succ, List.getElem_toArray, List.getElem_cons_zero, List.getElem_cons_succ]
      refine wpAnyH_ready (rs := [2]) (by kernel_rfl) (by simp) ?_
      refine AllReadyH.cons rfl (fun K hK => ?_) AllReadyH.nil
      obtain ⟨w63, L63, HV63, kq63, bL⟩ := one_box w62 #[.string ⟨#[97, 47, 98]⟩, .string ⟨#[]⟩, .string ⟨#[100]⟩, .string ⟨#[98]⟩] 9
      go_simp
      rw [HV63.out.1, HV63.out.2]
      have kk63 : Kept [] W5 w63 := kk62.trans kq63 (by simp)
      have HF := HF.kept kq63
      refine hK.out _ _ ?_ (fun hHeld => ?_)
      · exact HC8.out _ kk63
      clear hK K
      try simp only [Act.put, List.setIfInBounds_toArray, List.set_cons_zero, List.set_cons_succ, List.getElem_toArray, List.getElem_cons_zero, List.getElem_cons_succ]
      refine wpAnyH_take (i := 5) (v := ?vq64) rfl (by kernel_rfl) (by kernel_rfl) (by kernel_rfl) (fun _ _ _ h => h) (Or.inl ⟨by rfl, ?hq64⟩) (by assumption) ?_
      case hq64 =>
        intro w hSw
        (try dsimp only at hSw)
        go_simp
        try with_reducible rfl
      try simp only [Act.put, List.setIfInBounds_toArray, List.set_cons_zero, List.set_cons_succ, List.getElem_toArray, List.getElem_cons_zero, List.getElem_cons_succ]
      refine wpAnyH_ready (rs := [6]) (by kernel_rfl) (by simp) ?_
      refine AllReadyH.cons rfl (fun K hK => ?_) AllReadyH.nil
      have cL : w63.cell? ⟨L63, 2, none⟩ = some (.string ⟨#[100]⟩) := by rw [cellB bL]; rfl
      go_simp
      refine hK.out _ _ ?_ (fun hHeld => ?_)
      · exact HC8.out _ kk63
      clear hK K
      try simp only [Act.put, List.setIfInBounds_toArray, List.set_cons_zero, List.set_cons_succ, List.getElem_toArray, List.getElem_cons_zero, List.getElem_cons_succ]
      refine wpAnyH_take (i := 7) (v := ?vq66) rfl (by kernel_rfl) (by kernel_rfl) (by kernel_rfl) (fun _ _ _ h => h) (Or.inl ⟨by rfl, ?hq66⟩) (by assumption) ?_
      case hq66 =>
        intro w hSw
        (try dsimp only at hSw)
        go_simp
        try with_reducible rfl
      try simp only [Act.put, List.setIfInBounds_toArray, List.set_cons_zero, List.set_cons_succ, List.getElem_toArray, List.getElem_cons_zero, List.getElem_cons_succ]
      refine wpAnyH_ready (rs := [8]) (by kernel_rfl) (by simp) ?_
      refine AllReadyH.cons rfl (fun K hK => ?_) AllReadyH.nil
      obtain ⟨w67, Z67, HV67, kq67, bZ⟩ := one_box w63 #[.int .i64 5, .int .i64 1, .string ⟨#[100]⟩] 42
      go_simp
      rw [HV67.out.1, HV67.out.2]
      have kk67 : Kept [] W5 w67 := kk63.trans kq67 (by simp)
      have HF := HF.kept kq67
      have bL : w67.heap[L63]? = some (.cells #[.string ⟨#[97, 47, 98]⟩, .string ⟨#[]⟩, .string ⟨#[100]⟩, .string ⟨#[98]⟩] 9 (0, 0)) := by rw [kq67.block _ (lt_of_heap bL) (by simp)]; exact bL
      refine hK.out _ _ ?_ (fun hHeld => ?_)
      · exact HC8.out _ kk67
      clear hK K
      try simp only [Act.put, List.setIfInBounds_toArray, List.set_cons_zero, List.set_cons_succ, List.getElem_toArray, List.getElem_cons_zero, List.getElem_cons_succ]
      refine wpAnyH_ready (rs := [9]) (by kernel_rfl) (by simp) ?_
      refine AllReadyH.cons rfl (fun K hK => ?_) AllReadyH.nil
      go_simp
      refine (same_F (M := [⟨5, 1, ⟨#[100]⟩⟩]) c7 1 (by simp) HF (fia_of (M := [⟨5, 1, ⟨#[100]⟩⟩]) bZ)).mono ?_
      rintro e w68 ⟨rfl, kq68⟩
      have HKz : Hid (Kept [] w w68) := HKw.out.trans (kk67.trans kq68 (by simp)) (by simp)
      go_wp2_with fail
      have kk68 : Kept [] W5 w68 := kk67.trans kq68 (by simp)
      have HF := HF.kept kq68
      have bL : w68.heap[L63]? = some (.cells #[.string ⟨#[97, 47, 98]⟩, .string ⟨#[]⟩, .string ⟨#[100]⟩, .string ⟨#[98]⟩] 9 (0, 0)) := by rw [kq68.block _ (lt_of_heap bL) (by simp)]; exact bL
      have bZ : w68.heap[Z67]? = some (.cells #[.int .i64 5, .int .i64 1, .string ⟨#[100]⟩] 42 (0, 0)) := by rw [kq68.block _ (lt_of_heap bZ) (by simp)]; exact bZ
      refine hK.out _ _ ?_ (fun hHeld => ?_)
      · exact HC8.out _ kk68
      clear hK K
      try simp only [Act.put, List.setIfInBounds_toArray, List.set_cons_zero, List.set_cons_succ, List.getElem_toArray, List.getElem_cons_zero, List.getElem_cons_succ]
      refine wpAnyH_take (i := 10) (v := ?vq69) rfl (by kernel_rfl) (by kernel_rfl) (by kernel_rfl) (fun _ _ _ h => h) (Or.inl ⟨by rfl, ?hq69⟩) (by assumption) ?_
      case hq69 =>
        intro w hSw
        (try dsimp only at hSw)
        go_simp
        try with_reducible rfl
      try simp only [Act.put, List.setIfInBounds_toArray, List.set_cons_zero, List.set_cons_succ, List.getElem_toArray, List.getElem_cons_zero, List.getElem_cons_succ]
      refine wpAnyH_done (by kernel_rfl) ?_ _
      clear HF hHeld
      go_wp2_with fail
      go_ret
      exact ⟨rfl, HKz.out⟩
    · obtain ⟨w70, L70, HV70, kq70, bL⟩ := one_box U0 #[.string ⟨#[97, 47, 98]⟩, .string ⟨#[]⟩, .string ⟨#[100]⟩, .string ⟨#[98]⟩] 9
      go_simp
      rw [HV70.out.1, HV70.out.2]
      have kk70 : Kept [] W5 w70 := kd0.trans kq70 (by simp)
      refine hK.out _ _ ?_ (fun hHeld => ?_)
      · exact HC8.out _ kk70
      clear hK K
      try simp only [Act.put, List.setIfInBounds_toArray, List.set_cons_zero, List.set_cons_succ, List.getElem_toArray, List.getElem_cons_zero, List.getElem_cons_succ]
      refine wpAnyH_take (i := 5) (v := ?vq71) rfl (by kernel_rfl) (by kernel_rfl) (by kernel_rfl) (fun _ _ _ h => h) (Or.inl ⟨by rfl, ?hq71⟩) (by assumption) ?_
      case hq71 =>
        intro w hSw
        (try dsimp only at hSw)
        go_simp
        try with_reducible rfl
      try simp only [Act.put, List.setIfInBounds_toArray, List.set_cons_zero, List.set_cons_succ, List.getElem_toArray, List.getElem_cons_zero, List.getElem_cons_succ]
      refine wpAnyH_ready (rs := [1, 6]) (by kernel_rfl) (by simp) ?_
      refine AllReadyH.cons rfl (fun K hK => ?_) (AllReadyH.cons rfl (fun K hK => ?_) AllReadyH.nil)
      · go_simp
        refine (p_Checks (HS5.out.kept kk70) (HT.out.kept (HKw.out.trans kk70 (by simp))) ok_na2).mono ?_
        rintro e w72 ⟨a7, c7, rfl, HF, kq72⟩
        go_wp2_with fail
        have kk72 : Kept [] W5 w72 := kk70.trans kq72 (by simp)
        have bL : w72.heap[L70]? = some (.cells #[.string ⟨#[97, 47, 98]⟩, .string ⟨#[]⟩, .string ⟨#[100]⟩, .string ⟨#[98]⟩] 9 (0, 0)) := by rw [kq72.block _ (lt_of_heap bL) (by simp)]; exact bL
        refine hK.out _ _ ?_ (fun hHeld => ?_)
        · exact HC8.out _ kk72
        clear hK K
        try simp only [Act.put, List.setIfInBounds_toArray, List.set_cons_zero, List.set_cons_succ, List.getElem_toArray, List.getElem_cons_zero, List.getElem_cons_succ]
        refine wpAnyH_ready (rs := [6]) (by kernel_rfl) (by simp) ?_
        refine AllReadyH.cons rfl (fun K hK => ?_) AllReadyH.nil
        have cL : w72.cell? ⟨L70, 2, none⟩ = some (.string ⟨#[100]⟩) := by rw [cellB bL]; rfl
        go_simp
        refine hK.out _ _ ?_ (fun hHeld => ?_)
        · exact HC8.out _ kk72
        clear hK K
        try simp only [Act.put, List.setIfInBounds_toArray, List.set_cons_zero, List.set_cons_succ, List.getElem_toArray, List.getElem_cons_zero, List.getElem_cons_succ]
        refine wpAnyH_take (i := 7) (v := ?vq74) rfl (by kernel_rfl) (by kernel_rfl) (by kernel_rfl) (fun _ _ _ h => h) (Or.inl ⟨by rfl, ?hq74⟩) (by assumption) ?_
        case hq74 =>
          intro w hSw
          (try dsimp only at hSw)
          go_simp
          try with_reducible rfl
        try simp only [Act.put, List.setIfInBounds_toArray, List.set_cons_zero, List.set_cons_succ, List.getElem_toArray, List.getElem_cons_zero, List.getElem_cons_succ]
        refine wpAnyH_ready (rs := [8]) (by kernel_rfl) (by simp) ?_
        refine AllReadyH.cons rfl (fun K hK => ?_) AllReadyH.nil
        obtain ⟨w75, Z75, HV75, kq75, bZ⟩ := one_box w72 #[.int .i64 5, .int .i64 1, .string ⟨#[100]⟩] 42
        go_simp
        rw [HV75.out.1, HV75.out.2]
        have kk75 : Kept [] W5 w75 := kk72.trans kq75 (by simp)
        have HF := HF.kept kq75
        have bL : w75.heap[L70]? = some (.cells #[.string ⟨#[97, 47, 98]⟩, .string ⟨#[]⟩, .string ⟨#[100]⟩, .string ⟨#[98]⟩] 9 (0, 0)) := by rw [kq75.block _ (lt_of_heap bL) (by simp)]; exact bL
        refine hK.out _ _ ?_ (fun hHeld => ?_)
        · exact HC8.out _ kk75
        clear hK K
        try simp only [Act.put, List.setIfInBounds_toArray, List.set_cons_zero, List.set_cons_succ, List.getElem_toArray, List.getElem_cons_zero, List.getElem_cons_succ]
        refine wpAnyH_ready (rs := [9]) (by kernel_rfl) (by simp) ?_
        refine AllReadyH.cons rfl (fun K hK => ?_) AllReadyH.nil
        go_simp
        refine (same_F (M := [⟨5, 1, ⟨#[100]⟩⟩]) c7 1 (by simp) HF (fia_of (M := [⟨5, 1, ⟨#[100]⟩⟩]) bZ)).mono ?_
        rintro e w76 ⟨rfl, kq76⟩
        have HKz : Hid (Kept [] w w76) := HKw.out.trans (kk75.trans kq76 (by simp)) (by simp)
        go_wp2_with fail
        have kk76 : Kept [] W5 w76 := kk75.trans kq76 (by simp)
        have HF := HF.kept kq76
        have bL : w76.heap[L70]? = some (.cells #[.string ⟨#[97, 47, 98]⟩, .string ⟨#[]⟩, .string ⟨#[100]⟩, .string ⟨#[98]⟩] 9 (0, 0)) := by rw [kq76.block _ (lt_of_heap bL) (by simp)]; exact bL
        have bZ : w76.heap[Z75]? = some (.cells #[.int .i64 5, .int .i64 1, .string ⟨#[100]⟩] 42 (0, 0)) := by rw [kq76.block _ (lt_of_heap bZ) (by simp)]; exact bZ
        refine hK.out _ _ ?_ (fun hHeld => ?_)
        · exact HC8.out _ kk76
        clear hK K
        try simp only [Act.put, List.setIfInBounds_toArray, List.set_cons_zero, List.set_cons_succ, List.getElem_toArray, List.getElem_cons_zero, List.getElem_cons_succ]
        refine wpAnyH_take (i := 10) (v := ?vq77) rfl (by kernel_rfl) (by kernel_rfl) (by kernel_rfl) (fun _ _ _ h => h) (Or.inl ⟨by rfl, ?hq77⟩) (by assumption) ?_
        case hq77 =>
          intro w hSw
          (try dsimp only at hSw)
          go_simp
          try with_reducible rfl
        try simp only [Act.put, List.setIfInBounds_toArray, List.set_cons_zero, List.set_cons_succ, List.getElem_toArray, List.getElem_cons_zero, List.getElem_cons_succ]
        refine wpAnyH_done (by kernel_rfl) ?_ _
        clear HF hHeld
        go_wp2_with fail
        go_ret
        exact ⟨rfl, HKz.out⟩
      · have cL : w70.cell? ⟨L70, 2, none⟩ = some (.string ⟨#[100]⟩) := by rw [cellB bL]; rfl
        go_simp
        refine hK.out _ _ ?_ (fun hHeld => ?_)
        · exact HC8.out _ kk70
        clear hK K
        try simp only [Act.put, List.setIfInBounds_toArray, List.set_cons_zero, List.set_cons_succ, List.getElem_toArray, List.getElem_cons_zero, List.getElem_cons_succ]
        refine wpAnyH_take (i := 7) (v := ?vq79) rfl (by kernel_rfl) (by kernel_rfl) (by kernel_rfl) (fun _ _ _ h => h) (Or.inl ⟨by rfl, ?hq79⟩) (by assumption) ?_
        case hq79 =>
          intro w hSw
          (try dsimp only at hSw)
          go_simp
          try with_reducible rfl
        try simp only [Act.put, List.setIfInBounds_toArray, List.set_cons_zero, List.set_cons_succ, List.getElem_toArray, List.getElem_cons_zero, List.getElem_cons_succ]
        refine wpAnyH_ready (rs := [1, 8]) (by kernel_rfl) (by simp) ?_
        refine AllReadyH.cons rfl (fun K hK => ?_) (AllReadyH.cons rfl (fun K hK => ?_) AllReadyH.nil)
        · go_simp
          refine (p_Checks (HS5.out.kept kk70) (HT.out.kept (HKw.out.trans kk70 (by simp))) ok_na2).mono ?_
          rintro e w80 ⟨a7, c7, rfl, HF, kq80⟩
          go_wp2_with fail
          have kk80 : Kept [] W5 w80 := kk70.trans kq80 (by simp)
          have bL : w80.heap[L70]? = some (.cells #[.string ⟨#[97, 47, 98]⟩, .string ⟨#[]⟩, .string ⟨#[100]⟩, .string ⟨#[98]⟩] 9 (0, 0)) := by rw [kq80.block _ (lt_of_heap bL) (by simp)]; exact bL
          refine hK.out _ _ ?_ (fun hHeld => ?_)
          · exact HC8.out _ kk80
          clear hK K
          try simp only [Act.put, List.setIfInBounds_toArray, List.set_cons_zero, List.set_cons_succ, List.getElem_toArray, List.getElem_cons_zero, List.getElem_cons_succ]
          refine wpAnyH_ready (rs := [8]) (by kernel_rfl) (by simp) ?_
          refine AllReadyH.cons rfl (fun K hK => ?_) AllReadyH.nil
          obtain ⟨w81, Z81, HV81, kq81, bZ⟩ := one_box w80 #[.int .i64 5, .int .i64 1, .string ⟨#[100]⟩] 42
          go_simp
          rw [HV81.out.1, HV81.out.2]
          have kk81 : Kept [] W5 w81 := kk80.trans kq81 (by simp)
          have HF := HF.kept kq81
          have bL : w81.heap[L70]? = some (.cells #[.string ⟨#[97, 47, 98]⟩, .string ⟨#[]⟩, .string ⟨#[100]⟩, .string ⟨#[98]⟩] 9 (0, 0)) := by rw [kq81.block _ (lt_of_heap bL) (by simp)]; exact bL
          refine hK.out _ _ ?_ (fun hHeld => ?_)
          · exact HC8.out _ kk81
          clear hK K
          try simp only [Act.put, List.setIfInBounds_toArray, List.set_cons_zero, List.set_cons_succ, List.getElem_toArray, List.getElem_cons_zero, List.getElem_cons_succ]
          refine wpAnyH_ready (rs := [9]) (by kernel_rfl) (by simp) ?_
          refine AllReadyH.cons rfl (fun K hK => ?_) AllReadyH.nil
          go_simp
          refine (same_F (M := [⟨5, 1, ⟨#[100]⟩⟩]) c7 1 (by simp) HF (fia_of (M := [⟨5, 1, ⟨#[100]⟩⟩]) bZ)).mono ?_
          rintro e w82 ⟨rfl, kq82⟩
          have HKz : Hid (Kept [] w w82) := HKw.out.trans (kk81.trans kq82 (by simp)) (by simp)
          go_wp2_with fail
          have kk82 : Kept [] W5 w82 := kk81.trans kq82 (by simp)
          have HF := HF.kept kq82
          have bL : w82.heap[L70]? = some (.cells #[.string ⟨#[97, 47, 98]⟩, .string ⟨#[]⟩, .string ⟨#[100]⟩, .string ⟨#[98]⟩] 9 (0, 0)) := by rw [kq82.block _ (lt_of_heap bL) (by simp)]; exact bL
          have bZ : w82.heap[Z81]? = some (.cells #[.int .i64 5, .int .i64 1, .string ⟨#[100]⟩] 42 (0, 0)) := by rw [kq82.block _ (lt_of_heap bZ) (by simp)]; exact bZ
          refine hK.out _ _ ?_ (fun hHeld => ?_)
          · exact HC8.out _ kk82
          clear hK K
          try simp only [Act.put, List.setIfInBounds_toArray, List.set_cons_zero, List.set_cons_succ, List.getElem_toArray, List.getElem_cons_zero, List.getElem_cons_succ]
          refine wpAnyH_take (i := 10) (v := ?vq83) rfl (by kernel_rfl) (by kernel_rfl) (by kernel_rfl) (fun _ _ _ h => h) (Or.inl ⟨by rfl, ?hq83⟩) (by assumption) ?_
          case hq83 =>
            intro w hSw
            (try dsimp only at hSw)
            go_simp
            try with_reducible rfl
          try simp only [Act.put, List.setIfInBounds_toArray, List.set_cons_zero, List.set_cons_succ, List.getElem_toArray, List.getElem_cons_zero, List.getElem_cons_succ]
          refine wpAnyH_done (by kernel_rfl) ?_ _
          clear HF hHeld
          go_wp2_with fail
          go_ret
          exact ⟨rfl, HKz.out⟩
        · obtain ⟨w84, Z84, HV84, kq84, bZ⟩ := one_box w70 #[.int .i64 5, .int .i64 1, .string ⟨#[100]⟩] 42
          go_simp
          rw [HV84.out.1, HV84.out.2]
          have kk84 : Kept [] W5 w84 := kk70.trans kq84 (by simp)
          have bL : w84.heap[L70]? = some (.cells #[.string ⟨#[97, 47, 98]⟩, .string ⟨#[]⟩, .string ⟨#[100]⟩, .string ⟨#[98]⟩] 9 (0, 0)) := by rw [kq84.block _ (lt_of_heap bL) (by simp)]; exact bL
          refine hK.out _ _ ?_ (fun hHeld => ?_)
          · exact HC8.out _ kk84
          clear hK K
          try simp only [Act.put, List.setIfInBounds_toArray, List.set_cons_zero, List.set_cons_succ, List.getElem_toArray, List.getElem_cons_zero, List.getElem_cons_succ]
          refine wpAnyH_ready (rs := [1]) (by kernel_rfl) (by simp) ?_
          refine AllReadyH.cons rfl (fun K hK => ?_) AllReadyH.nil
          go_simp
          refine (p_Checks (HS5.out.kept kk84) (HT.out.kept (HKw.out.trans kk84 (by simp))) ok_na2).mono ?_
          rintro e w85 ⟨a7, c7, rfl, HF, kq85⟩
          go_wp2_with fail
          have kk85 : Kept [] W5 w85 := kk84.trans kq85 (by simp)
          have bL : w85.heap[L70]? = some (.cells #[.string ⟨#[97, 47, 98]⟩, .string ⟨#[]⟩, .string ⟨#[100]⟩, .string ⟨#[98]⟩] 9 (0, 0)) := by rw [kq85.block _ (lt_of_heap bL) (by simp)]; exact bL
          have bZ : w85.heap[Z84]? = some (.cells #[.int .i64 5, .int .i64 1, .string ⟨#[100]⟩] 42 (0, 0)) := by rw [kq85.block _ (lt_of_heap bZ) (by simp)]; exact bZ
          refine hK.out _ _ ?_ (fun hHeld => ?_)
          · exact HC8.out _ kk85
          clear hK K
          try simp only [Act.put, List.setIfInBounds_toArray, List.set_cons_zero, List.set_cons_succ, List.getElem_toArray, List.getElem_cons_zero, List.getElem_cons_succ]
          refine wpAnyH_ready (rs := [9]) (by kernel_rfl) (by simp) ?_
          refine AllReadyH.cons rfl (fun K hK => ?_) AllReadyH.nil
          go_simp
          refine (same_F (M := [⟨5, 1, ⟨#[100]⟩⟩]) c7 1 (by simp) HF (fia_of (M := [⟨5, 1, ⟨#[100]⟩⟩]) bZ)).mono ?_
          rintro e w86 ⟨rfl, kq86⟩
          have HKz : Hid (Kept [] w w86) := HKw.out.trans (kk85.trans kq86 (by simp)) (by simp)
          go_wp2_with fail
          have kk86 : Kept [] W5 w86 := kk85.trans kq86 (by simp)
          have HF := HF.kept kq86
          have bL : w86.heap[L70]? = some (.cells #[.string ⟨#[97, 47, 98]⟩, .string ⟨#[]⟩, .string ⟨#[100]⟩, .string ⟨#[98]⟩] 9 (0, 0)) := by rw [kq86.block _ (lt_of_heap bL) (by simp)]; exact bL
          have bZ : w86.heap[Z84]? = some (.cells #[.int .i64 5, .int .i64 1, .string ⟨#[100]⟩] 42 (0, 0)) := by rw [kq86.block _ (lt_of_heap bZ) (by simp)]; exact bZ
          refine hK.out _ _ ?_ (fun hHeld => ?_)
          · exact HC8.out _ kk86
          clear hK K
          try simp only [Act.put, List.setIfInBounds_toArray, List.set_cons_zero, List.set_cons_succ, List.getElem_toArray, List.getElem_cons_zero, List.getElem_cons_succ]
          refine wpAnyH_take (i := 10) (v := ?vq87) rfl (by kernel_rfl) (by kernel_rfl) (by kernel_rfl) (fun _ _ _ h => h) (Or.inl ⟨by rfl, ?hq87⟩) (by assumption) ?_
          case hq87 =>
            intro w hSw
            (try dsimp only at hSw)
            go_simp
            try with_reducible rfl
          try simp only [Act.put, List.setIfInBounds_toArray, List.set_cons_zero, List.set_cons_succ, List.getElem_toArray, List.getElem_cons_zero, List.getElem_cons_succ]
          refine wpAnyH_done (by kernel_rfl) ?_ _
          clear HF hHeld
          go_wp2_with fail
          go_ret
          exact ⟨rfl, HKz.out⟩
  · have hb : bits .and .i64 a0 3 = 3 := by rw [i64_and3, hk]
    have cL4 : V4.cell? ⟨L, 3, none⟩ = some (.string ⟨#[98]⟩) := by rw [cellB HB4.out]; rfl
    go_upto_region 5 with fail
    rw [HV4.out.1]
    have x0 : V4.cell? ⟨X, 0, none⟩ = some (.slice (some ⟨N + 1 + 1 + 1 + 1, 0, none⟩) 5 5) := cellB HBx4.out
    have i2 : V4.cell? ⟨N + 1 + 1 + 1 + 1, 2, none⟩ = some (.slice (some ⟨N + 1 + 1, 0, none⟩) 3 3) := by rw [cellB HW4.out.hi]; rfl
    have c3 : V4.cell? ⟨N + 1 + 1, 2, none⟩ = some (.string ⟨#[102]⟩) := by rw [cellB HW4.out.ha]; rfl
    have f3 : V4.frozen? ⟨N + 1 + 1, 2, none⟩ = false := by have := HW4.out.ha; simp [World.frozen?, this]
    obtain ⟨W5, hW5⟩ : ∃ W5, V4.setCell ⟨N + 1 + 1, 2, none⟩ (.string ⟨#[98]⟩) = W5 := ⟨_, rfl⟩
    have HW5 : Hid (Wo w1 W5 N cm0 co0 (ca0.setIfInBounds 2 (.string ⟨#[98]⟩)) cb0 (ci0 N)) := by rw [← hW5]; exact HW4.out.setA 2 (.string ⟨#[98]⟩)
    have HS5 : Hid (Sv W5 ⟨some ⟨N + 1 + 1 + 1 + 1, 0, none⟩, 5, some ⟨N + 1, 0, none⟩, 1, some ⟨N, 0, none⟩, 2⟩ Sna3) := wo_sv HW5.out few_na3
    have hbx : W5.heap[X]? = some (.cells #[.slice (some ⟨N + 1 + 1 + 1 + 1, 0, none⟩) 5 5, .slice (some ⟨N + 1, 0, none⟩) 1 1, .slice (some ⟨N, 0, none⟩) 2 2] 27 (0, 0)) := by rw [← hW5]; exact far_set HBx4.out (by have := HX.out; omega)
    have HKw : Hid (Kept [] w W5) := HK1.out.trans HW5.out.kept (by simp)
    have HC8 : Hid (∀ w', Kept [] W5 w' → w'.cell? ⟨X, 0, none⟩ = some (.slice (some ⟨N + 1 + 1 + 1 + 1, 0, none⟩) 5 5) ∧ w'.cell? ⟨X, 1, none⟩ = some (.slice (some ⟨N + 1, 0, none⟩) 1 1) ∧ w'.cell? ⟨X, 2, none⟩ = some (.slice (some ⟨N, 0, none⟩) 2 2)) := fun w' kw => by
      have hb' : w'.heap[X]? = some (.cells #[.slice (some ⟨N + 1 + 1 + 1 + 1, 0, none⟩) 5 5, .slice (some ⟨N + 1, 0, none⟩) 1 1, .slice (some ⟨N, 0, none⟩) 2 2] 27 (0, 0)) := by rw [kw.block _ (lt_of_heap hbx) (by simp)]; exact hbx
      exact ⟨cellB hb', cellB hb', cellB hb'⟩
    clear hbx
    go_upto_region 6 with fail
    (try rw [hW5])
    clear hW5 x0 i2 c3 f3 cL4
    refine wp_region_held_drew (S := fun w' => w'.cell? ⟨X, 0, none⟩ = some (.slice (some ⟨N + 1 + 1 + 1 + 1, 0, none⟩) 5 5) ∧ w'.cell? ⟨X, 1, none⟩ = some (.slice (some ⟨N + 1, 0, none⟩) 1 1) ∧ w'.cell? ⟨X, 2, none⟩ = some (.slice (some ⟨N, 0, none⟩) 2 2)) (by kernel_rfl) ?_ (fun hHeld => ?_)
    · exact HC8.out _ (Kept.refl _ _).drew
    have kd0 : Kept [] W5 W5.drew := (Kept.refl _ _).drew
    obtain ⟨U0, hU0⟩ : ∃ U0, U0 = W5.drew := ⟨_, rfl⟩
    rw [← hU0] at kd0 hHeld ⊢
    clear hU0
    refine wpAnyH_take (i := 0) (v := ?vq88) rfl (by kernel_rfl) (by kernel_rfl) (by kernel_rfl) (fun _ _ _ h => h) (Or.inl ⟨by rfl, ?hq88⟩) (by assumption) ?_
    case hq88 =>
      intro w hSw
      (try dsimp only at hSw)
      go_simp
      try with_reducible rfl
    try simp only [Act.put, List.setIfInBounds_toArray, List.set_cons_zero, List.set_cons_succ, List.getElem_toArray, List.getElem_cons_zero, List.getElem_cons_succ]
    refine wpAnyH_take (i := 3) (v := ?vq89) rfl (by kernel_rfl) (by kernel_rfl) (by kernel_rfl) (fun _ _ _ h => h) (Or.inl ⟨by rfl, ?hq89⟩) (by assumption) ?_
    case hq89 =>
      intro w hSw
      (try dsimp only at hSw)
      go_simp
      try with_reducible rfl
    try simp only [Act.put, List.setIfInBounds_toArray, List.set_cons_zero, List.set_cons_succ, List.getElem_toArray, List.getElem_cons_zero, List.getElem_cons_succ]
    refine wpAnyH_take (i := 4) (v := ?vq90) rfl (by kernel_rfl) (by kernel_rfl) (by kernel_rfl) (fun _ _ _ h => h) (Or.inl ⟨by rfl, ?hq90⟩) (by assumption) ?_
    case hq90 =>
      intro w hSw
      (try dsimp only at hSw)
      go_simp
      try with_reducible rfl
    try simp only [Act.put, List.setIfInBounds_toArray, List.set_cons_zero, List.set_cons_succ, List.getElem_toArray, List.getElem_cons_zero, List.getElem_cons_succ]
    refine wpAnyH_ready (rs := [1, 2]) (by kernel_rfl) (by simp) ?_
    refine AllReadyH.cons rfl (fun K hK => ?_) (AllReadyH.cons rfl (fun K hK => ?_) AllReadyH.nil)
    · go_simp
      refine (p_Checks (HS5.out.kept kd0) (HT.out.kept (HKw.out.trans kd0 (by simp))) ok_na3).mono ?_
      rintro e w91 ⟨a7, c7, rfl, HF, kq91⟩
      go_wp2_with fail
      have kk91 : Kept [] W5 w91 := kd0.trans kq91 (by simp)
      refine hK.out _ _ ?_ (fun hHeld => ?_)
      · exact HC8.out _ kk91
      clear hK K
      try simp only [Act.put, List.setIfInBounds_toArray, List.set_cons_zero, List.set_cons_succ, List.getElem_toArray, List.getElem_cons_zero, List.getElem_cons_succ]
      refine wpAnyH_ready (rs := [2]) (by kernel_rfl) (by simp) ?_
      refine AllReadyH.cons rfl (fun K hK => ?_) AllReadyH.nil
      obtain ⟨w92, L92, HV92, kq92, bL⟩ := one_box w91 #[.string ⟨#[97, 47, 98]⟩, .string ⟨#[]⟩, .string ⟨#[100]⟩, .string ⟨#[98]⟩] 9
      go_simp
      rw [HV92.out.1, HV92.out.2]
      have kk92 : Kept [] W5 w92 := kk91.trans kq92 (by simp)
      have HF := HF.kept kq92
      refine hK.out _ _ ?_ (fun hHeld => ?_)
      · exact HC8.out _ kk92
      clear hK K
      try simp only [Act.put, List.setIfInBounds_toArray, List.set_cons_zero, List.set_cons_succ, List.getElem_toArray, List.getElem_cons_zero, List.getElem_cons_succ]
      refine wpAnyH_take (i := 5) (v := ?vq93) rfl (by kernel_rfl) (by kernel_rfl) (by kernel_rfl) (fun _ _ _ h => h) (Or.inl ⟨by rfl, ?hq93⟩) (by assumption) ?_
      case hq93 =>
        intro w hSw
        (try dsimp only at hSw)
        go_simp
        try with_reducible rfl
      try simp only [Act.put, List.setIfInBounds_toArray, List.set_cons_zero, List.set_cons_succ, List.getElem_toArray, List.getElem_cons_zero, List.getElem_cons_succ]
      refine wpAnyH_ready (rs := [6]) (by kernel_rfl) (by simp) ?_
      refine AllReadyH.cons rfl (fun K hK => ?_) AllReadyH.nil
      have cL : w92.cell? ⟨L92, 3, none⟩ = some (.string ⟨#[98]⟩) := by rw [cellB bL]; rfl
      go_simp
      refine hK.out _ _ ?_ (fun hHeld => ?_)
      · exact HC8.out _ kk92
      clear hK K
      try simp only [Act.put, List.setIfInBounds_toArray, List.set_cons_zero, List.set_cons_succ, List.getElem_toArray, List.getElem_cons_zero, List.getElem_cons_succ]
      refine wpAnyH_take (i := 7) (v := ?vq95) rfl (by kernel_rfl) (by kernel_rfl) (by kernel_rfl) (fun _ _ _ h => h) (Or.inl ⟨by rfl, ?hq95⟩) (by assumption) ?_
      case hq95 =>
        intro w hSw
        (try dsimp only at hSw)
        go_simp
        try with_reducible rfl
      try simp only [Act.put, List.setIfInBounds_toArray, List.set_cons_zero, List.set_cons_succ, List.getElem_toArray, List.getElem_cons_zero, List.getElem_cons_succ]
      refine wpAnyH_ready (rs := [8]) (by kernel_rfl) (by simp) ?_
      refine AllReadyH.cons rfl (fun K hK => ?_) AllReadyH.nil
      obtain ⟨w96, Z96, HV96, kq96, bZ⟩ := one_box w92 #[.int .i64 5, .int .i64 1, .string ⟨#[98]⟩] 42
      go_simp
      rw [HV96.out.1, HV96.out.2]
      have kk96 : Kept [] W5 w96 := kk92.trans kq96 (by simp)
      have HF := HF.kept kq96
      have bL : w96.heap[L92]? = some (.cells #[.string ⟨#[97, 47, 98]⟩, .string ⟨#[]⟩, .string ⟨#[100]⟩, .string ⟨#[98]⟩] 9 (0, 0)) := by rw [kq96.block _ (lt_of_heap bL) (by simp)]; exact bL
      refine hK.out _ _ ?_ (fun hHeld => ?_)
      · exact HC8.out _ kk96
      clear hK K
      try simp only [Act.put, List.setIfInBounds_toArray, List.set_cons_zero, List.set_cons_succ, List.getElem_toArray, List.getElem_cons_zero, List.getElem_cons_succ]
      refine wpAnyH_ready (rs := [9]) (by kernel_rfl) (by simp) ?_
      refine AllReadyH.cons rfl (fun K hK => ?_) AllReadyH.nil
      go_simp
      refine (same_F (M := [⟨5, 1, ⟨#[98]⟩⟩]) c7 1 (by simp) HF (fia_of (M := [⟨5, 1, ⟨#[98]⟩⟩]) bZ)).mono ?_
      rintro e w97 ⟨rfl, kq97⟩
      have HKz : Hid (Kept [] w w97) := HKw.out.trans (kk96.trans kq97 (by simp)) (by simp)
      go_wp2_with fail
      have kk97 : Kept [] W5 w97 := kk96.trans kq97 (by simp)
      have HF := HF.kept kq97
      have bL : w97.heap[L92]? = some (.cells #[.string ⟨#[97, 47, 98]⟩, .string ⟨#[]⟩, .string ⟨#[100]⟩, .string ⟨#[98]⟩] 9 (0, 0)) := by rw [kq97.block _ (lt_of_heap bL) (by simp)]; exact bL
      have bZ : w97.heap[Z96]? = some (.cells #[.int .i64 5, .int .i64 1, .string ⟨#[98]⟩] 42 (0, 0)) := by rw [kq97.block _ (lt_of_heap bZ) (by simp)]; exact bZ
      refine hK.out _ _ ?_ (fun hHeld => ?_)
      · exact HC8.out _ kk97
      clear hK K
      try simp only [Act.put, List.setIfInBounds_toArray, List.set_cons_zero, List.set_cons_succ, List.getElem_toArray, List.getElem_cons_zero, List.getElem_cons_succ]
      refine wpAnyH_take (i := 10) (v := ?vq98) rfl (by kernel_rfl) (by kernel_rfl) (by kernel_rfl) (fun _ _ _ h => h) (Or.inl ⟨by rfl, ?hq98⟩) (by assumption) ?_
      case hq98 =>
        intro w hSw
        (try dsimp only at hSw)
        go_simp
        try with_reducible rfl
      try simp only [Act.put, List.setIfInBounds_toArray, List.set_cons_zero, List.set_cons_succ, List.getElem_toArray, List.getElem_cons_zero, List.getElem_cons_succ]
      refine wpAnyH_done (by kernel_rfl) ?_ _
      clear HF hHeld
      go_wp2_with fail
      go_ret
      exact ⟨rfl, HKz.out⟩
    · obtain ⟨w99, L99, HV99, kq99, bL⟩ := one_box U0 #[.string ⟨#[97, 47, 98]⟩, .string ⟨#[]⟩, .string ⟨#[100]⟩, .string ⟨#[98]⟩] 9
      go_simp
      rw [HV99.out.1, HV99.out.2]
      have kk99 : Kept [] W5 w99 := kd0.trans kq99 (by simp)
      refine hK.out _ _ ?_ (fun hHeld => ?_)
      · exact HC8.out _ kk99
      clear hK K
      try simp only [Act.put, List.setIfInBounds_toArray, List.set_cons_zero, List.set_cons_succ, List.getElem_toArray, List.getElem_cons_zero, List.getElem_cons_succ]
      refine wpAnyH_take (i := 5) (v := ?vq100) rfl (by kernel_rfl) (by kernel_rfl) (by kernel_rfl) (fun _ _ _ h => h) (Or.inl ⟨by rfl, ?hq100⟩) (by assumption) ?_
      case hq100 =>
        intro w hSw
        (try dsimp only at hSw)
        go_simp
        try with_reducible rfl
      try simp only [Act.put, List.setIfInBounds_toArray, List.set_cons_zero, List.set_cons_succ, List.getElem_toArray, List.getElem_cons_zero, List.getElem_cons_succ]
      refine wpAnyH_ready (rs := [1, 6]) (by kernel_rfl) (by simp) ?_
      refine AllReadyH.cons rfl (fun K hK => ?_) (AllReadyH.cons rfl (fun K hK => ?_) AllReadyH.nil)
      · go_simp
        refine (p_Checks (HS5.out.kept kk99) (HT.out.kept (HKw.out.trans kk99 (by simp))) ok_na3).mono ?_
        rintro e w101 ⟨a7, c7, rfl, HF, kq101⟩
        go_wp2_with fail
        have kk101 : Kept [] W5 w101 := kk99.trans kq101 (by simp)
        have bL : w101.heap[L99]? = some (.cells #[.string ⟨#[97, 47, 98]⟩, .string ⟨#[]⟩, .string ⟨#[100]⟩, .string ⟨#[98]⟩] 9 (0, 0)) := by rw [kq101.block _ (lt_of_heap bL) (by simp)]; exact bL
        refine hK.out _ _ ?_ (fun hHeld => ?_)
        · exact HC8.out _ kk101
        clear hK K
        try simp only [Act.put, List.setIfInBounds_toArray, List.set_cons_zero, List.set_cons_succ, List.getElem_toArray, List.getElem_cons_zero, List.getElem_cons_succ]
        refine wpAnyH_ready (rs := [6]) (by kernel_rfl) (by simp) ?_
        refine AllReadyH.cons rfl (fun K hK => ?_) AllReadyH.nil
        have cL : w101.cell? ⟨L99, 3, none⟩ = some (.string ⟨#[98]⟩) := by rw [cellB bL]; rfl
        go_simp
        refine hK.out _ _ ?_ (fun hHeld => ?_)
        · exact HC8.out _ kk101
        clear hK K
        try simp only [Act.put, List.setIfInBounds_toArray, List.set_cons_zero, List.set_cons_succ, List.getElem_toArray, List.getElem_cons_zero, List.getElem_cons_succ]
        refine wpAnyH_take (i := 7) (v := ?vq103) rfl (by kernel_rfl) (by kernel_rfl) (by kernel_rfl) (fun _ _ _ h => h) (Or.inl ⟨by rfl, ?hq103⟩) (by assumption) ?_
        case hq103 =>
          intro w hSw
          (try dsimp only at hSw)
          go_simp
          try with_reducible rfl
        try simp only [Act.put, List.setIfInBounds_toArray, List.set_cons_zero, List.set_cons_succ, List.getElem_toArray, List.getElem_cons_zero, List.getElem_cons_succ]
        refine wpAnyH_ready (rs := [8]) (by kernel_rfl) (by simp) ?_
        refine AllReadyH.cons rfl (fun K hK => ?_) AllReadyH.nil
        obtain ⟨w104, Z104, HV104, kq104, bZ⟩ := one_box w101 #[.int .i64 5, .int .i64 1, .string ⟨#[98]⟩] 42
        go_simp
        rw [HV104.out.1, HV104.out.2]
        have kk104 : Kept [] W5 w104 := kk101.trans kq104 (by simp)
        have HF := HF.kept kq104
        have bL : w104.heap[L99]? = some (.cells #[.string ⟨#[97, 47, 98]⟩, .string ⟨#[]⟩, .string ⟨#[100]⟩, .string ⟨#[98]⟩] 9 (0, 0)) := by rw [kq104.block _ (lt_of_heap bL) (by simp)]; exact bL
        refine hK.out _ _ ?_ (fun hHeld => ?_)
        · exact HC8.out _ kk104
        clear hK K
        try simp only [Act.put, List.setIfInBounds_toArray, List.set_cons_zero, List.set_cons_succ, List.getElem_toArray, List.getElem_cons_zero, List.getElem_cons_succ]
        refine wpAnyH_ready (rs := [9]) (by kernel_rfl) (by simp) ?_
        refine AllReadyH.cons rfl (fun K hK => ?_) AllReadyH.nil
        go_simp
        refine (same_F (M := [⟨5, 1, ⟨#[98]⟩⟩]) c7 1 (by simp) HF (fia_of (M := [⟨5, 1, ⟨#[98]⟩⟩]) bZ)).mono ?_
        rintro e w105 ⟨rfl, kq105⟩
        have HKz : Hid (Kept [] w w105) := HKw.out.trans (kk104.trans kq105 (by simp)) (by simp)
        go_wp2_with fail
        have kk105 : Kept [] W5 w105 := kk104.trans kq105 (by simp)
        have HF := HF.kept kq105
        have bL : w105.heap[L99]? = some (.cells #[.string ⟨#[97, 47, 98]⟩, .string ⟨#[]⟩, .string ⟨#[100]⟩, .string ⟨#[98]⟩] 9 (0, 0)) := by rw [kq105.block _ (lt_of_heap bL) (by simp)]; exact bL
        have bZ : w105.heap[Z104]? = some (.cells #[.int .i64 5, .int .i64 1, .string ⟨#[98]⟩] 42 (0, 0)) := by rw [kq105.block _ (lt_of_heap bZ) (by simp)]; exact bZ
        refine hK.out _ _ ?_ (fun hHeld => ?_)
        · exact HC8.out _ kk105
        clear hK K
        try simp only [Act.put, List.setIfInBounds_toArray, List.set_cons_zero, List.set_cons_succ, List.getElem_toArray, List.getElem_cons_zero, List.getElem_cons_succ]
        refine wpAnyH_take (i := 10) (v := ?vq106) rfl (by kernel_rfl) (by kernel_rfl) (by kernel_rfl) (fun _ _ _ h => h) (Or.inl ⟨by rfl, ?hq106⟩) (by assumption) ?_
        case hq106 =>
          intro w hSw
          (try dsimp only at hSw)
          go_simp
          try with_reducible rfl
        try simp only [Act.put, List.setIfInBounds_toArray, List.set_cons_zero, List.set_cons_succ, List.getElem_toArray, List.getElem_cons_zero, List.getElem_cons_succ]
        refine wpAnyH_done (by kernel_rfl) ?_ _
        clear HF hHeld
        go_wp2_with fail
        go_ret
        exact ⟨rfl, HKz.out⟩
      · have cL : w99.cell? ⟨L99, 3, none⟩ = some (.string ⟨#[98]⟩) := by rw [cellB bL]; rfl
        go_simp
        refine hK.out _ _ ?_ (fun hHeld => ?_)
        · exact HC8.out _ kk99
        clear hK K
        try simp only [Act.put, List.setIfInBounds_toArray, List.set_cons_zero, List.set_cons_succ, List.getElem_toArray, List.getElem_cons_zero, List.getElem_cons_succ]
        refine wpAnyH_take (i := 7) (v := ?vq108) rfl (by kernel_rfl) (by kernel_rfl) (by kernel_rfl) (fun _ _ _ h => h) (Or.inl ⟨by rfl, ?hq108⟩) (by assumption) ?_
        case hq108 =>
          intro w hSw
          (try dsimp only at hSw)
          go_simp
          try with_reducible rfl
        try simp only [Act.put, List.setIfInBounds_toArray, List.set_cons_zero, List.set_cons_succ, List.getElem_toArray, List.getElem_cons_zero, List.getElem_cons_succ]
        refine wpAnyH_ready (rs := [1, 8]) (by kernel_rfl) (by simp) ?_
        refine AllReadyH.cons rfl (fun K hK => ?_) (AllReadyH.cons rfl (fun K hK => ?_) AllReadyH.nil)
        · go_simp
          refine (p_Checks (HS5.out.kept kk99) (HT.out.kept (HKw.out.trans kk99 (by simp))) ok_na3).mono ?_
          rintro e w109 ⟨a7, c7, rfl, HF, kq109⟩
          go_wp2_with fail
          have kk109 : Kept [] W5 w109 := kk99.trans kq109 (by simp)
          have bL : w109.heap[L99]? = some (.cells #[.string ⟨#[97, 47, 98]⟩, .string ⟨#[]⟩, .string ⟨#[100]⟩, .string ⟨#[98]⟩] 9 (0, 0)) := by rw [kq109.block _ (lt_of_heap bL) (by simp)]; exact bL
          refine hK.out _ _ ?_ (fun hHeld => ?_)
          · exact HC8.out _ kk109
          clear hK K
          try simp only [Act.put, List.setIfInBounds_toArray, List.set_cons_zero, List.set_cons_succ, List.getElem_toArray, List.getElem_cons_zero, List.getElem_cons_succ]
          refine wpAnyH_ready (rs := [8]) (by kernel_rfl) (by simp) ?_
          refine AllReadyH.cons rfl (fun K hK => ?_) AllReadyH.nil
          obtain ⟨w110, Z110, HV110, kq110, bZ⟩ := one_box w109 #[.int .i64 5, .int .i64 1, .string ⟨#[98]⟩] 42
          go_simp
          rw [HV110.out.1, HV110.out.2]
          have kk110 : Kept [] W5 w110 := kk109.trans kq110 (by simp)
          have HF := HF.kept kq110
          have bL : w110.heap[L99]? = some (.cells #[.string ⟨#[97, 47, 98]⟩, .string ⟨#[]⟩, .string ⟨#[100]⟩, .string ⟨#[98]⟩] 9 (0, 0)) := by rw [kq110.block _ (lt_of_heap bL) (by simp)]; exact bL
          refine hK.out _ _ ?_ (fun hHeld => ?_)
          · exact HC8.out _ kk110
          clear hK K
          try simp only [Act.put, List.setIfInBounds_toArray, List.set_cons_zero, List.set_cons_succ, List.getElem_toArray, List.getElem_cons_zero, List.getElem_cons_succ]
          refine wpAnyH_ready (rs := [9]) (by kernel_rfl) (by simp) ?_
          refine AllReadyH.cons rfl (fun K hK => ?_) AllReadyH.nil
          go_simp
          refine (same_F (M := [⟨5, 1, ⟨#[98]⟩⟩]) c7 1 (by simp) HF (fia_of (M := [⟨5, 1, ⟨#[98]⟩⟩]) bZ)).mono ?_
          rintro e w111 ⟨rfl, kq111⟩
          have HKz : Hid (Kept [] w w111) := HKw.out.trans (kk110.trans kq111 (by simp)) (by simp)
          go_wp2_with fail
          have kk111 : Kept [] W5 w111 := kk110.trans kq111 (by simp)
          have HF := HF.kept kq111
          have bL : w111.heap[L99]? = some (.cells #[.string ⟨#[97, 47, 98]⟩, .string ⟨#[]⟩, .string ⟨#[100]⟩, .string ⟨#[98]⟩] 9 (0, 0)) := by rw [kq111.block _ (lt_of_heap bL) (by simp)]; exact bL
          have bZ : w111.heap[Z110]? = some (.cells #[.int .i64 5, .int .i64 1, .string ⟨#[98]⟩] 42 (0, 0)) := by rw [kq111.block _ (lt_of_heap bZ) (by simp)]; exact bZ
          refine hK.out _ _ ?_ (fun hHeld => ?_)
          · exact HC8.out _ kk111
          clear hK K
          try simp only [Act.put, List.setIfInBounds_toArray, List.set_cons_zero, List.set_cons_succ, List.getElem_toArray, List.getElem_cons_zero, List.getElem_cons_succ]
          refine wpAnyH_take (i := 10) (v := ?vq112) rfl (by kernel_rfl) (by kernel_rfl) (by kernel_rfl) (fun _ _ _ h => h) (Or.inl ⟨by rfl, ?hq112⟩) (by assumption) ?_
          case hq112 =>
            intro w hSw
            (try dsimp only at hSw)
            go_simp
            try with_reducible rfl
          try simp only [Act.put, List.setIfInBounds_toArray, List.set_cons_zero, List.set_cons_succ, List.getElem_toArray, List.getElem_cons_zero, List.getElem_cons_succ]
          refine wpAnyH_done (by kernel_rfl) ?_ _
          clear HF hHeld
          go_wp2_with fail
          go_ret
          exact ⟨rfl, HKz.out⟩
        · obtain ⟨w113, Z113, HV113, kq113, bZ⟩ := one_box w99 #[.int .i64 5, .int .i64 1, .string ⟨#[98]⟩] 42
          go_simp
          rw [HV113.out.1, HV113.out.2]
          have kk113 : Kept [] W5 w113 := kk99.trans kq113 (by simp)
          have bL : w113.heap[L99]? = some (.cells #[.string ⟨#[97, 47, 98]⟩, .string ⟨#[]⟩, .string ⟨#[100]⟩, .string ⟨#[98]⟩] 9 (0, 0)) := by rw [kq113.block _ (lt_of_heap bL) (by simp)]; exact bL
          refine hK.out _ _ ?_ (fun hHeld => ?_)
          · exact HC8.out _ kk113
          clear hK K
          try simp only [Act.put, List.setIfInBounds_toArray, List.set_cons_zero, List.set_cons_succ, List.getElem_toArray, List.getElem_cons_zero, List.getElem_cons_succ]
          refine wpAnyH_ready (rs := [1]) (by kernel_rfl) (by simp) ?_
          refine AllReadyH.cons rfl (fun K hK => ?_) AllReadyH.nil
          go_simp
          refine (p_Checks (HS5.out.kept kk113) (HT.out.kept (HKw.out.trans kk113 (by simp))) ok_na3).mono ?_
          rintro e w114 ⟨a7, c7, rfl, HF, kq114⟩
          go_wp2_with fail
          have kk114 : Kept [] W5 w114 := kk113.trans kq114 (by simp)
          have bL : w114.heap[L99]? = some (.cells #[.string ⟨#[97, 47, 98]⟩, .string ⟨#[]⟩, .string ⟨#[100]⟩, .string ⟨#[98]⟩] 9 (0, 0)) := by rw [kq114.block _ (lt_of_heap bL) (by simp)]; exact bL
          have bZ : w114.heap[Z113]? = some (.cells #[.int .i64 5, .int .i64 1, .string ⟨#[98]⟩] 42 (0, 0)) := by rw [kq114.block _ (lt_of_heap bZ) (by simp)]; exact bZ
          refine hK.out _ _ ?_ (fun hHeld => ?_)
          · exact HC8.out _ kk114
          clear hK K
          try simp only [Act.put, List.setIfInBounds_toArray, List.set_cons_zero, List.set_cons_succ, List.getElem_toArray, List.getElem_cons_zero, List.getElem_cons_succ]
          refine wpAnyH_ready (rs := [9]) (by kernel_rfl) (by simp) ?_
          refine AllReadyH.cons rfl (fun K hK => ?_) AllReadyH.nil
          go_simp
          refine (same_F (M := [⟨5, 1, ⟨#[98]⟩⟩]) c7 1 (by simp) HF (fia_of (M := [⟨5, 1, ⟨#[98]⟩⟩]) bZ)).mono ?_
          rintro e w115 ⟨rfl, kq115⟩
          have HKz : Hid (Kept [] w w115) := HKw.out.trans (kk114.trans kq115 (by simp)) (by simp)
          go_wp2_with fail
          have kk115 : Kept [] W5 w115 := kk114.trans kq115 (by simp)
          have HF := HF.kept kq115
          have bL : w115.heap[L99]? = some (.cells #[.string ⟨#[97, 47, 98]⟩, .string ⟨#[]⟩, .string ⟨#[100]⟩, .string ⟨#[98]⟩] 9 (0, 0)) := by rw [kq115.block _ (lt_of_heap bL) (by simp)]; exact bL
          have bZ : w115.heap[Z113]? = some (.cells #[.int .i64 5, .int .i64 1, .string ⟨#[98]⟩] 42 (0, 0)) := by rw [kq115.block _ (lt_of_heap bZ) (by simp)]; exact bZ
          refine hK.out _ _ ?_ (fun hHeld => ?_)
          · exact HC8.out _ kk115
          clear hK K
          try simp only [Act.put, List.setIfInBounds_toArray, List.set_cons_zero, List.set_cons_succ, List.getElem_toArray, List.getElem_cons_zero, List.getElem_cons_succ]
          refine wpAnyH_take (i := 10) (v := ?vq116) rfl (by kernel_rfl) (by kernel_rfl) (by kernel_rfl) (fun _ _ _ h => h) (Or.inl ⟨by rfl, ?hq116⟩) (by assumption) ?_
          case hq116 =>
            intro w hSw
            (try dsimp only at hSw)
            go_simp
            try with_reducible rfl
          try simp only [Act.put, List.setIfInBounds_toArray, List.set_cons_zero, List.set_cons_succ, List.getElem_toArray, List.getElem_cons_zero, List.getElem_cons_succ]
          refine wpAnyH_done (by kernel_rfl) ?_ _
          clear HF hHeld
          go_wp2_with fail
          go_ret
          exact ⟨rfl, HKz.out⟩

end Go.Proofs.YtgfdcnjnkljahaaDoor
