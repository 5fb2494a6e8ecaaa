/-
  Joined of my texts Fc.
-/
import Derived.Test.YtffncojcnbhblaaGreatDoorJc21
import Derived.Test.YtffncojcnbhblaaGreatDoorTk
set_option linter.unusedVariables false
set_option linter.unusedSimpArgs false
set_option maxRecDepth 100000
set_option maxHeartbeats 8000000
namespace Go.Proofs.YtffncojcnbhblaaGreatDoor
open List renaming setIfInBounds_toArray → lz0, set_cons_zero → lz1, set_cons_succ → lz2, getElem_toArray → lz3, getElem_cons_zero → lz4, getElem_cons_succ → lz5
open Go.RowKit
theorem p_truncate_none {w0 w : World} {B : Nat} {c : Cal} {pk v1 v2 v3 : Value} {ev : List Value} {S : Sta} (h : Cb w0 w B c pk v1 v2 v3 ev S) (hf : fdP S.opn c.core c.fd = none) :
  Calls Tryz.prog 108 #[.pointer (some ⟨B, 0, none⟩)] w (Out w0 w B c pk v1 v2 v3 ev S (.error 4)) := by
 obtain ⟨W1, R, HWR, HKR, HRb, HC1, HRo, HRw, HRl, p, e1, e2, e3, hrd, f1, f3, HR, HV⟩ := prg h
 have HBd : Hid (Bd S) := h.bd
 have HF : Hid (_) := hf
 clear h e1 e2 e3 f1 f3 hrd hf
 go_enter Tryz.func108, Tryz.ntmps108
 go_upto_region 1 with fail
 rw [HWR.out.1, HWR.out.2]
 clear HWR
 go_wp2_with fail
 refine (p_file_none HR.out HF.out).mono ?_
 rintro e w1 ⟨rfl, k1⟩
 exact ⟨rfl, Out.err rfl (HC1.out.kept k1) (FrB.kept (HKR.out.trans k1 (by simp)))⟩
theorem p_read_none {w0 w : World} {B : Nat} {c : Cal} {pk v1 v2 v3 : Value} {ev : List Value} {S : Sta} (h : Cb w0 w B c pk v1 v2 v3 ev S) (hf : fdP S.opn c.core c.fd = none) :
  Calls Tryz.prog 106 #[.pointer (some ⟨B, 0, none⟩)] w (Out w0 w B c pk v1 v2 v3 ev S (.error 4)) := by
 obtain ⟨W1, R, HWR, HKR, HRb, HC1, HRo, HRw, HRl, p, e1, e2, e3, hrd, f1, f3, HR, HV⟩ := prg h
 have HBd : Hid (Bd S) := h.bd
 have HF : Hid (_) := hf
 clear h e1 e2 e3 f1 f3 hrd hf
 go_enter Tryz.func106, Tryz.ntmps106
 go_upto_region 1 with fail
 rw [HWR.out.1, HWR.out.2]
 clear HWR
 go_wp2_with fail
 refine (p_file_none HR.out HF.out).mono ?_
 rintro e w1 ⟨rfl, k1⟩
 exact ⟨rfl, Out.err rfl (HC1.out.kept k1) (FrB.kept (HKR.out.trans k1 (by simp)))⟩
theorem p_write_none {w0 w : World} {B : Nat} {c : Cal} {pk v1 v2 v3 : Value} {ev : List Value} {S : Sta} (h : Cb w0 w B c pk v1 v2 v3 ev S) (hf : fdP S.opn c.core c.fd = none) :
  Calls Tryz.prog 107 #[.pointer (some ⟨B, 0, none⟩)] w (Out w0 w B c pk v1 v2 v3 ev S (.error 4)) := by
 obtain ⟨W1, R, HWR, HKR, HRb, HC1, HRo, HRw, HRl, p, e1, e2, e3, hrd, f1, f3, HR, HV⟩ := prg h
 have HBd : Hid (Bd S) := h.bd
 have HF : Hid (_) := hf
 clear h e1 e2 e3 f1 f3 hrd hf
 go_enter Tryz.func107, Tryz.ntmps107
 go_upto_region 1 with fail
 rw [HWR.out.1, HWR.out.2]
 clear HWR
 go_wp2_with fail
 refine (p_file_none HR.out HF.out).mono ?_
 rintro e w1 ⟨rfl, k1⟩
 exact ⟨rfl, Out.err rfl (HC1.out.kept k1) (FrB.kept (HKR.out.trans k1 (by simp)))⟩
theorem p_truncate_bad {w0 w : World} {B : Nat} {c : Cal} {pk v1 v2 v3 : Value} {ev : List Value} {S : Sta} (h : Cb w0 w B c pk v1 v2 v3 ev S) {j k : Nat} (hf : fdP S.opn c.core c.fd = some j) (hj : j < S.opn.length) (hat : atR S.ino (S.opn[j]).2.2 = some k) (hk : k < S.ino.length) (hn : ¬ (0 ≤ c.num ∧ c.num ≤ 256)) :
  Calls Tryz.prog 108 #[.pointer (some ⟨B, 0, none⟩)] w (Out w0 w B c pk v1 v2 v3 ev S (.error 9)) := by
 obtain ⟨W1, R, HWR, HKR, HRb, HC1, HRo, HRw, HRl, p, e1, e2, e3, hrd, f1, f3, HR, HV⟩ := prg h
 have HBd : Hid (Bd S) := h.bd
 have HF : Hid (fdP S.opn c.core c.fd = some j ∧ ∃ hj : j < S.opn.length, atR S.ino (S.opn[j]).2.2 = some k) := ⟨hf, hj, hat⟩
 obtain ⟨b1, o1, ae, ce, ha, -⟩ := hrd.sv.ino k hk
 have ho1 : o1 = 0 := by
  obtain ⟨g, hg⟩ := f1 _ ha
  simp only [Addr.mk.injEq, and_true] at hg
  exact hg.2
 subst ho1
 have HA : Hid (p.a1 = some ⟨b1, 0, none⟩) := ha
 have HN : Hid ((decide (0 ≤ c.num) && decide (c.num ≤ 256)) = false) := by show _ = _; rw [Bool.and_eq_false_iff, decide_eq_false_iff_not, decide_eq_false_iff_not]; omega
 clear h e1 e2 e3 f1 f3 hrd hf hj hat ha hn
 go_enter Tryz.func108, Tryz.ntmps108
 go_upto_region 1 with fail
 rw [HWR.out.1, HWR.out.2]
 clear HWR
 go_wp2_with fail
 refine (p_file_some HR.out HF.out.1 HF.out.2.1 HF.out.2.2 HA.out).mono ?_
 rintro e w1 ⟨rfl, k1⟩
 rw [Nat.zero_add]
 have HK1 : Hid (Kept [] w w1) := HKR.out.trans k1 (by simp)
 have HC2 : Hid (_) := HC1.out.kept k1
 have HR2 : Hid (_) := HR.out.kept k1
 have HB1 : Hid (w1.heap[R]? = _) := (k1.block _ (lt_of_heap HRb.out) (by simp)).trans HRb.out
 obtain ⟨b2, o2, -, -, ha2, -, -, -, q3, -⟩ := HR2.out.sv.ino k hk
 rw [HA.out] at ha2
 simp only [Option.some.injEq, Addr.mk.injEq, and_true] at ha2
 obtain ⟨hb2, ho2⟩ := ha2
 subst hb2 ho2
 rw [Nat.zero_add] at q3
 obtain ⟨D, hD⟩ : ∃ D, (S.ino[k]).data = D := ⟨_, rfl⟩
 have HD : Hid (D.size ≤ 140737488351232) := by rw [← hD]; exact HBd.out.d1 _ (List.getElem_mem hk)
 rw [hD] at q3
 have HDe : Hid (_) := hD
 clear hD
 clear k1 HR HC1 HRb
 have d4 := HR2.out.c4
 go_wp2_with fail
 refine (p_infile c.num w1).mono ?_
 rintro e w2 ⟨rfl, hw⟩
 subst hw
 rw [HN.out]
 go_wp2_with fail
 refine (p_if 9 (by decide) _).mono ?_
 rintro e w3 ⟨rfl, hw⟩
 subst hw
 exact ⟨rfl, Out.err rfl HC2.out (FrB.kept HK1.out)⟩
theorem p_truncate {w0 w : World} {B : Nat} {c : Cal} {pk v1 v2 v3 : Value} {ev : List Value} {S : Sta} (h : Cb w0 w B c pk v1 v2 v3 ev S) {j k : Nat} (hf : fdP S.opn c.core c.fd = some j) (hj : j < S.opn.length) (hat : atR S.ino (S.opn[j]).2.2 = some k) (hk : k < S.ino.length) {n : Nat} (hn : c.num = (n : Int)) (hn2 : n ≤ 256) :
  Calls Tryz.prog 108 #[.pointer (some ⟨B, 0, none⟩)] w (Out w0 w B c pk v1 v2 v3 ev S (.ok (setD S k hk (strOfNums (sizedL (S.ino[k]).data n)), ansC 0))) := by
 obtain ⟨W1, R, HWR, HKR, HRb, HC1, HRo, HRw, HRl, p, e1, e2, e3, hrd, f1, f3, HR, HV⟩ := prg h
 have HBd : Hid (Bd S) := h.bd
 have HF : Hid (fdP S.opn c.core c.fd = some j ∧ ∃ hj : j < S.opn.length, atR S.ino (S.opn[j]).2.2 = some k) := ⟨hf, hj, hat⟩
 obtain ⟨b1, o1, ae, ce, ha, -⟩ := hrd.sv.ino k hk
 have ho1 : o1 = 0 := by
  obtain ⟨g, hg⟩ := f1 _ ha
  simp only [Addr.mk.injEq, and_true] at hg
  exact hg.2
 subst ho1
 have HA : Hid (p.a1 = some ⟨b1, 0, none⟩) := ha
 have HN : Hid (c.num = (n : Int) ∧ (decide (0 ≤ c.num) && decide (c.num ≤ 256)) = true) := ⟨hn, by rw [hn, Bool.and_eq_true, decide_eq_true_eq, decide_eq_true_eq]; omega⟩
 clear h e1 e2 e3 f1 f3 hrd hf hj hat ha hn
 go_enter Tryz.func108, Tryz.ntmps108
 go_upto_region 1 with fail
 rw [HWR.out.1, HWR.out.2]
 clear HWR
 go_wp2_with fail
 refine (p_file_some HR.out HF.out.1 HF.out.2.1 HF.out.2.2 HA.out).mono ?_
 rintro e w1 ⟨rfl, k1⟩
 rw [Nat.zero_add]
 have HK1 : Hid (Kept [] w w1) := HKR.out.trans k1 (by simp)
 have HC2 : Hid (_) := HC1.out.kept k1
 have HR2 : Hid (_) := HR.out.kept k1
 have HB1 : Hid (w1.heap[R]? = _) := (k1.block _ (lt_of_heap HRb.out) (by simp)).trans HRb.out
 obtain ⟨b2, o2, -, -, ha2, -, -, -, q3, -⟩ := HR2.out.sv.ino k hk
 rw [HA.out] at ha2
 simp only [Option.some.injEq, Addr.mk.injEq, and_true] at ha2
 obtain ⟨hb2, ho2⟩ := ha2
 subst hb2 ho2
 rw [Nat.zero_add] at q3
 obtain ⟨D, hD⟩ : ∃ D, (S.ino[k]).data = D := ⟨_, rfl⟩
 have HD : Hid (D.size ≤ 140737488351232) := by rw [← hD]; exact HBd.out.d1 _ (List.getElem_mem hk)
 rw [hD] at q3
 have HDe : Hid (_) := hD
 clear hD
 clear k1 HR HC1 HRb
 have d4 := HR2.out.c4
 go_wp2_with fail
 refine (p_infile c.num w1).mono ?_
 rintro e w2 ⟨rfl, hw⟩
 have hw2 := hw.symm
 subst hw2
 rw [HN.out.2]
 go_wp2_with fail
 refine (p_if_no 9 _).mono ?_
 rintro e w2 ⟨rfl, hw⟩
 have hw2 := hw.symm
 subst hw2
 rw [HN.out.1] at d4
 have HC : Hid (w1.cell? ⟨B, 4, none⟩ = some (.int .i64 (n : Int))) := d4
 have q3d : w1.drew.cell? ⟨b1, k * 4 + 3, none⟩ = some (.string D) := q3
 have HV1 : Hid (v1 = .slice (some ⟨b1, 0, none⟩) S.ino.length p.c1) := by show _ = _; rw [HV.out.1, HA.out]
 have HFz : Hid (∀ W, Kept [] w1 W → W.frozen? ⟨b1, k * 4 + 3, none⟩ = false) := fun W hW => by
  have := (HC2.out.kept hW).os.ino
  rw [HV1.out] at this
  exact this.frozenAt _
 have HBg : Hid (B ≠ b1) := fun e => (HC2.out.off B (by simp)).1 (by rw [HV1.out, e]; rfl)
 have HSt : Hid (∀ (W : World) (v : Value), (W.cell? ⟨B, 4, none⟩ = some (.int .i64 (n : Int))) → ((W.setCell ⟨b1, k * 4 + 3, none⟩ v).cell? ⟨B, 4, none⟩ = some (.int .i64 (n : Int)))) := fun W v hW => by rw [cellO HBg.out]; exact hW
 have n63 : n ≤ 9223372036854775807 := by omega
 clear d4
 go_upto_region 3 with fail
 refine wp_region_held_drew (S := fun w' => w'.cell? ⟨B, 4, none⟩ = some (.int .i64 (n : Int))) (by kernel_rfl) ?_ (fun hHeld => ?_)
 · exact HC.out
 refine tkA 0 rfl ?_
 refine tkA 1 rfl ?_
 refine tkA 2 rfl ?_
 refine tkA 3 rfl ?_
 refine tkA 5 rfl ?_
 refine tkA 6 rfl ?_
 refine tkA 7 rfl ?_
 refine tkA 8 rfl ?_
 refine tkA 9 rfl ?_
 refine wpAnyH_ready (rs := [4]) (by kernel_rfl) (by simp) ?_
 refine AllReadyH.cons rfl (fun K hK => ?_) AllReadyH.nil
 go_simp
 refine hK.out _ _ ?_ (fun hHeld => ?_)
 · exact hHeld
 clear hK K
 try simp only [Act.put, lz0, lz1, lz2, lz3, lz4, lz5]
 refine wpAnyH_ready (rs := [10]) (by kernel_rfl) (by simp) ?_
 refine AllReadyH.cons rfl (fun K hK => ?_) AllReadyH.nil
 go_simp
 refine (p_sized D n (by omega) _).mono ?_
 rintro e w4 ⟨G, rfl, h4⟩
 have HK4 : Hid (Kept [] w1 w4) := (Kept.refl _ _).drew.trans h4.kept (by simp)
 have z4 := HK4.out.cell HC.out (by simp)
 have hcv := h4.conv n (sizedL_length _ _) n
 have q4 := HK4.out.cell q3 (by simp)
 have f4 : w4.frozen? ⟨b1, k * 4 + 3, none⟩ = false := HFz.out w4 HK4.out
 clear h4
 go_wp2_with fail
 refine hK.out _ _ ?_ (fun hHeld => ?_)
 · exact z4
 clear hK K
 try simp only [Act.put, lz0, lz1, lz2, lz3, lz4, lz5]
 refine wpAnyH_ready (rs := [11]) (by kernel_rfl) (by simp) ?_
 refine AllReadyH.cons rfl (fun K hK => ?_) AllReadyH.nil
 go_simp
 refine hK.out _ _ ?_ (fun hHeld => ?_)
 · exact hHeld
 clear hK K
 try simp only [Act.put, lz0, lz1, lz2, lz3, lz4, lz5]
 refine tkA 12 rfl ?_
 refine tkA 13 rfl ?_
 refine wpAnyH_ready (rs := [14]) (by kernel_rfl) (by simp) ?_
 refine AllReadyH.cons rfl (fun K hK => ?_) AllReadyH.nil
 go_simp
 refine hK.out _ _ ?_ (fun hHeld => ?_)
 · exact HSt.out _ _ hHeld
 clear hK K
 try simp only [Act.put, lz0, lz1, lz2, lz3, lz4, lz5]
 refine wpAnyH_done (by kernel_rfl) ?_ _
 have HC5 : Hid (_) := (HC2.out.kept HK4.out).setDat hk HV1.out (d := strOfNums (sizedL D n)) (by rw [strOfNums_size, sizedL_length]; omega)
 have HF5 : Hid (_) := (FrB.kept (B := B) (v1 := v1) (v2 := v2) (v3 := v3) (ev := ev) (HK1.out.trans HK4.out (by simp))).trans (FrB.ino (i := k * 4 + 3) HV1.out (.string (strOfNums (sizedL D n))))
 have HRg : Hid (R ≠ b1) := fun e => (HRo.out.1 R (by simp)).1 (by rw [HV1.out, e]; rfl)
 have HB5 : Hid (_) := (block_other (v := .string (strOfNums (sizedL D n))) (i := k * 4 + 3) HRg.out).trans ((HK4.out.block _ (lt_of_heap HB1.out) (by simp)).trans HB1.out)
 obtain ⟨W5, hW5⟩ : ∃ W5, w4.setCell ⟨b1, k * 4 + 3, none⟩ (.string (strOfNums (sizedL D n))) = W5 := ⟨_, rfl⟩
 rw [hW5] at HC5 HF5 HB5 ⊢
 clear hW5 z4 hcv q4 f4 q3 q3d hHeld HC2 HB1 HR2
 obtain ⟨g0, g1, g2, g3, g4, g5⟩ := cz6 HB5.out
 obtain ⟨z0, z1, z2, z3, z4, z5⟩ := fz6 HB5.out
 go_wp2_with fail
 (try simp only [Exit.inBlock, Exit.then])
 refine bodyPost_ret (results_cell_row rfl _ _ R 31 #[.int .i64 0, .int .i64 0, .int .i64 0, .bool false, .string ⟨#[]⟩, .slice none 0 0] (0, 0) _ rfl (block_res HB5.out _ _ _ _ _ _) Tryz.underlying31 rfl (by kernel_rfl)) rfl ?_
 exact Out.val (by rw [HDe.out]) rfl rfl (HC5.out.res HRl.out HRo.out.1 HRo.out.2 _ _ _ _ _ _) (FrB.res HF5.out HRw.out _ _ _ _ _ _)
end Go.Proofs.YtffncojcnbhblaaGreatDoor
