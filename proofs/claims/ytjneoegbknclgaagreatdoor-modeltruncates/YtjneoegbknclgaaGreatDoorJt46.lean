/-
  Joined of my texts Tz Laid.
-/
import Derived.Test.YtjneoegbknclgaaGreatDoorJt44
import Derived.Test.YtjneoegbknclgaaGreatDoorJt45
import Derived.Test.YtjneoegbknclgaaGreatDoorJt3
import Derived.ProofKit
import Derived.LaidMore
import Derived.OpenShut
import Derived.Lay
import Derived.Stop.Joined
set_option linter.unusedVariables false
set_option linter.unusedSimpArgs false
set_option maxRecDepth 100000
set_option maxHeartbeats 8000000
namespace Go.Proofs.YtjneoegbknclgaaGreatDoor
open Go.RowKit
def tD (k : Nat) : ByteArray := strOfNums (sizedL (dataAt (mS1 7) 3) k)
def tS (k : Nat) : Sta := setDS (mS1 7) 3 (tD k)
theorem mt1 : (0 : Int) < ((mS1 7).made.length : Int) := by decide
theorem t_size (k : Nat) : (tD k).size = k := by
 unfold tD
 rw [strOfNums_size, sizedL_length]
theorem t_byte {k j : Nat} (hj : j < k) (h : j < (tD k).size) : (((tD k)[j]'h).toNat : Int) = if j < 10 then 48 + (j : Int) else 0 := by
 have h1 : (tD k).data[j]? = ((sizedL (dataAt (mS1 7) 3) k)[j]?).map fun n => UInt8.ofNat n.toNat := by
  unfold tD strOfNums
  simp
 have hd : byI (dataAt (mS1 7) 3) = [48, 49, 50, 51, 52, 53, 54, 55, 56, 57] := by kernel_rfl
 have hz : (dataAt (mS1 7) 3).size = 10 := by kernel_rfl
 have h2 : (tD k).data[j]? = some ((tD k)[j]'h) := by
  rw [Array.getElem?_eq_getElem (by exact h)]
  rfl
 rw [h2] at h1
 unfold sizedL at h1
 rw [hd, hz] at h1
 by_cases h10 : j < 10
 ·
  rw [List.getElem?_append_left (by simp; omega), List.getElem?_take_of_lt hj] at h1
  have hc : j = 0 ∨ j = 1 ∨ j = 2 ∨ j = 3 ∨ j = 4 ∨ j = 5 ∨ j = 6 ∨ j = 7 ∨ j = 8 ∨ j = 9 := by omega
  rcases hc with rfl | rfl | rfl | rfl | rfl | rfl | rfl | rfl | rfl | rfl <;> (simp at h1; rw [h1]; decide)
 ·
  rw [List.getElem?_append_right (by simp; omega), List.getElem?_replicate] at h1
  rw [if_pos (by simp; omega)] at h1
  simp at h1
  rw [h1, if_neg h10]
  decide
theorem t_play {k : Nat} (hk : k ≤ 256) : playR (mS1 7) ⟨6, 0, 0, 0, (k : Int), ⟨#[]⟩, ⟨#[]⟩, ⟨#[]⟩⟩ headI = (tS k, ansC 0) := by
 have hf : fileR (mS1 7) ⟨6, 0, 0, 0, (k : Int), ⟨#[]⟩, ⟨#[]⟩, ⟨#[]⟩⟩ = .ok 3 := rfl
 unfold playR
 have e : doR (mS1 7) ⟨6, 0, 0, 0, (k : Int), ⟨#[]⟩, ⟨#[]⟩, ⟨#[]⟩⟩ headI = truncR (mS1 7) ⟨6, 0, 0, 0, (k : Int), ⟨#[]⟩, ⟨#[]⟩, ⟨#[]⟩⟩ := by unfold doR; simp
 rw [if_pos ⟨mb1_7, Int.le_refl _, mt1⟩, e]
 unfold truncR
 rw [hf]
 dsimp only
 rw [if_pos (show (0 : Int) ≤ (k : Int) ∧ (k : Int) ≤ 256 by omega)]
 simp [ansR, tS, tD]
theorem t_may {k : Nat} (hk : k ≤ 256) : mayB (tS k) = true :=
 may_view.2 (Vw.setDS (may_view.1 mb1_7) (c := ⟨4, 0, 0, 0, 256, ⟨#[]⟩, ⟨#[]⟩, ⟨#[]⟩⟩) (k := 3) rfl (by rw [t_size]; exact hk))
theorem t_set (k : Nat) : tS k = setD (mS1 7) 3 (by decide) (tD k) := by
 unfold tS setDS
 rw [dif_pos]
theorem t_bd {k : Nat} (hk : k ≤ 256) : Bd (tS k) := by
 rw [t_set]
 exact md1_7.setDat (by decide) (by rw [t_size]; omega)
theorem t_read {k : Nat} (hk : k ≤ 256) : playR (tS k) ⟨4, 0, 0, 0, 256, ⟨#[]⟩, ⟨#[]⟩, ⟨#[]⟩⟩ headI = (tS k, ⟨0, 0, 0, false, tD k, []⟩) := by
 have hf : fileR (tS k) ⟨4, 0, 0, 0, 256, ⟨#[]⟩, ⟨#[]⟩, ⟨#[]⟩⟩ = .ok 3 := by rw [t_set]; rfl
 have hd : dataAt (tS k) 3 = tD k := by rw [t_set]; rfl
 have hm : (0 : Int) < ((tS k).made.length : Int) := by rw [t_set]; exact mt1
 have e : doR (tS k) ⟨4, 0, 0, 0, 256, ⟨#[]⟩, ⟨#[]⟩, ⟨#[]⟩⟩ headI = readR (tS k) ⟨4, 0, 0, 0, 256, ⟨#[]⟩, ⟨#[]⟩, ⟨#[]⟩⟩ := by unfold doR; simp
 unfold playR
 rw [if_pos ⟨t_may hk, Int.le_refl _, hm⟩, e]
 unfold readR
 rw [hf]
 dsimp only
 rw [if_pos (by decide), hd, t_size]
 have hx : (tD k).extract (min (Int.toNat 0) k) (min (Int.toNat 0 + Int.toNat 256) k) = tD k := by
  rw [show min (Int.toNat 0) k = 0 by simp, show min (Int.toNat 0 + Int.toNat 256) k = k by simp; omega]
  have h9 := t_size k
  apply ByteArray.ext
  rw [ByteArray.data_extract]
  simp
  exact Or.inr (Nat.le_of_eq h9)
 rw [hx]
 rfl
theorem t_bad {a : Int} (h : ¬ (0 ≤ a ∧ a ≤ 256)) : playR (mS1 7) ⟨6, 0, 0, 0, a, ⟨#[]⟩, ⟨#[]⟩, ⟨#[]⟩⟩ headI = (mS1 7, ansC 9) := by
 have hf : fileR (mS1 7) ⟨6, 0, 0, 0, a, ⟨#[]⟩, ⟨#[]⟩, ⟨#[]⟩⟩ = .ok 3 := rfl
 unfold playR
 have e : doR (mS1 7) ⟨6, 0, 0, 0, a, ⟨#[]⟩, ⟨#[]⟩, ⟨#[]⟩⟩ headI = truncR (mS1 7) ⟨6, 0, 0, 0, a, ⟨#[]⟩, ⟨#[]⟩, ⟨#[]⟩⟩ := by unfold doR; simp
 rw [if_pos ⟨mb1_7, Int.le_refl _, mt1⟩, e]
 unfold truncR
 rw [hf]
 dsimp only
 rw [if_neg h]
 rfl
theorem trunc_b {w : World} (hT0 : Tab w) {a : Int} (hr : ¬ (0 ≤ a ∧ a ≤ 256)) :
  Calls Tryz.prog 3 #[.int .i64 a] w fun e w' => e = .returned (.bool true) ∧ Kept [] w w' := by
 have hT : Hid (Tab w) := hT0
 clear hT0
 go_enter Tryz.func3, Tryz.ntmps3
 go_wp2_with fail
 refine (awake_k hT.out).mono ?_
 rintro e U1 ⟨rfl, kk1⟩
 have HK_2 : Hid (Kept [] w U1) := kk1
 clear kk1
 go_wp2_with fail
 refine (l_made1).mono ?_
 rintro e U3 ⟨a3, b3, d3, eu3, rfl, ho3, kk3⟩
 obtain ⟨p3, m3, q3, n3, r3, t3, rfl, rfl, rfl⟩ := formsL ho3 5 1 1 rfl rfl rfl
 have HOs_3 : Hid (_) := ho3.less HK_2.out.size
 have HK_4 : Hid (_) := kt HK_2.out kk3
 clear HK_2
 clear ho3 kk3
 obtain ⟨V5, X5, HX5, HXk5, HXb5⟩ := boxR U3 #[.slice p3 5 m3, .slice q3 1 n3, .slice r3 1 t3] 27
 go_upto_region 4 with fail
 rw [HX5.out.1, HX5.out.2]
 have HOs_6 : Hid (_) := HOs_3.out.kept HXk5.out
 have HK_6 : Hid (_) := kt HK_4.out HXk5.out
 clear HOs_3 HK_4
 clear HX5 HXk5
 obtain ⟨cX5_0, cX5_1, cX5_2, -⟩ := zs3 HXb5.out
 go_wp2_with fail
 refine (l_DoK HOs_6.out md1_7 (hT.out.kept HK_6.out) ⟨6, 0, 0, 0, a, ⟨#[]⟩, ⟨#[]⟩, ⟨#[]⟩⟩ (dl6 mb1_7 (Int.le_refl _) mt1 rfl) (t_bad hr)).mono ?_
 rintro e U7 ⟨a7, b7, d7, eu7, z7, l7, k7, rfl, ho7, hsr7, -, kk7, -⟩
 dsimp only at ho7 ⊢
 obtain ⟨p7, m7, q7, n7, r7, t7, rfl, rfl, rfl⟩ := formsL ho7 (mS1 7).ino.length (mS1 7).opn.length (mS1 7).made.length rfl rfl rfl
 have HOt_7 : Hid (_) := ho7.less HK_6.out.size
 clear cX5_0 cX5_1 cX5_2
 have HBX5_8 : Hid (_) := kb kk7 HXb5.out
 have HOs_8 : Hid (_) := HOs_6.out.kept kk7
 have HK_8 : Hid (_) := kt HK_6.out kk7
 clear HXb5 HOs_6 HK_6
 clear ho7 hsr7 kk7
 obtain ⟨V9, X9, HX9, HXk9, HXb9⟩ := boxes2 U7 #[.slice p7 (mS1 7).ino.length m7, .slice q7 (mS1 7).opn.length n7, .slice r7 (mS1 7).made.length t7] #[.int .i64 9, .int .i64 0, .int .i64 0, .bool false, .string ⟨#[]⟩, .slice z7 l7 k7] 27 31
 go_upto_region 5 with fail
 rw [HX9.out.1, HX9.out.2]
 obtain ⟨Y9, hY9⟩ : ∃ Y9, X9 + 1 = Y9 := ⟨_, rfl⟩
 rw [hY9] at HXb9 ⊢
 have HA9 : Hid (_) := HXb9.out.1
 have HB9 : Hid (_) := HXb9.out.2.1
 have HBX5_10 : Hid (_) := kb HXk9.out HBX5_8.out
 have HOs_10 : Hid (_) := HOs_8.out.kept HXk9.out
 have HOt_10 : Hid (_) := HOt_7.out.kept HXk9.out
 have HK_10 : Hid (_) := kt HK_8.out HXk9.out
 clear HBX5_8 HOs_8 HOt_7 HK_8
 clear HX9 HXk9 HXb9 hY9
 obtain ⟨cX5_0, cX5_1, cX5_2, -⟩ := zs3 HBX5_10.out
 obtain ⟨cX9_0, cX9_1, cX9_2, -⟩ := zs3 HA9.out
 obtain ⟨cY9_0, -, -, -, -, -, -⟩ := rs6 HB9.out
 have HPl : Hid (Calls Tryz.prog 12 #[.agg #[.slice p3 5 m3, .slice q3 1 n3, .slice r3 1 t3], .agg #[.slice p7 (mS1 7).ino.length m7, .slice q7 (mS1 7).opn.length n7, .slice r7 (mS1 7).made.length t7]] V9 fun e w' => e = .returned (.bool true) ∧ Kept [] V9 w') := by
  obtain ⟨p, e1, e2, e3, hs, -⟩ := (HOs_10.out).sv md1_7
  obtain ⟨q, g1, g2, g3, hq, -⟩ := (HOt_10.out).sv md1_7
  have h8 := r_plain hs hq
  unfold sval at h8
  rw [← e1, ← e2, ← e3, ← g1, ← g2, ← g3] at h8
  exact h8
 by_cases h0 : a < 0
 ·
  have b0 : decide (a < 0) = true := decide_eq_true h0
  go_wp2_with fail
  refine HPl.out.mono ?_
  rintro e U90 ⟨rfl, k90⟩
  have HK90 : Hid (_) := kt HK_10.out k90
  clear k90 HPl
  go_wp2_with fail
  go_ret
  exact ⟨rfl, HK90.out⟩
 ·
  have b0 : decide (a < 0) = false := decide_eq_false h0
  have h2 : (256 : Int) < a := by omega
  have b2 : decide ((256 : Int) < a) = true := decide_eq_true h2
  go_wp2_with fail
  refine HPl.out.mono ?_
  rintro e U90 ⟨rfl, k90⟩
  have HK90 : Hid (_) := kt HK_10.out k90
  clear k90 HPl
  go_wp2_with fail
  go_ret
  exact ⟨rfl, HK90.out⟩
theorem trunc_g {w : World} (hT0 : Tab w) {k : Nat} (hk : k ≤ 256) :
  Calls Tryz.prog 3 #[.int .i64 (k : Int)] w fun e w' => e = .returned (.bool true) ∧ Kept [] w w' := by
 have hT : Hid (Tab w) := hT0
 clear hT0
 go_enter Tryz.func3, Tryz.ntmps3
 go_wp2_with fail
 refine (awake_k hT.out).mono ?_
 rintro e U1 ⟨rfl, kk1⟩
 have HK_2 : Hid (Kept [] w U1) := kk1
 clear kk1
 go_wp2_with fail
 refine (l_made1).mono ?_
 rintro e U3 ⟨a3, b3, d3, eu3, rfl, ho3, kk3⟩
 obtain ⟨p3, m3, q3, n3, r3, t3, rfl, rfl, rfl⟩ := formsL ho3 5 1 1 rfl rfl rfl
 have HOs_3 : Hid (_) := ho3.less HK_2.out.size
 have HK_4 : Hid (_) := kt HK_2.out kk3
 clear HK_2
 clear ho3 kk3
 obtain ⟨V5, X5, HX5, HXk5, HXb5⟩ := boxR U3 #[.slice p3 5 m3, .slice q3 1 n3, .slice r3 1 t3] 27
 go_upto_region 4 with fail
 rw [HX5.out.1, HX5.out.2]
 have HOs_6 : Hid (_) := HOs_3.out.kept HXk5.out
 have HK_6 : Hid (_) := kt HK_4.out HXk5.out
 clear HOs_3 HK_4
 clear HX5 HXk5
 have f2 := t_may hk
 have f3 := t_bd hk
 have hm1 : (0 : Int) < ((tS k).made.length : Int) := by rw [t_set]; exact mt1
 obtain ⟨cX5_0, cX5_1, cX5_2, -⟩ := zs3 HXb5.out
 go_wp2_with fail
 refine (l_DoK HOs_6.out md1_7 (hT.out.kept HK_6.out) ⟨6, 0, 0, 0, (k : Int), ⟨#[]⟩, ⟨#[]⟩, ⟨#[]⟩⟩ (dl6 mb1_7 (Int.le_refl _) mt1 rfl) (t_play hk)).mono ?_
 rintro e U7 ⟨a7, b7, d7, eu7, z7, l7, k7, rfl, ho7, hsr7, -, kk7, -⟩
 dsimp only at ho7 ⊢
 obtain ⟨p7, m7, q7, n7, r7, t7, rfl, rfl, rfl⟩ := formsL ho7 (tS k).ino.length (tS k).opn.length (tS k).made.length rfl rfl rfl
 have HOt_7 : Hid (_) := ho7.less HK_6.out.size
 clear cX5_0 cX5_1 cX5_2
 have HBX5_8 : Hid (_) := kb kk7 HXb5.out
 have HOs_8 : Hid (_) := HOs_6.out.kept kk7
 have HK_8 : Hid (_) := kt HK_6.out kk7
 clear HXb5 HOs_6 HK_6
 clear ho7 hsr7 kk7
 obtain ⟨V9, X9, HX9, HXk9, HXb9⟩ := boxes2 U7 #[.slice p7 (tS k).ino.length m7, .slice q7 (tS k).opn.length n7, .slice r7 (tS k).made.length t7] #[.int .i64 0, .int .i64 0, .int .i64 0, .bool false, .string ⟨#[]⟩, .slice z7 l7 k7] 27 31
 go_upto_region 5 with fail
 rw [HX9.out.1, HX9.out.2]
 obtain ⟨Y9, hY9⟩ : ∃ Y9, X9 + 1 = Y9 := ⟨_, rfl⟩
 rw [hY9] at HXb9 ⊢
 have HA9 : Hid (_) := HXb9.out.1
 have HB9 : Hid (_) := HXb9.out.2.1
 have HBX5_10 : Hid (_) := kb HXk9.out HBX5_8.out
 have HOs_10 : Hid (_) := HOs_8.out.kept HXk9.out
 have HOt_10 : Hid (_) := HOt_7.out.kept HXk9.out
 have HK_10 : Hid (_) := kt HK_8.out HXk9.out
 clear HBX5_8 HOs_8 HOt_7 HK_8
 clear HX9 HXk9 HXb9 hY9
 have b0 : decide ((k : Int) < 0) = false := decide_eq_false (by omega)
 have b1 : ¬ (k : Int) < 0 := by omega
 have b2 : decide ((256 : Int) < (k : Int)) = false := decide_eq_false (by omega)
 have b3 : ¬ (256 : Int) < (k : Int) := by omega
 go_upto_region 7 with fail
 obtain ⟨cX9_0, cX9_1, cX9_2, -⟩ := zs3 HA9.out
 go_wp2_with fail
 refine (l_DoK HOt_10.out f3 (hT.out.kept HK_10.out) ⟨4, 0, 0, 0, 256, ⟨#[]⟩, ⟨#[]⟩, ⟨#[]⟩⟩ (dl4 f2 (Int.le_refl _) hm1 rfl) (t_read hk)).mono ?_
 rintro e U11 ⟨a11, b11, d11, eu11, z11, l11, k11, rfl, ho11, hsr11, -, kk11, -⟩
 dsimp only at ho11 ⊢
 obtain ⟨p11, m11, q11, n11, r11, t11, rfl, rfl, rfl⟩ := formsL ho11 (tS k).ino.length (tS k).opn.length (tS k).made.length rfl rfl rfl
 have HOq_11 : Hid (_) := ho11.less HK_10.out.size
 clear cX9_0 cX9_1 cX9_2
 have HBX5_12 : Hid (_) := kb kk11 HBX5_10.out
 have HBX9_12 : Hid (_) := kb kk11 HA9.out
 have HBY9_12 : Hid (_) := kb kk11 HB9.out
 have HOs_12 : Hid (_) := HOs_10.out.kept kk11
 have HOt_12 : Hid (_) := HOt_10.out.kept kk11
 have HK_12 : Hid (_) := kt HK_10.out kk11
 clear HBX5_10 HA9 HB9 HOs_10 HOt_10 HK_10
 clear ho11 hsr11 kk11
 obtain ⟨V13, X13, HX13, HXk13, HXb13⟩ := boxes2 U11 #[.slice p11 (tS k).ino.length m11, .slice q11 (tS k).opn.length n11, .slice r11 (tS k).made.length t11] #[.int .i64 0, .int .i64 0, .int .i64 0, .bool false, .string (tD k), .slice z11 l11 k11] 27 31
 go_upto_region 8 with fail
 rw [HX13.out.1, HX13.out.2]
 obtain ⟨Y13, hY13⟩ : ∃ Y13, X13 + 1 = Y13 := ⟨_, rfl⟩
 rw [hY13] at HXb13 ⊢
 have HA13 : Hid (_) := HXb13.out.1
 have HB13 : Hid (_) := HXb13.out.2.1
 have HBX5_14 : Hid (_) := kb HXk13.out HBX5_12.out
 have HBX9_14 : Hid (_) := kb HXk13.out HBX9_12.out
 have HBY9_14 : Hid (_) := kb HXk13.out HBY9_12.out
 have HOs_14 : Hid (_) := HOs_12.out.kept HXk13.out
 have HOt_14 : Hid (_) := HOt_12.out.kept HXk13.out
 have HOq_14 : Hid (_) := HOq_11.out.kept HXk13.out
 have HK_14 : Hid (_) := kt HK_12.out HXk13.out
 clear HBX5_12 HBX9_12 HBY9_12 HOs_12 HOt_12 HOq_11 HK_12
 clear HX13 HXk13 HXb13 hY13
 obtain ⟨cY9_0, -, -, -, -, -, -⟩ := rs6 HBY9_14.out
 obtain ⟨-, -, -, -, cY13_4, -, -⟩ := rs6 HB13.out
 have hs := t_size k
 have e1 : (((tD k).size : Int) != (k : Int)) = false := by rw [hs]; simp
 have e2 : ((tD k).size : Int) = (k : Int) := by rw [hs]
 go_upto_region 10 with fail
 go_wp2_with fail
 go_loopw [8] (fun i wr => ∃ j : Nat, i = .int .i64 (j : Int) ∧ j ≤ k ∧ wr = V13) (fun i _ => ((k : Int) - intOf i).toNat)
 case atStart => exact ⟨0, rfl, by omega, rfl⟩
 case round =>
  obtain ⟨j, rfl, hj, rfl⟩ := hrel
  by_cases hlt : j < k
  ·
   have i0 : (j : Int) < (k : Int) := by omega
   by_cases h10 : j < 10
   ·
    have q0 : (j : Int) < 10 := by omega
    have q1 : decide ((j : Int) < 10) = true := decide_eq_true q0
    have q2 : j < (tD k).size := by omega
    have q3 : (j : Int) < ((tD k).size : Int) := by omega
    have q4 : (0 : Int) ≤ (j : Int) := by omega
    have hv := t_byte hlt q2
    rw [if_pos h10] at hv
    have q5 : ¬ (10 : Int) ≤ (j : Int) := by omega
    go_wp2_with fail
    go_roundw
    case rel => exact ⟨j + 1, by simp, by omega, trivial⟩
    case measure => simp [intOf]; omega
   ·
    have q0 : ¬ (j : Int) < 10 := by omega
    have q1 : decide ((j : Int) < 10) = false := decide_eq_false q0
    have q2 : j < (tD k).size := by omega
    have q3 : (j : Int) < ((tD k).size : Int) := by omega
    have q4 : (0 : Int) ≤ (j : Int) := by omega
    have hv := t_byte hlt q2
    rw [if_neg h10] at hv
    have q5 : (10 : Int) ≤ (j : Int) := by omega
    go_wp2_with fail
    go_roundw
    case rel => exact ⟨j + 1, by simp, by omega, trivial⟩
    case measure => simp [intOf]; omega
  ·
   have i0 : ¬ (j : Int) < (k : Int) := by omega
   go_wp2_with fail
   go_ret
   exact ⟨rfl, HK_14.out⟩
theorem trunc_any {w : World} (hT : Tab w) (a : Int) : Calls Tryz.prog 3 #[.int .i64 a] w fun e w' => e = .returned (.bool true) ∧ Kept [] w w' := by
 by_cases h : 0 ≤ a ∧ a ≤ 256
 ·
  have e : a = ((a.toNat : Nat) : Int) := by omega
  rw [e]
  exact trunc_g hT (by omega)
 · exact trunc_b hT h
end Go.Proofs.YtjneoegbknclgaaGreatDoor
namespace Go.Proofs.YtjneoegbknclgaaGreatDoor
open Go.ChangeShapes Go.WideShapes Go.ChangeAt Go.WideMaps Go.WideElems Go.RowKit Go.Lib
def laid2 : List (String × DataW Unit) := [("unicode/utf8.acceptRanges", Rows.laid_unicode_utf8_acceptRanges), ("unicode/utf8.first", Rows.laid_unicode_utf8_first)]
theorem own : ownKnob Tryz.prog.godebug = none := by kernel_rfl
theorem gFirst : Tryz.prog.globalNamed "unicode/utf8.first" = some 0 := by kernel_rfl
theorem tFirst : (Tryz.prog.globals[0]?).map (·.type) = some 182 := by kernel_rfl
theorem gAcc : Tryz.prog.globalNamed "unicode/utf8.acceptRanges" = some 1 := by kernel_rfl
theorem tAcc : (Tryz.prog.globals[1]?).map (·.type) = some 185 := by kernel_rfl
theorem first_listed : Rows.laid_unicode_utf8_first = .agg ((List.range 256).map fun i => .lit (.int .u8 (firstT i))) := by kernel_rfl
theorem acc_listed : (Rows.laid_unicode_utf8_acceptRanges : DataW Unit) = .agg ((List.range 16).map fun i => .agg [.lit (.int .u8 (accLo i)), .lit (.int .u8 (accHi i))]) := by kernel_rfl
theorem met_laid (os : Go.Os) (args : Array Value) : laidMetH Tryz.prog laid2 ((World.laidAll Tryz.prog os laid2).forCall (fun _ _ => 0) ⟨#[], args, []⟩).memory := by
 rw [MakeChecks.laidMetH_plain _ _ _ (by kernel_rfl)]
 exact laidMet_laidAll _ (by kernel_rfl) (by kernel_rfl)
theorem head_of_take {cs : List Value} {i : Nat} {v : Value} (h : (cs.drop i).take 1 = [v]) : cs[i]? = some v := by
 have := congrArg List.head? h
 simpa [List.head?_take] using this
theorem of_laid {W : World} (h : laidMetH Tryz.prog laid2 W) : Tab W := by
 rw [MakeChecks.laidMetH_plain _ _ _ (by kernel_rfl)] at h
 obtain ⟨ps, ⟨g0, t0, cs0, f0, p0, q0, hg0, ht0, hv0, hd0, ⟨g1, t1, cs1, f1, p1, q1, hg1, ht1, hv1, hd1, _, _⟩, _⟩, _, _⟩ := h
 obtain rfl := Option.some.inj (gAcc.symm.trans hg0)
 obtain rfl := Option.some.inj (tAcc.symm.trans ht0)
 obtain rfl := Option.some.inj (gFirst.symm.trans hg1)
 obtain rfl := Option.some.inj (tFirst.symm.trans ht1)
 have c5 : Tryz.prog.cellsOf 5 = 1 := by kernel_rfl
 have c43 : Tryz.prog.cellsOf 184 = 2 := by kernel_rfl
 refine ⟨fun i hi => ?_, fun i hi => ?_⟩
 ·
  obtain ⟨xs, m1, rfl, hx1, hlen, hn3, hel⟩ := DataW.trod_array Tryz.underlying182 hd1
  have hc := World.var?_cell hg1 hv1 i
  have h0 := hel i (by omega)
  have hix : i < xs.length := by omega
  rw [List.getElem?_eq_getElem hix] at h0
  obtain ⟨k, e1, e2, _⟩ := DataW.trod_int Tryz.underlying5 h0
  rw [c5, Nat.mul_one] at e1
  have hcs := head_of_take e1
  have hL := congrArg (fun x => x.1) hx1
  simp only [first_listed, DataW.agg.injEq] at hL
  have hLi := congrArg (fun l => l[i]?) hL
  simp only [List.getElem?_map, List.getElem?_range hi, Option.map_some, List.getElem?_eq_getElem hix, e2] at hLi
  have hk : (firstT i : Int) = k := by simpa using hLi
  rw [hc, ← Array.getElem?_toList, hcs, hk]
 ·
  obtain ⟨xs, m1, rfl, hx1, hlen, hn3, hel⟩ := DataW.trod_array Tryz.underlying185 hd0
  have hca := World.var?_cell hg0 hv0 (2 * i)
  have hcb := World.var?_cell hg0 hv0 (2 * i + 1)
  have h0 := hel i (by omega)
  have hix : i < xs.length := by omega
  rw [List.getElem?_eq_getElem hix, c43] at h0
  obtain ⟨y0, y1, n, e0, _, d0, d1⟩ := trod_struct2 Tryz.underlying184 h0
  simp only [c5, List.drop_zero] at d0 d1
  obtain ⟨k0, e1, e2, _⟩ := DataW.trod_int Tryz.underlying5 d0
  obtain ⟨k1, e3, e4, _⟩ := DataW.trod_int Tryz.underlying5 d1
  have hL := congrArg (fun x => x.1) hx1
  simp only [acc_listed, DataW.agg.injEq] at hL
  have hLi := congrArg (fun l => l[i]?) hL
  simp only [List.getElem?_map, List.getElem?_range hi, Option.map_some, List.getElem?_eq_getElem hix, e0, e2, e4] at hLi
  have hk : (accLo i : Int) = k0 ∧ (accHi i : Int) = k1 := by simpa using hLi
  have ea : cs0.toList[2 * i]? = some (.int .u8 k0) := by
   have := congrArg (fun l => l[0]?) e1
   simp only [List.getElem?_take, List.getElem?_drop] at this
   simpa [Nat.mul_comm] using this
  have eb : cs0.toList[2 * i + 1]? = some (.int .u8 k1) := by
   have := congrArg (fun l => l[0]?) e3
   simp only [List.getElem?_take, List.getElem?_drop] at this
   simpa [Nat.mul_comm] using this
  exact ⟨by rw [hca, ← Array.getElem?_toList, ea, hk.1], by rw [hcb, ← Array.getElem?_toList, eb, hk.2]⟩
end Go.Proofs.YtjneoegbknclgaaGreatDoor
