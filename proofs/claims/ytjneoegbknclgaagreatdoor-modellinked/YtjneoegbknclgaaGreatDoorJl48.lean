/-
  Joined of my texts Lk.
-/
import Derived.Test.YtjneoegbknclgaaGreatDoorJl45
import Derived.Test.YtjneoegbknclgaaGreatDoorJl47
import Derived.Test.YtjneoegbknclgaaGreatDoorTk
set_option linter.unusedVariables false
set_option linter.unusedSimpArgs false
set_option maxRecDepth 100000
set_option maxHeartbeats 8000000
namespace Go.Proofs.YtjneoegbknclgaaGreatDoor
open Go.RowKit
theorem kept3S (w : World) (Z : Nat) (a b c : Value) : Kept [Z] w (laidS w Z a b c) :=
 (((Kept.refl [Z] w).setCell (Or.inl (by simp)) a).setCell (Or.inl (by simp)) b).setCell (Or.inl (by simp)) c
theorem formsL {w : World} {H : Nat} {v1 v2 v3 : Value} {ev : List Value} {S : Sta} (h : Os w H v1 v2 v3 ev S) (a b c : Nat) (ha : S.ino.length = a) (hb : S.opn.length = b) (hc : S.made.length = c) : ∃ p m q n r t, v1 = .slice p a m ∧ v2 = .slice q b n ∧ v3 = .slice r c t := by
 subst ha hb hc
 obtain ⟨p, m, hu, -⟩ := row_form h.ino
 obtain ⟨q, n, hv, -⟩ := row_form h.opn
 obtain ⟨r, t, hw, -⟩ := row_form h.mad
 exact ⟨p, m, q, n, r, t, hu, hv, hw⟩
theorem lke1 : playR (mS1 7) ⟨14, 0, 0, 0, 0, ⟨#[47, 102]⟩, ⟨#[]⟩, ⟨#[]⟩⟩ headI = ((mS1 7), ⟨0, 0, 2, false, ⟨#[]⟩, []⟩) := by kernel_rfl
def lkS0 : Sta := ⟨[⟨1, true, [(⟨#[100]⟩, 2), (⟨#[101]⟩, 10), (⟨#[103]⟩, 18)], ⟨#[]⟩⟩, ⟨2, true, [(⟨#[104]⟩, 26)], ⟨#[]⟩⟩, ⟨10, true, [], ⟨#[]⟩⟩, ⟨18, false, [], ⟨#[48, 49, 50, 51, 52, 53, 54, 55, 56, 57]⟩⟩, ⟨26, false, [], ⟨#[]⟩⟩], [(0, 0, 18)], [4]⟩
theorem lkS0m : mayB lkS0 = true := by kernel_rfl
theorem lkS0b : Bd lkS0 := bd_of (by kernel_rfl)
theorem lke2 : playR (mS1 7) ⟨9, 0, 0, 0, 0, ⟨#[47, 102]⟩, ⟨#[]⟩, ⟨#[]⟩⟩ headI = (lkS0, ⟨0, 0, 0, false, ⟨#[]⟩, []⟩) := by kernel_rfl
theorem lke3 : playR lkS0 ⟨14, 0, 0, 0, 0, ⟨#[47, 103]⟩, ⟨#[]⟩, ⟨#[]⟩⟩ headI = (lkS0, ⟨0, 0, 1, false, ⟨#[]⟩, []⟩) := by kernel_rfl
def lkS1 : Sta := ⟨[⟨1, true, [(⟨#[100]⟩, 2), (⟨#[101]⟩, 10)], ⟨#[]⟩⟩, ⟨2, true, [(⟨#[104]⟩, 26)], ⟨#[]⟩⟩, ⟨10, true, [], ⟨#[]⟩⟩, ⟨18, false, [], ⟨#[48, 49, 50, 51, 52, 53, 54, 55, 56, 57]⟩⟩, ⟨26, false, [], ⟨#[]⟩⟩], [(0, 0, 18)], [4]⟩
theorem lkS1m : mayB lkS1 = true := by kernel_rfl
theorem lkS1b : Bd lkS1 := bd_of (by kernel_rfl)
theorem lke4 : playR lkS0 ⟨9, 0, 0, 0, 0, ⟨#[47, 103]⟩, ⟨#[]⟩, ⟨#[]⟩⟩ headI = (lkS1, ⟨0, 0, 0, false, ⟨#[]⟩, []⟩) := by kernel_rfl
theorem lke5 : playR lkS1 ⟨4, 0, 0, 0, 10, ⟨#[]⟩, ⟨#[]⟩, ⟨#[]⟩⟩ headI = (lkS1, ⟨0, 0, 0, false, ⟨#[48, 49, 50, 51, 52, 53, 54, 55, 56, 57]⟩, []⟩) := by kernel_rfl
theorem lke6 : playR lkS1 ⟨13, 0, 0, 0, 0, ⟨#[47, 103]⟩, ⟨#[]⟩, ⟨#[]⟩⟩ headI = (lkS1, ⟨1, 0, 0, false, ⟨#[]⟩, []⟩) := by kernel_rfl
def lkS2 : Sta := ⟨[⟨1, true, [(⟨#[100]⟩, 2), (⟨#[101]⟩, 10), (⟨#[103]⟩, 18)], ⟨#[]⟩⟩, ⟨2, true, [(⟨#[104]⟩, 26)], ⟨#[]⟩⟩, ⟨10, true, [], ⟨#[]⟩⟩, ⟨18, false, [], ⟨#[48, 49, 50, 51, 52, 53, 54, 55, 56, 57]⟩⟩, ⟨26, false, [], ⟨#[]⟩⟩], [], [4]⟩
theorem lkS2m : mayB lkS2 = true := by kernel_rfl
theorem lkS2b : Bd lkS2 := bd_of (by kernel_rfl)
theorem lke7 : playR lkS0 ⟨3, 0, 0, 0, 0, ⟨#[]⟩, ⟨#[]⟩, ⟨#[]⟩⟩ headI = (lkS2, ⟨0, 0, 0, false, ⟨#[]⟩, []⟩) := by kernel_rfl
def lkS3 : Sta := ⟨[⟨1, true, [(⟨#[100]⟩, 2), (⟨#[101]⟩, 10)], ⟨#[]⟩⟩, ⟨2, true, [(⟨#[104]⟩, 26)], ⟨#[]⟩⟩, ⟨10, true, [], ⟨#[]⟩⟩, ⟨26, false, [], ⟨#[]⟩⟩], [], [4]⟩
theorem lkS3m : mayB lkS3 = true := by kernel_rfl
theorem lkS3b : Bd lkS3 := bd_of (by kernel_rfl)
theorem lke8 : playR lkS2 ⟨9, 0, 0, 0, 0, ⟨#[47, 103]⟩, ⟨#[]⟩, ⟨#[]⟩⟩ headI = (lkS3, ⟨0, 0, 0, false, ⟨#[]⟩, []⟩) := by kernel_rfl
theorem lke9 : playR lkS3 ⟨4, 0, 0, 0, 10, ⟨#[]⟩, ⟨#[]⟩, ⟨#[]⟩⟩ headI = (lkS3, ⟨4, 0, 0, false, ⟨#[]⟩, []⟩) := by kernel_rfl
theorem lke10 : playR lkS3 ⟨13, 0, 0, 0, 0, ⟨#[47, 103]⟩, ⟨#[]⟩, ⟨#[]⟩⟩ headI = (lkS3, ⟨1, 0, 0, false, ⟨#[]⟩, []⟩) := by kernel_rfl
theorem lke11 : playR (mS1 7) ⟨14, 0, 0, 0, 0, ⟨#[47, 103]⟩, ⟨#[]⟩, ⟨#[]⟩⟩ headI = ((mS1 7), ⟨0, 0, 2, false, ⟨#[]⟩, []⟩) := by kernel_rfl
def lkS4 : Sta := ⟨[⟨1, true, [(⟨#[100]⟩, 2), (⟨#[101]⟩, 10), (⟨#[102]⟩, 18)], ⟨#[]⟩⟩, ⟨2, true, [(⟨#[104]⟩, 26)], ⟨#[]⟩⟩, ⟨10, true, [], ⟨#[]⟩⟩, ⟨18, false, [], ⟨#[48, 49, 50, 51, 52, 53, 54, 55, 56, 57]⟩⟩, ⟨26, false, [], ⟨#[]⟩⟩], [(0, 0, 18)], [4]⟩
theorem lkS4m : mayB lkS4 = true := by kernel_rfl
theorem lkS4b : Bd lkS4 := bd_of (by kernel_rfl)
theorem lke12 : playR (mS1 7) ⟨9, 0, 0, 0, 0, ⟨#[47, 103]⟩, ⟨#[]⟩, ⟨#[]⟩⟩ headI = (lkS4, ⟨0, 0, 0, false, ⟨#[]⟩, []⟩) := by kernel_rfl
theorem lke13 : playR lkS4 ⟨14, 0, 0, 0, 0, ⟨#[47, 102]⟩, ⟨#[]⟩, ⟨#[]⟩⟩ headI = (lkS4, ⟨0, 0, 1, false, ⟨#[]⟩, []⟩) := by kernel_rfl
theorem lke14 : playR lkS4 ⟨9, 0, 0, 0, 0, ⟨#[47, 102]⟩, ⟨#[]⟩, ⟨#[]⟩⟩ headI = (lkS1, ⟨0, 0, 0, false, ⟨#[]⟩, []⟩) := by kernel_rfl
theorem lke15 : playR lkS1 ⟨13, 0, 0, 0, 0, ⟨#[47, 102]⟩, ⟨#[]⟩, ⟨#[]⟩⟩ headI = (lkS1, ⟨1, 0, 0, false, ⟨#[]⟩, []⟩) := by kernel_rfl
def lkS5 : Sta := ⟨[⟨1, true, [(⟨#[100]⟩, 2), (⟨#[101]⟩, 10), (⟨#[102]⟩, 18)], ⟨#[]⟩⟩, ⟨2, true, [(⟨#[104]⟩, 26)], ⟨#[]⟩⟩, ⟨10, true, [], ⟨#[]⟩⟩, ⟨18, false, [], ⟨#[48, 49, 50, 51, 52, 53, 54, 55, 56, 57]⟩⟩, ⟨26, false, [], ⟨#[]⟩⟩], [], [4]⟩
theorem lkS5m : mayB lkS5 = true := by kernel_rfl
theorem lkS5b : Bd lkS5 := bd_of (by kernel_rfl)
theorem lke16 : playR lkS4 ⟨3, 0, 0, 0, 0, ⟨#[]⟩, ⟨#[]⟩, ⟨#[]⟩⟩ headI = (lkS5, ⟨0, 0, 0, false, ⟨#[]⟩, []⟩) := by kernel_rfl
theorem lke17 : playR lkS5 ⟨9, 0, 0, 0, 0, ⟨#[47, 102]⟩, ⟨#[]⟩, ⟨#[]⟩⟩ headI = (lkS3, ⟨0, 0, 0, false, ⟨#[]⟩, []⟩) := by kernel_rfl
theorem lke18 : playR lkS3 ⟨13, 0, 0, 0, 0, ⟨#[47, 102]⟩, ⟨#[]⟩, ⟨#[]⟩⟩ headI = (lkS3, ⟨1, 0, 0, false, ⟨#[]⟩, []⟩) := by kernel_rfl
theorem linked_ff {w : World} (hT0 : Tab w) :
  Calls Tryz.prog 4 #[.bool false, .bool false] w fun e w' => e = .returned (.bool true) ∧ Kept [] w w' := by
 have hT : Hid (Tab w) := hT0
 clear hT0
 go_enter Tryz.func4, Tryz.ntmps4
 go_wp2_with fail
 refine (awake_k hT.out).mono ?_
 rintro e U1 ⟨rfl, kk1⟩
 have HK_2 : Hid (Kept [] w U1) := kk1
 clear kk1
 go_wp2_with fail
 refine (l_made1).mono ?_
 rintro e U3 ⟨a3, b3, d3, eu3, rfl, ho3, kk3⟩
 obtain ⟨p3, m3, q3, n3, r3, t3, rfl, rfl, rfl⟩ := formsL ho3 5 1 1 rfl rfl rfl
 have HOs_3 : Hid (_) := ho3.less HK_2.out.size
 have HK_4 : Hid (_) := kt HK_2.out kk3
 clear HK_2
 clear ho3 kk3
 obtain ⟨V5, X5, HX5, HXk5, HXb5⟩ := boxR U3 #[.slice p3 5 m3, .slice q3 1 n3, .slice r3 1 t3] 27
 go_upto_region 7 with fail
 rw [HX5.out.1, HX5.out.2]
 have HOs_6 : Hid (_) := HOs_3.out.kept HXk5.out
 have HK_6 : Hid (_) := kt HK_4.out HXk5.out
 clear HOs_3 HK_4
 clear HX5 HXk5
 obtain ⟨cX5_0, cX5_1, cX5_2, -⟩ := zs3 HXb5.out
 go_wp2_with fail
 refine (l_DoK HOs_6.out md1_7 (hT.out.kept HK_6.out) ⟨14, 0, 0, 0, 0, ⟨#[47, 102]⟩, ⟨#[]⟩, ⟨#[]⟩⟩ (dl14 mb1_7 (by decide) (by decide) rfl) lke1).mono ?_
 rintro e U7 ⟨a7, b7, d7, eu7, z7, l7, k7, rfl, ho7, hsr7, -, kk7, -⟩
 dsimp only at ho7 ⊢
 obtain ⟨p7, m7, q7, n7, r7, t7, rfl, rfl, rfl⟩ := formsL ho7 5 1 1 rfl rfl rfl
 have HOx_7 : Hid (_) := ho7.less HK_6.out.size
 clear cX5_0 cX5_1 cX5_2
 have HBX5_8 : Hid (_) := kb kk7 HXb5.out
 have HOs_8 : Hid (_) := HOs_6.out.kept kk7
 have HK_8 : Hid (_) := kt HK_6.out kk7
 clear HXb5 HOs_6 HK_6
 clear ho7 hsr7 kk7
 obtain ⟨V9, X9, HX9, HXk9, HXb9⟩ := boxes2 U7 #[.slice p7 5 m7, .slice q7 1 n7, .slice r7 1 t7] #[.int .i64 0, .int .i64 0, .int .i64 2, .bool false, .string ⟨#[]⟩, .slice z7 l7 k7] 27 31
 go_upto_region 8 with fail
 rw [HX9.out.1, HX9.out.2]
 obtain ⟨Y9, hY9⟩ : ∃ Y9, X9 + 1 = Y9 := ⟨_, rfl⟩
 rw [hY9] at HXb9 ⊢
 have HA9 : Hid (_) := HXb9.out.1
 have HB9 : Hid (_) := HXb9.out.2.1
 have HBX5_10 : Hid (_) := kb HXk9.out HBX5_8.out
 have HOs_10 : Hid (_) := HOs_8.out.kept HXk9.out
 have HOx_10 : Hid (_) := HOx_7.out.kept HXk9.out
 have HK_10 : Hid (_) := kt HK_8.out HXk9.out
 clear HBX5_8 HOs_8 HOx_7 HK_8
 clear HX9 HXk9 HXb9 hY9
 clear HOx_10
 clear HA9
 obtain ⟨cX5_0, cX5_1, cX5_2, -⟩ := zs3 HBX5_10.out
 go_wp2_with fail
 refine (l_DoK HOs_10.out md1_7 (hT.out.kept HK_10.out) ⟨9, 0, 0, 0, 0, ⟨#[47, 102]⟩, ⟨#[]⟩, ⟨#[]⟩⟩ (dl9 mb1_7 (by decide) (by decide) rfl) lke2).mono ?_
 rintro e U11 ⟨a11, b11, d11, eu11, z11, l11, k11, rfl, ho11, hsr11, -, kk11, -⟩
 dsimp only at ho11 ⊢
 obtain ⟨p11, m11, q11, n11, r11, t11, rfl, rfl, rfl⟩ := formsL ho11 5 1 1 rfl rfl rfl
 have HOt_11 : Hid (_) := ho11.less HK_10.out.size
 clear cX5_0 cX5_1 cX5_2
 have HBX5_12 : Hid (_) := kb kk11 HBX5_10.out
 have HBY9_12 : Hid (_) := kb kk11 HB9.out
 have HOs_12 : Hid (_) := HOs_10.out.kept kk11
 have HK_12 : Hid (_) := kt HK_10.out kk11
 clear HBX5_10 HB9 HOs_10 HK_10
 clear ho11 hsr11 kk11
 obtain ⟨V13, X13, HX13, HXk13, HXb13⟩ := boxes2 U11 #[.slice p11 5 m11, .slice q11 1 n11, .slice r11 1 t11] #[.int .i64 0, .int .i64 0, .int .i64 0, .bool false, .string ⟨#[]⟩, .slice z11 l11 k11] 27 31
 go_upto_region 9 with fail
 rw [HX13.out.1, HX13.out.2]
 obtain ⟨Y13, hY13⟩ : ∃ Y13, X13 + 1 = Y13 := ⟨_, rfl⟩
 rw [hY13] at HXb13 ⊢
 have HA13 : Hid (_) := HXb13.out.1
 have HB13 : Hid (_) := HXb13.out.2.1
 have HBX5_14 : Hid (_) := kb HXk13.out HBX5_12.out
 have HBY9_14 : Hid (_) := kb HXk13.out HBY9_12.out
 have HOs_14 : Hid (_) := HOs_12.out.kept HXk13.out
 have HOt_14 : Hid (_) := HOt_11.out.kept HXk13.out
 have HK_14 : Hid (_) := kt HK_12.out HXk13.out
 clear HBX5_12 HBY9_12 HOs_12 HOt_11 HK_12
 clear HX13 HXk13 HXb13 hY13
 obtain ⟨cX13_0, cX13_1, cX13_2, -⟩ := zs3 HA13.out
 go_wp2_with fail
 refine (l_DoK HOt_14.out lkS0b (hT.out.kept HK_14.out) ⟨14, 0, 0, 0, 0, ⟨#[47, 103]⟩, ⟨#[]⟩, ⟨#[]⟩⟩ (dl14 lkS0m (by decide) (by decide) rfl) lke3).mono ?_
 rintro e U15 ⟨a15, b15, d15, eu15, z15, l15, k15, rfl, ho15, hsr15, -, kk15, -⟩
 dsimp only at ho15 ⊢
 obtain ⟨p15, m15, q15, n15, r15, t15, rfl, rfl, rfl⟩ := formsL ho15 5 1 1 rfl rfl rfl
 have HOy_15 : Hid (_) := ho15.less HK_14.out.size
 clear cX13_0 cX13_1 cX13_2
 have HBX5_16 : Hid (_) := kb kk15 HBX5_14.out
 have HBY9_16 : Hid (_) := kb kk15 HBY9_14.out
 have HBX13_16 : Hid (_) := kb kk15 HA13.out
 have HBY13_16 : Hid (_) := kb kk15 HB13.out
 have HOs_16 : Hid (_) := HOs_14.out.kept kk15
 have HOt_16 : Hid (_) := HOt_14.out.kept kk15
 have HK_16 : Hid (_) := kt HK_14.out kk15
 clear HBX5_14 HBY9_14 HA13 HB13 HOs_14 HOt_14 HK_14
 clear ho15 hsr15 kk15
 obtain ⟨V17, X17, HX17, HXk17, HXb17⟩ := boxes2 U15 #[.slice p15 5 m15, .slice q15 1 n15, .slice r15 1 t15] #[.int .i64 0, .int .i64 0, .int .i64 1, .bool false, .string ⟨#[]⟩, .slice z15 l15 k15] 27 31
 go_upto_region 13 with fail
 rw [HX17.out.1, HX17.out.2]
 obtain ⟨Y17, hY17⟩ : ∃ Y17, X17 + 1 = Y17 := ⟨_, rfl⟩
 rw [hY17] at HXb17 ⊢
 have HA17 : Hid (_) := HXb17.out.1
 have HB17 : Hid (_) := HXb17.out.2.1
 have HBX5_18 : Hid (_) := kb HXk17.out HBX5_16.out
 have HBY9_18 : Hid (_) := kb HXk17.out HBY9_16.out
 have HBX13_18 : Hid (_) := kb HXk17.out HBX13_16.out
 have HBY13_18 : Hid (_) := kb HXk17.out HBY13_16.out
 have HOs_18 : Hid (_) := HOs_16.out.kept HXk17.out
 have HOt_18 : Hid (_) := HOt_16.out.kept HXk17.out
 have HOy_18 : Hid (_) := HOy_15.out.kept HXk17.out
 have HK_18 : Hid (_) := kt HK_16.out HXk17.out
 clear HBX5_16 HBY9_16 HBX13_16 HBY13_16 HOs_16 HOt_16 HOy_15 HK_16
 clear HX17 HXk17 HXb17 hY17
 clear HOy_18
 clear HA17
 obtain ⟨cX13_0, cX13_1, cX13_2, -⟩ := zs3 HBX13_18.out
 go_wp2_with fail
 refine (l_DoK HOt_18.out lkS0b (hT.out.kept HK_18.out) ⟨9, 0, 0, 0, 0, ⟨#[47, 103]⟩, ⟨#[]⟩, ⟨#[]⟩⟩ (dl9 lkS0m (by decide) (by decide) rfl) lke4).mono ?_
 rintro e U19 ⟨a19, b19, d19, eu19, z19, l19, k19, rfl, ho19, hsr19, -, kk19, -⟩
 dsimp only at ho19 ⊢
 obtain ⟨p19, m19, q19, n19, r19, t19, rfl, rfl, rfl⟩ := formsL ho19 5 1 1 rfl rfl rfl
 have HOu_19 : Hid (_) := ho19.less HK_18.out.size
 clear cX13_0 cX13_1 cX13_2
 have HBX5_20 : Hid (_) := kb kk19 HBX5_18.out
 have HBY9_20 : Hid (_) := kb kk19 HBY9_18.out
 have HBX13_20 : Hid (_) := kb kk19 HBX13_18.out
 have HBY13_20 : Hid (_) := kb kk19 HBY13_18.out
 have HBY17_20 : Hid (_) := kb kk19 HB17.out
 have HOs_20 : Hid (_) := HOs_18.out.kept kk19
 have HOt_20 : Hid (_) := HOt_18.out.kept kk19
 have HK_20 : Hid (_) := kt HK_18.out kk19
 clear HBX5_18 HBY9_18 HBX13_18 HBY13_18 HB17 HOs_18 HOt_18 HK_18
 clear ho19 hsr19 kk19
 obtain ⟨V21, X21, HX21, HXk21, HXb21⟩ := boxes2 U19 #[.slice p19 5 m19, .slice q19 1 n19, .slice r19 1 t19] #[.int .i64 0, .int .i64 0, .int .i64 0, .bool false, .string ⟨#[]⟩, .slice z19 l19 k19] 27 31
 go_upto_region 14 with fail
 rw [HX21.out.1, HX21.out.2]
 obtain ⟨Y21, hY21⟩ : ∃ Y21, X21 + 1 = Y21 := ⟨_, rfl⟩
 rw [hY21] at HXb21 ⊢
 have HA21 : Hid (_) := HXb21.out.1
 have HB21 : Hid (_) := HXb21.out.2.1
 have HBX5_22 : Hid (_) := kb HXk21.out HBX5_20.out
 have HBY9_22 : Hid (_) := kb HXk21.out HBY9_20.out
 have HBX13_22 : Hid (_) := kb HXk21.out HBX13_20.out
 have HBY13_22 : Hid (_) := kb HXk21.out HBY13_20.out
 have HBY17_22 : Hid (_) := kb HXk21.out HBY17_20.out
 have HOs_22 : Hid (_) := HOs_20.out.kept HXk21.out
 have HOt_22 : Hid (_) := HOt_20.out.kept HXk21.out
 have HOu_22 : Hid (_) := HOu_19.out.kept HXk21.out
 have HK_22 : Hid (_) := kt HK_20.out HXk21.out
 clear HBX5_20 HBY9_20 HBX13_20 HBY13_20 HBY17_20 HOs_20 HOt_20 HOu_19 HK_20
 clear HX21 HXk21 HXb21 hY21
 obtain ⟨cX21_0, cX21_1, cX21_2, -⟩ := zs3 HA21.out
 go_wp2_with fail
 refine (l_DoK HOu_22.out lkS1b (hT.out.kept HK_22.out) ⟨4, 0, 0, 0, 10, ⟨#[]⟩, ⟨#[]⟩, ⟨#[]⟩⟩ (dl4 lkS1m (by decide) (by decide) rfl) lke5).mono ?_
 rintro e U23 ⟨a23, b23, d23, eu23, z23, l23, k23, rfl, ho23, hsr23, -, kk23, -⟩
 dsimp only at ho23 ⊢
 obtain ⟨p23, m23, q23, n23, r23, t23, rfl, rfl, rfl⟩ := formsL ho23 5 1 1 rfl rfl rfl
 have HOz_23 : Hid (_) := ho23.less HK_22.out.size
 clear cX21_0 cX21_1 cX21_2
 have HBX5_24 : Hid (_) := kb kk23 HBX5_22.out
 have HBY9_24 : Hid (_) := kb kk23 HBY9_22.out
 have HBX13_24 : Hid (_) := kb kk23 HBX13_22.out
 have HBY13_24 : Hid (_) := kb kk23 HBY13_22.out
 have HBY17_24 : Hid (_) := kb kk23 HBY17_22.out
 have HBX21_24 : Hid (_) := kb kk23 HA21.out
 have HBY21_24 : Hid (_) := kb kk23 HB21.out
 have HOs_24 : Hid (_) := HOs_22.out.kept kk23
 have HOt_24 : Hid (_) := HOt_22.out.kept kk23
 have HOu_24 : Hid (_) := HOu_22.out.kept kk23
 have HK_24 : Hid (_) := kt HK_22.out kk23
 clear HBX5_22 HBY9_22 HBX13_22 HBY13_22 HBY17_22 HA21 HB21 HOs_22 HOt_22 HOu_22 HK_22
 clear ho23 hsr23 kk23
 obtain ⟨V25, X25, HX25, HXk25, HXb25⟩ := boxes2 U23 #[.slice p23 5 m23, .slice q23 1 n23, .slice r23 1 t23] #[.int .i64 0, .int .i64 0, .int .i64 0, .bool false, .string ⟨#[48, 49, 50, 51, 52, 53, 54, 55, 56, 57]⟩, .slice z23 l23 k23] 27 31
 go_upto_region 15 with fail
 rw [HX25.out.1, HX25.out.2]
 obtain ⟨Y25, hY25⟩ : ∃ Y25, X25 + 1 = Y25 := ⟨_, rfl⟩
 rw [hY25] at HXb25 ⊢
 have HA25 : Hid (_) := HXb25.out.1
 have HB25 : Hid (_) := HXb25.out.2.1
 have HBX5_26 : Hid (_) := kb HXk25.out HBX5_24.out
 have HBY9_26 : Hid (_) := kb HXk25.out HBY9_24.out
 have HBX13_26 : Hid (_) := kb HXk25.out HBX13_24.out
 have HBY13_26 : Hid (_) := kb HXk25.out HBY13_24.out
 have HBY17_26 : Hid (_) := kb HXk25.out HBY17_24.out
 have HBX21_26 : Hid (_) := kb HXk25.out HBX21_24.out
 have HBY21_26 : Hid (_) := kb HXk25.out HBY21_24.out
 have HOs_26 : Hid (_) := HOs_24.out.kept HXk25.out
 have HOt_26 : Hid (_) := HOt_24.out.kept HXk25.out
 have HOu_26 : Hid (_) := HOu_24.out.kept HXk25.out
 have HOz_26 : Hid (_) := HOz_23.out.kept HXk25.out
 have HK_26 : Hid (_) := kt HK_24.out HXk25.out
 clear HBX5_24 HBY9_24 HBX13_24 HBY13_24 HBY17_24 HBX21_24 HBY21_24 HOs_24 HOt_24 HOu_24 HOz_23 HK_24
 clear HX25 HXk25 HXb25 hY25
 clear HOz_26
 clear HA25
 obtain ⟨cX5_0, -, -, -⟩ := zs3 HBX5_26.out
 obtain ⟨-, -, cY9_2, -, -, -, -⟩ := rs6 HBY9_26.out
 obtain ⟨cY13_0, -, -, -, -, -, -⟩ := rs6 HBY13_26.out
 obtain ⟨-, -, cY17_2, -, -, -, -⟩ := rs6 HBY17_26.out
 obtain ⟨cY21_0, -, -, -, -, -, -⟩ := rs6 HBY21_26.out
 obtain ⟨cY25_0, -, -, -, -, -, -⟩ := rs6 HB25.out
 obtain ⟨cX21_0, cX21_1, cX21_2, -⟩ := zs3 HBX21_26.out
 go_wp2_with fail
 refine (l_codeK HOu_26.out lkS1b (hT.out.kept HK_26.out) ⟨13, 0, 0, 0, 0, ⟨#[47, 103]⟩, ⟨#[]⟩, ⟨#[]⟩⟩ (dl13 lkS1m (by decide) (by decide) rfl) lke6).mono ?_
 rintro e U27 ⟨rfl, kk27⟩
 dsimp only
 have HBX5_28 : Hid (_) := kb kk27 HBX5_26.out
 have HBY9_28 : Hid (_) := kb kk27 HBY9_26.out
 have HBX13_28 : Hid (_) := kb kk27 HBX13_26.out
 have HBY13_28 : Hid (_) := kb kk27 HBY13_26.out
 have HBY17_28 : Hid (_) := kb kk27 HBY17_26.out
 have HBX21_28 : Hid (_) := kb kk27 HBX21_26.out
 have HBY21_28 : Hid (_) := kb kk27 HBY21_26.out
 have HBY25_28 : Hid (_) := kb kk27 HB25.out
 have HOs_28 : Hid (_) := HOs_26.out.kept kk27
 have HOt_28 : Hid (_) := HOt_26.out.kept kk27
 have HOu_28 : Hid (_) := HOu_26.out.kept kk27
 have HK_28 : Hid (_) := kt HK_26.out kk27
 clear HBX5_26 HBY9_26 HBX13_26 HBY13_26 HBY17_26 HBX21_26 HBY21_26 HB25 HOs_26 HOt_26 HOu_26 HK_26
 clear kk27
 go_wp2_with fail
 go_ret
 exact ⟨rfl, HK_28.out⟩
theorem linked_ft {w : World} (hT0 : Tab w) :
  Calls Tryz.prog 4 #[.bool false, .bool true] w fun e w' => e = .returned (.bool true) ∧ Kept [] w w' := by
 have hT : Hid (Tab w) := hT0
 clear hT0
 go_enter Tryz.func4, Tryz.ntmps4
 go_wp2_with fail
 refine (awake_k hT.out).mono ?_
 rintro e U1 ⟨rfl, kk1⟩
 have HK_2 : Hid (Kept [] w U1) := kk1
 clear kk1
 go_wp2_with fail
 refine (l_made1).mono ?_
 rintro e U3 ⟨a3, b3, d3, eu3, rfl, ho3, kk3⟩
 obtain ⟨p3, m3, q3, n3, r3, t3, rfl, rfl, rfl⟩ := formsL ho3 5 1 1 rfl rfl rfl
 have HOs_3 : Hid (_) := ho3.less HK_2.out.size
 have HK_4 : Hid (_) := kt HK_2.out kk3
 clear HK_2
 clear ho3 kk3
 obtain ⟨V5, X5, HX5, HXk5, HXb5⟩ := boxR U3 #[.slice p3 5 m3, .slice q3 1 n3, .slice r3 1 t3] 27
 go_upto_region 7 with fail
 rw [HX5.out.1, HX5.out.2]
 have HOs_6 : Hid (_) := HOs_3.out.kept HXk5.out
 have HK_6 : Hid (_) := kt HK_4.out HXk5.out
 clear HOs_3 HK_4
 clear HX5 HXk5
 obtain ⟨cX5_0, cX5_1, cX5_2, -⟩ := zs3 HXb5.out
 go_wp2_with fail
 refine (l_DoK HOs_6.out md1_7 (hT.out.kept HK_6.out) ⟨14, 0, 0, 0, 0, ⟨#[47, 102]⟩, ⟨#[]⟩, ⟨#[]⟩⟩ (dl14 mb1_7 (by decide) (by decide) rfl) lke1).mono ?_
 rintro e U7 ⟨a7, b7, d7, eu7, z7, l7, k7, rfl, ho7, hsr7, -, kk7, -⟩
 dsimp only at ho7 ⊢
 obtain ⟨p7, m7, q7, n7, r7, t7, rfl, rfl, rfl⟩ := formsL ho7 5 1 1 rfl rfl rfl
 have HOx_7 : Hid (_) := ho7.less HK_6.out.size
 clear cX5_0 cX5_1 cX5_2
 have HBX5_8 : Hid (_) := kb kk7 HXb5.out
 have HOs_8 : Hid (_) := HOs_6.out.kept kk7
 have HK_8 : Hid (_) := kt HK_6.out kk7
 clear HXb5 HOs_6 HK_6
 clear ho7 hsr7 kk7
 obtain ⟨V9, X9, HX9, HXk9, HXb9⟩ := boxes2 U7 #[.slice p7 5 m7, .slice q7 1 n7, .slice r7 1 t7] #[.int .i64 0, .int .i64 0, .int .i64 2, .bool false, .string ⟨#[]⟩, .slice z7 l7 k7] 27 31
 go_upto_region 8 with fail
 rw [HX9.out.1, HX9.out.2]
 obtain ⟨Y9, hY9⟩ : ∃ Y9, X9 + 1 = Y9 := ⟨_, rfl⟩
 rw [hY9] at HXb9 ⊢
 have HA9 : Hid (_) := HXb9.out.1
 have HB9 : Hid (_) := HXb9.out.2.1
 have HBX5_10 : Hid (_) := kb HXk9.out HBX5_8.out
 have HOs_10 : Hid (_) := HOs_8.out.kept HXk9.out
 have HOx_10 : Hid (_) := HOx_7.out.kept HXk9.out
 have HK_10 : Hid (_) := kt HK_8.out HXk9.out
 clear HBX5_8 HOs_8 HOx_7 HK_8
 clear HX9 HXk9 HXb9 hY9
 clear HOx_10
 clear HA9
 obtain ⟨cX5_0, cX5_1, cX5_2, -⟩ := zs3 HBX5_10.out
 go_wp2_with fail
 refine (l_DoK HOs_10.out md1_7 (hT.out.kept HK_10.out) ⟨9, 0, 0, 0, 0, ⟨#[47, 102]⟩, ⟨#[]⟩, ⟨#[]⟩⟩ (dl9 mb1_7 (by decide) (by decide) rfl) lke2).mono ?_
 rintro e U11 ⟨a11, b11, d11, eu11, z11, l11, k11, rfl, ho11, hsr11, -, kk11, -⟩
 dsimp only at ho11 ⊢
 obtain ⟨p11, m11, q11, n11, r11, t11, rfl, rfl, rfl⟩ := formsL ho11 5 1 1 rfl rfl rfl
 have HOt_11 : Hid (_) := ho11.less HK_10.out.size
 clear cX5_0 cX5_1 cX5_2
 have HBX5_12 : Hid (_) := kb kk11 HBX5_10.out
 have HBY9_12 : Hid (_) := kb kk11 HB9.out
 have HOs_12 : Hid (_) := HOs_10.out.kept kk11
 have HK_12 : Hid (_) := kt HK_10.out kk11
 clear HBX5_10 HB9 HOs_10 HK_10
 clear ho11 hsr11 kk11
 obtain ⟨V13, X13, HX13, HXk13, HXb13⟩ := boxes2 U11 #[.slice p11 5 m11, .slice q11 1 n11, .slice r11 1 t11] #[.int .i64 0, .int .i64 0, .int .i64 0, .bool false, .string ⟨#[]⟩, .slice z11 l11 k11] 27 31
 go_upto_region 9 with fail
 rw [HX13.out.1, HX13.out.2]
 obtain ⟨Y13, hY13⟩ : ∃ Y13, X13 + 1 = Y13 := ⟨_, rfl⟩
 rw [hY13] at HXb13 ⊢
 have HA13 : Hid (_) := HXb13.out.1
 have HB13 : Hid (_) := HXb13.out.2.1
 have HLw : Hid (w.heap.size ≤ X13) := by have h1 := HK_12.out.size; have h2 := HX13.out.2; show _ ≤ _; omega
 have HLX5X13 : Hid (X5 < X13) := by have h1 := lt_of_heap HBX5_12.out; have h2 := HX13.out.2; show _ < _; omega
 have HLY9X13 : Hid (Y9 < X13) := by have h1 := lt_of_heap HBY9_12.out; have h2 := HX13.out.2; show _ < _; omega
 have HLX13Y13 : Hid (X13 < Y13) := by have h4 := hY13; show _ < _; omega
 have HBX5_14 : Hid (_) := kb HXk13.out HBX5_12.out
 have HBY9_14 : Hid (_) := kb HXk13.out HBY9_12.out
 have HOs_14 : Hid (_) := HOs_12.out.kept HXk13.out
 have HOt_14 : Hid (_) := HOt_11.out.kept HXk13.out
 have HK_14 : Hid (_) := kt HK_12.out HXk13.out
 clear HBX5_12 HBY9_12 HOs_12 HOt_11 HK_12
 clear HX13 HXk13 HXb13 hY13
 obtain ⟨cX13_0, cX13_1, cX13_2, -⟩ := zs3 HA13.out
 go_wp2_with fail
 refine (l_DoK HOt_14.out lkS0b (hT.out.kept HK_14.out) ⟨14, 0, 0, 0, 0, ⟨#[47, 103]⟩, ⟨#[]⟩, ⟨#[]⟩⟩ (dl14 lkS0m (by decide) (by decide) rfl) lke3).mono ?_
 rintro e U15 ⟨a15, b15, d15, eu15, z15, l15, k15, rfl, ho15, hsr15, -, kk15, -⟩
 dsimp only at ho15 ⊢
 obtain ⟨p15, m15, q15, n15, r15, t15, rfl, rfl, rfl⟩ := formsL ho15 5 1 1 rfl rfl rfl
 have HOy_15 : Hid (_) := ho15.less HK_14.out.size
 clear cX13_0 cX13_1 cX13_2
 have HBX5_16 : Hid (_) := kb kk15 HBX5_14.out
 have HBY9_16 : Hid (_) := kb kk15 HBY9_14.out
 have HBX13_16 : Hid (_) := kb kk15 HA13.out
 have HBY13_16 : Hid (_) := kb kk15 HB13.out
 have HOs_16 : Hid (_) := HOs_14.out.kept kk15
 have HOt_16 : Hid (_) := HOt_14.out.kept kk15
 have HK_16 : Hid (_) := kt HK_14.out kk15
 clear HBX5_14 HBY9_14 HA13 HB13 HOs_14 HOt_14 HK_14
 clear ho15 hsr15 kk15
 obtain ⟨V17, X17, HX17, HXk17, HXb17⟩ := boxes2 U15 #[.slice p15 5 m15, .slice q15 1 n15, .slice r15 1 t15] #[.int .i64 0, .int .i64 0, .int .i64 1, .bool false, .string ⟨#[]⟩, .slice z15 l15 k15] 27 31
 go_upto_region 11 with fail
 rw [HX17.out.1, HX17.out.2]
 obtain ⟨Y17, hY17⟩ : ∃ Y17, X17 + 1 = Y17 := ⟨_, rfl⟩
 rw [hY17] at HXb17 ⊢
 have HA17 : Hid (_) := HXb17.out.1
 have HB17 : Hid (_) := HXb17.out.2.1
 have HLX13X17 : Hid (X13 < X17) := by have h1 := lt_of_heap HBX13_16.out; have h2 := HX17.out.2; have h4 := hY17; show _ < _; omega
 have HLX13Y17 : Hid (X13 < Y17) := by have h1 := lt_of_heap HBX13_16.out; have h2 := HX17.out.2; have h4 := hY17; show _ < _; omega
 have HBX5_18 : Hid (_) := kb HXk17.out HBX5_16.out
 have HBY9_18 : Hid (_) := kb HXk17.out HBY9_16.out
 have HBX13_18 : Hid (_) := kb HXk17.out HBX13_16.out
 have HBY13_18 : Hid (_) := kb HXk17.out HBY13_16.out
 have HOs_18 : Hid (_) := HOs_16.out.kept HXk17.out
 have HOt_18 : Hid (_) := HOt_16.out.kept HXk17.out
 have HOy_18 : Hid (_) := HOy_15.out.kept HXk17.out
 have HK_18 : Hid (_) := kt HK_16.out HXk17.out
 clear HBX5_16 HBY9_16 HBX13_16 HBY13_16 HOs_16 HOt_16 HOy_15 HK_16
 clear HX17 HXk17 HXb17 hY17
 clear HOy_18
 clear HA17
 obtain ⟨cX13_0, cX13_1, cX13_2, -⟩ := zs3 HBX13_18.out
 go_wp2_with fail
 refine (l_DoK HOt_18.out lkS0b (hT.out.kept HK_18.out) ⟨3, 0, 0, 0, 0, ⟨#[]⟩, ⟨#[]⟩, ⟨#[]⟩⟩ (dl3 lkS0m (by decide) (by decide) rfl) lke7).mono ?_
 rintro e U19 ⟨a19, b19, d19, eu19, z19, l19, k19, rfl, ho19, hsr19, -, kk19, -⟩
 dsimp only at ho19 ⊢
 obtain ⟨p19, m19, q19, n19, r19, t19, rfl, rfl, rfl⟩ := formsL ho19 5 0 1 rfl rfl rfl
 have HOo_19 : Hid (_) := ho19.less HK_18.out.size
 clear cX13_0 cX13_1 cX13_2
 have HBX5_20 : Hid (_) := kb kk19 HBX5_18.out
 have HBY9_20 : Hid (_) := kb kk19 HBY9_18.out
 have HBX13_20 : Hid (_) := kb kk19 HBX13_18.out
 have HBY13_20 : Hid (_) := kb kk19 HBY13_18.out
 have HBY17_20 : Hid (_) := kb kk19 HB17.out
 have HOs_20 : Hid (_) := HOs_18.out.kept kk19
 have HOt_20 : Hid (_) := HOt_18.out.kept kk19
 have HK_20 : Hid (_) := kt HK_18.out kk19
 clear HBX5_18 HBY9_18 HBX13_18 HBY13_18 HB17 HOs_18 HOt_18 HK_18
 clear ho19 hsr19 kk19
 obtain ⟨V21, X21, HX21, HXk21, HXb21⟩ := boxes2 U19 #[.slice p19 5 m19, .slice q19 0 n19, .slice r19 1 t19] #[.int .i64 0, .int .i64 0, .int .i64 0, .bool false, .string ⟨#[]⟩, .slice z19 l19 k19] 27 31
 go_upto_region 12 with fail
 rw [HX21.out.1, HX21.out.2]
 obtain ⟨Y21, hY21⟩ : ∃ Y21, X21 + 1 = Y21 := ⟨_, rfl⟩
 rw [hY21] at HXb21 ⊢
 have HA21 : Hid (_) := HXb21.out.1
 have HB21 : Hid (_) := HXb21.out.2.1
 have HLX13X21 : Hid (X13 < X21) := by have h1 := lt_of_heap HBX13_20.out; have h2 := HX21.out.2; have h4 := hY21; show _ < _; omega
 have HLX13Y21 : Hid (X13 < Y21) := by have h1 := lt_of_heap HBX13_20.out; have h2 := HX21.out.2; have h4 := hY21; show _ < _; omega
 have HBX5_22 : Hid (_) := kb HXk21.out HBX5_20.out
 have HBY9_22 : Hid (_) := kb HXk21.out HBY9_20.out
 have HBX13_22 : Hid (_) := kb HXk21.out HBX13_20.out
 have HBY13_22 : Hid (_) := kb HXk21.out HBY13_20.out
 have HBY17_22 : Hid (_) := kb HXk21.out HBY17_20.out
 have HOs_22 : Hid (_) := HOs_20.out.kept HXk21.out
 have HOt_22 : Hid (_) := HOt_20.out.kept HXk21.out
 have HOo_22 : Hid (_) := HOo_19.out.kept HXk21.out
 have HK_22 : Hid (_) := kt HK_20.out HXk21.out
 clear HBX5_20 HBY9_20 HBX13_20 HBY13_20 HBY17_20 HOs_20 HOt_20 HOo_19 HK_20
 clear HX21 HXk21 HXb21 hY21
 clear HB21
 obtain ⟨cX21_0, cX21_1, cX21_2, -⟩ := zs3 HA21.out
 obtain ⟨cX13_0, cX13_1, cX13_2, -⟩ := zs3 HBX13_22.out
 obtain ⟨z0, z1, z2⟩ := fz3 HBX13_22.out
 obtain ⟨V23, hV23⟩ : ∃ V23, laidS V21 X13 (.slice p19 5 m19) (.slice q19 0 n19) (.slice r19 1 t19) = V23 := ⟨_, rfl⟩
 have HBX5_23 : Hid (_) := (sta_other (w := V21) (R := X13) (a := .slice p19 5 m19) (b := .slice q19 0 n19) (c := .slice r19 1 t19) (by have h9 := HLX5X13.out; omega)).trans HBX5_22.out
 rw [hV23] at HBX5_23
 have HBY9_23 : Hid (_) := (sta_other (w := V21) (R := X13) (a := .slice p19 5 m19) (b := .slice q19 0 n19) (c := .slice r19 1 t19) (by have h9 := HLY9X13.out; omega)).trans HBY9_22.out
 rw [hV23] at HBY9_23
 have HBX13_23 : Hid (_) := block_sta HBX13_22.out (.slice p19 5 m19) (.slice q19 0 n19) (.slice r19 1 t19)
 rw [hV23] at HBX13_23
 have HBY13_23 : Hid (_) := (sta_other (w := V21) (R := X13) (a := .slice p19 5 m19) (b := .slice q19 0 n19) (c := .slice r19 1 t19) (by have h9 := HLX13Y13.out; omega)).trans HBY13_22.out
 rw [hV23] at HBY13_23
 have HBY17_23 : Hid (_) := (sta_other (w := V21) (R := X13) (a := .slice p19 5 m19) (b := .slice q19 0 n19) (c := .slice r19 1 t19) (by have h9 := HLX13Y17.out; omega)).trans HBY17_22.out
 rw [hV23] at HBY17_23
 have HBX21_23 : Hid (_) := (sta_other (w := V21) (R := X13) (a := .slice p19 5 m19) (b := .slice q19 0 n19) (c := .slice r19 1 t19) (by have h9 := HLX13X21.out; omega)).trans HA21.out
 rw [hV23] at HBX21_23
 have HOs_23 : Hid (_) := HOs_22.out.keep (kept3S V21 X13 (.slice p19 5 m19) (.slice q19 0 n19) (.slice r19 1 t19)) (off_type HOs_22.out HBX13_22.out (by decide))
 rw [hV23] at HOs_23
 have HOt_23 : Hid (_) := HOt_22.out.keep (kept3S V21 X13 (.slice p19 5 m19) (.slice q19 0 n19) (.slice r19 1 t19)) (off_type HOt_22.out HBX13_22.out (by decide))
 rw [hV23] at HOt_23
 have HOo_23 : Hid (_) := HOo_22.out.keep (kept3S V21 X13 (.slice p19 5 m19) (.slice q19 0 n19) (.slice r19 1 t19)) (off_type HOo_22.out HBX13_22.out (by decide))
 rw [hV23] at HOo_23
 have HK_23 : Hid (_) := kept_sta HK_22.out (by have h9 := HLw.out; omega) (.slice p19 5 m19) (.slice q19 0 n19) (.slice r19 1 t19)
 rw [hV23] at HK_23
 unfold Go.Proofs.YtjneoegbknclgaaGreatDoor.laidS at hV23
 have HV23 : Hid (_) := hV23
 clear hV23
 go_upto_region 13 with fail
 rw [HV23.out]
 clear HBX5_22 HBY9_22 HBX13_22 HBY13_22 HBY17_22 HA21 HOs_22 HOt_22 HOo_22 HK_22 HV23 z0 z1 z2 cX21_0 cX13_0 cX21_1 cX13_1 cX21_2 cX13_2
 obtain ⟨cX13_0, cX13_1, cX13_2, -⟩ := zs3 HBX13_23.out
 go_wp2_with fail
 refine (l_DoK HOo_23.out lkS2b (hT.out.kept HK_23.out) ⟨9, 0, 0, 0, 0, ⟨#[47, 103]⟩, ⟨#[]⟩, ⟨#[]⟩⟩ (dl9 lkS2m (by decide) (by decide) rfl) lke8).mono ?_
 rintro e U24 ⟨a24, b24, d24, eu24, z24, l24, k24, rfl, ho24, hsr24, -, kk24, -⟩
 dsimp only at ho24 ⊢
 obtain ⟨p24, m24, q24, n24, r24, t24, rfl, rfl, rfl⟩ := formsL ho24 4 0 1 rfl rfl rfl
 have HOu_24 : Hid (_) := ho24.less HK_23.out.size
 clear cX13_0 cX13_1 cX13_2
 have HBX5_25 : Hid (_) := kb kk24 HBX5_23.out
 have HBY9_25 : Hid (_) := kb kk24 HBY9_23.out
 have HBX13_25 : Hid (_) := kb kk24 HBX13_23.out
 have HBY13_25 : Hid (_) := kb kk24 HBY13_23.out
 have HBY17_25 : Hid (_) := kb kk24 HBY17_23.out
 have HBX21_25 : Hid (_) := kb kk24 HBX21_23.out
 have HOs_25 : Hid (_) := HOs_23.out.kept kk24
 have HOt_25 : Hid (_) := HOt_23.out.kept kk24
 have HOo_25 : Hid (_) := HOo_23.out.kept kk24
 have HK_25 : Hid (_) := kt HK_23.out kk24
 clear HBX5_23 HBY9_23 HBX13_23 HBY13_23 HBY17_23 HBX21_23 HOs_23 HOt_23 HOo_23 HK_23
 clear ho24 hsr24 kk24
 obtain ⟨V26, X26, HX26, HXk26, HXb26⟩ := boxes2 U24 #[.slice p24 4 m24, .slice q24 0 n24, .slice r24 1 t24] #[.int .i64 0, .int .i64 0, .int .i64 0, .bool false, .string ⟨#[]⟩, .slice z24 l24 k24] 27 31
 go_upto_region 14 with fail
 rw [HX26.out.1, HX26.out.2]
 obtain ⟨Y26, hY26⟩ : ∃ Y26, X26 + 1 = Y26 := ⟨_, rfl⟩
 rw [hY26] at HXb26 ⊢
 have HA26 : Hid (_) := HXb26.out.1
 have HB26 : Hid (_) := HXb26.out.2.1
 have HLX13X26 : Hid (X13 < X26) := by have h1 := lt_of_heap HBX13_25.out; have h2 := HX26.out.2; have h4 := hY26; show _ < _; omega
 have HLX13Y26 : Hid (X13 < Y26) := by have h1 := lt_of_heap HBX13_25.out; have h2 := HX26.out.2; have h4 := hY26; show _ < _; omega
 have HBX5_27 : Hid (_) := kb HXk26.out HBX5_25.out
 have HBY9_27 : Hid (_) := kb HXk26.out HBY9_25.out
 have HBX13_27 : Hid (_) := kb HXk26.out HBX13_25.out
 have HBY13_27 : Hid (_) := kb HXk26.out HBY13_25.out
 have HBY17_27 : Hid (_) := kb HXk26.out HBY17_25.out
 have HBX21_27 : Hid (_) := kb HXk26.out HBX21_25.out
 have HOs_27 : Hid (_) := HOs_25.out.kept HXk26.out
 have HOt_27 : Hid (_) := HOt_25.out.kept HXk26.out
 have HOo_27 : Hid (_) := HOo_25.out.kept HXk26.out
 have HOu_27 : Hid (_) := HOu_24.out.kept HXk26.out
 have HK_27 : Hid (_) := kt HK_25.out HXk26.out
 clear HBX5_25 HBY9_25 HBX13_25 HBY13_25 HBY17_25 HBX21_25 HOs_25 HOt_25 HOo_25 HOu_24 HK_25
 clear HX26 HXk26 HXb26 hY26
 obtain ⟨cX26_0, cX26_1, cX26_2, -⟩ := zs3 HA26.out
 go_wp2_with fail
 refine (l_DoK HOu_27.out lkS3b (hT.out.kept HK_27.out) ⟨4, 0, 0, 0, 10, ⟨#[]⟩, ⟨#[]⟩, ⟨#[]⟩⟩ (dl4 lkS3m (by decide) (by decide) rfl) lke9).mono ?_
 rintro e U28 ⟨a28, b28, d28, eu28, z28, l28, k28, rfl, ho28, hsr28, -, kk28, -⟩
 dsimp only at ho28 ⊢
 obtain ⟨p28, m28, q28, n28, r28, t28, rfl, rfl, rfl⟩ := formsL ho28 4 0 1 rfl rfl rfl
 have HOz_28 : Hid (_) := ho28.less HK_27.out.size
 clear cX26_0 cX26_1 cX26_2
 have HBX5_29 : Hid (_) := kb kk28 HBX5_27.out
 have HBY9_29 : Hid (_) := kb kk28 HBY9_27.out
 have HBX13_29 : Hid (_) := kb kk28 HBX13_27.out
 have HBY13_29 : Hid (_) := kb kk28 HBY13_27.out
 have HBY17_29 : Hid (_) := kb kk28 HBY17_27.out
 have HBX21_29 : Hid (_) := kb kk28 HBX21_27.out
 have HBX26_29 : Hid (_) := kb kk28 HA26.out
 have HBY26_29 : Hid (_) := kb kk28 HB26.out
 have HOs_29 : Hid (_) := HOs_27.out.kept kk28
 have HOt_29 : Hid (_) := HOt_27.out.kept kk28
 have HOo_29 : Hid (_) := HOo_27.out.kept kk28
 have HOu_29 : Hid (_) := HOu_27.out.kept kk28
 have HK_29 : Hid (_) := kt HK_27.out kk28
 clear HBX5_27 HBY9_27 HBX13_27 HBY13_27 HBY17_27 HBX21_27 HA26 HB26 HOs_27 HOt_27 HOo_27 HOu_27 HK_27
 clear ho28 hsr28 kk28
 obtain ⟨V30, X30, HX30, HXk30, HXb30⟩ := boxes2 U28 #[.slice p28 4 m28, .slice q28 0 n28, .slice r28 1 t28] #[.int .i64 4, .int .i64 0, .int .i64 0, .bool false, .string ⟨#[]⟩, .slice z28 l28 k28] 27 31
 go_upto_region 15 with fail
 rw [HX30.out.1, HX30.out.2]
 obtain ⟨Y30, hY30⟩ : ∃ Y30, X30 + 1 = Y30 := ⟨_, rfl⟩
 rw [hY30] at HXb30 ⊢
 have HA30 : Hid (_) := HXb30.out.1
 have HB30 : Hid (_) := HXb30.out.2.1
 have HLX13X30 : Hid (X13 < X30) := by have h1 := lt_of_heap HBX13_29.out; have h2 := HX30.out.2; have h4 := hY30; show _ < _; omega
 have HLX13Y30 : Hid (X13 < Y30) := by have h1 := lt_of_heap HBX13_29.out; have h2 := HX30.out.2; have h4 := hY30; show _ < _; omega
 have HBX5_31 : Hid (_) := kb HXk30.out HBX5_29.out
 have HBY9_31 : Hid (_) := kb HXk30.out HBY9_29.out
 have HBX13_31 : Hid (_) := kb HXk30.out HBX13_29.out
 have HBY13_31 : Hid (_) := kb HXk30.out HBY13_29.out
 have HBY17_31 : Hid (_) := kb HXk30.out HBY17_29.out
 have HBX21_31 : Hid (_) := kb HXk30.out HBX21_29.out
 have HBX26_31 : Hid (_) := kb HXk30.out HBX26_29.out
 have HBY26_31 : Hid (_) := kb HXk30.out HBY26_29.out
 have HOs_31 : Hid (_) := HOs_29.out.kept HXk30.out
 have HOt_31 : Hid (_) := HOt_29.out.kept HXk30.out
 have HOo_31 : Hid (_) := HOo_29.out.kept HXk30.out
 have HOu_31 : Hid (_) := HOu_29.out.kept HXk30.out
 have HOz_31 : Hid (_) := HOz_28.out.kept HXk30.out
 have HK_31 : Hid (_) := kt HK_29.out HXk30.out
 clear HBX5_29 HBY9_29 HBX13_29 HBY13_29 HBY17_29 HBX21_29 HBX26_29 HBY26_29 HOs_29 HOt_29 HOo_29 HOu_29 HOz_28 HK_29
 clear HX30 HXk30 HXb30 hY30
 clear HOz_31
 clear HA30
 obtain ⟨cX5_0, -, -, -⟩ := zs3 HBX5_31.out
 obtain ⟨-, -, cY9_2, -, -, -, -⟩ := rs6 HBY9_31.out
 obtain ⟨cY13_0, -, -, -, -, -, -⟩ := rs6 HBY13_31.out
 obtain ⟨-, -, cY17_2, -, -, -, -⟩ := rs6 HBY17_31.out
 obtain ⟨cY26_0, -, -, -, -, -, -⟩ := rs6 HBY26_31.out
 obtain ⟨cY30_0, -, -, -, -, -, -⟩ := rs6 HB30.out
 obtain ⟨cX26_0, cX26_1, cX26_2, -⟩ := zs3 HBX26_31.out
 go_wp2_with fail
 refine (l_codeK HOu_31.out lkS3b (hT.out.kept HK_31.out) ⟨13, 0, 0, 0, 0, ⟨#[47, 103]⟩, ⟨#[]⟩, ⟨#[]⟩⟩ (dl13 lkS3m (by decide) (by decide) rfl) lke10).mono ?_
 rintro e U32 ⟨rfl, kk32⟩
 dsimp only
 have HBX5_33 : Hid (_) := kb kk32 HBX5_31.out
 have HBY9_33 : Hid (_) := kb kk32 HBY9_31.out
 have HBX13_33 : Hid (_) := kb kk32 HBX13_31.out
 have HBY13_33 : Hid (_) := kb kk32 HBY13_31.out
 have HBY17_33 : Hid (_) := kb kk32 HBY17_31.out
 have HBX21_33 : Hid (_) := kb kk32 HBX21_31.out
 have HBX26_33 : Hid (_) := kb kk32 HBX26_31.out
 have HBY26_33 : Hid (_) := kb kk32 HBY26_31.out
 have HBY30_33 : Hid (_) := kb kk32 HB30.out
 have HOs_33 : Hid (_) := HOs_31.out.kept kk32
 have HOt_33 : Hid (_) := HOt_31.out.kept kk32
 have HOo_33 : Hid (_) := HOo_31.out.kept kk32
 have HOu_33 : Hid (_) := HOu_31.out.kept kk32
 have HK_33 : Hid (_) := kt HK_31.out kk32
 clear HBX5_31 HBY9_31 HBX13_31 HBY13_31 HBY17_31 HBX21_31 HBX26_31 HBY26_31 HB30 HOs_31 HOt_31 HOo_31 HOu_31 HK_31
 clear kk32
 go_wp2_with fail
 go_ret
 exact ⟨rfl, HK_33.out⟩
theorem linked_tf {w : World} (hT0 : Tab w) :
  Calls Tryz.prog 4 #[.bool true, .bool false] w fun e w' => e = .returned (.bool true) ∧ Kept [] w w' := by
 have hT : Hid (Tab w) := hT0
 clear hT0
 go_enter Tryz.func4, Tryz.ntmps4
 go_wp2_with fail
 refine (awake_k hT.out).mono ?_
 rintro e U1 ⟨rfl, kk1⟩
 have HK_2 : Hid (Kept [] w U1) := kk1
 clear kk1
 go_wp2_with fail
 refine (l_made1).mono ?_
 rintro e U3 ⟨a3, b3, d3, eu3, rfl, ho3, kk3⟩
 obtain ⟨p3, m3, q3, n3, r3, t3, rfl, rfl, rfl⟩ := formsL ho3 5 1 1 rfl rfl rfl
 have HOs_3 : Hid (_) := ho3.less HK_2.out.size
 have HK_4 : Hid (_) := kt HK_2.out kk3
 clear HK_2
 clear ho3 kk3
 obtain ⟨V5, X5, HX5, HXk5, HXb5⟩ := boxR U3 #[.slice p3 5 m3, .slice q3 1 n3, .slice r3 1 t3] 27
 go_upto_region 7 with fail
 rw [HX5.out.1, HX5.out.2]
 have HOs_6 : Hid (_) := HOs_3.out.kept HXk5.out
 have HK_6 : Hid (_) := kt HK_4.out HXk5.out
 clear HOs_3 HK_4
 clear HX5 HXk5
 obtain ⟨cX5_0, cX5_1, cX5_2, -⟩ := zs3 HXb5.out
 go_wp2_with fail
 refine (l_DoK HOs_6.out md1_7 (hT.out.kept HK_6.out) ⟨14, 0, 0, 0, 0, ⟨#[47, 103]⟩, ⟨#[]⟩, ⟨#[]⟩⟩ (dl14 mb1_7 (by decide) (by decide) rfl) lke11).mono ?_
 rintro e U7 ⟨a7, b7, d7, eu7, z7, l7, k7, rfl, ho7, hsr7, -, kk7, -⟩
 dsimp only at ho7 ⊢
 obtain ⟨p7, m7, q7, n7, r7, t7, rfl, rfl, rfl⟩ := formsL ho7 5 1 1 rfl rfl rfl
 have HOx_7 : Hid (_) := ho7.less HK_6.out.size
 clear cX5_0 cX5_1 cX5_2
 have HBX5_8 : Hid (_) := kb kk7 HXb5.out
 have HOs_8 : Hid (_) := HOs_6.out.kept kk7
 have HK_8 : Hid (_) := kt HK_6.out kk7
 clear HXb5 HOs_6 HK_6
 clear ho7 hsr7 kk7
 obtain ⟨V9, X9, HX9, HXk9, HXb9⟩ := boxes2 U7 #[.slice p7 5 m7, .slice q7 1 n7, .slice r7 1 t7] #[.int .i64 0, .int .i64 0, .int .i64 2, .bool false, .string ⟨#[]⟩, .slice z7 l7 k7] 27 31
 go_upto_region 8 with fail
 rw [HX9.out.1, HX9.out.2]
 obtain ⟨Y9, hY9⟩ : ∃ Y9, X9 + 1 = Y9 := ⟨_, rfl⟩
 rw [hY9] at HXb9 ⊢
 have HA9 : Hid (_) := HXb9.out.1
 have HB9 : Hid (_) := HXb9.out.2.1
 have HBX5_10 : Hid (_) := kb HXk9.out HBX5_8.out
 have HOs_10 : Hid (_) := HOs_8.out.kept HXk9.out
 have HOx_10 : Hid (_) := HOx_7.out.kept HXk9.out
 have HK_10 : Hid (_) := kt HK_8.out HXk9.out
 clear HBX5_8 HOs_8 HOx_7 HK_8
 clear HX9 HXk9 HXb9 hY9
 clear HOx_10
 clear HA9
 obtain ⟨cX5_0, cX5_1, cX5_2, -⟩ := zs3 HBX5_10.out
 go_wp2_with fail
 refine (l_DoK HOs_10.out md1_7 (hT.out.kept HK_10.out) ⟨9, 0, 0, 0, 0, ⟨#[47, 103]⟩, ⟨#[]⟩, ⟨#[]⟩⟩ (dl9 mb1_7 (by decide) (by decide) rfl) lke12).mono ?_
 rintro e U11 ⟨a11, b11, d11, eu11, z11, l11, k11, rfl, ho11, hsr11, -, kk11, -⟩
 dsimp only at ho11 ⊢
 obtain ⟨p11, m11, q11, n11, r11, t11, rfl, rfl, rfl⟩ := formsL ho11 5 1 1 rfl rfl rfl
 have HOt_11 : Hid (_) := ho11.less HK_10.out.size
 clear cX5_0 cX5_1 cX5_2
 have HBX5_12 : Hid (_) := kb kk11 HBX5_10.out
 have HBY9_12 : Hid (_) := kb kk11 HB9.out
 have HOs_12 : Hid (_) := HOs_10.out.kept kk11
 have HK_12 : Hid (_) := kt HK_10.out kk11
 clear HBX5_10 HB9 HOs_10 HK_10
 clear ho11 hsr11 kk11
 obtain ⟨V13, X13, HX13, HXk13, HXb13⟩ := boxes2 U11 #[.slice p11 5 m11, .slice q11 1 n11, .slice r11 1 t11] #[.int .i64 0, .int .i64 0, .int .i64 0, .bool false, .string ⟨#[]⟩, .slice z11 l11 k11] 27 31
 go_upto_region 9 with fail
 rw [HX13.out.1, HX13.out.2]
 obtain ⟨Y13, hY13⟩ : ∃ Y13, X13 + 1 = Y13 := ⟨_, rfl⟩
 rw [hY13] at HXb13 ⊢
 have HA13 : Hid (_) := HXb13.out.1
 have HB13 : Hid (_) := HXb13.out.2.1
 have HBX5_14 : Hid (_) := kb HXk13.out HBX5_12.out
 have HBY9_14 : Hid (_) := kb HXk13.out HBY9_12.out
 have HOs_14 : Hid (_) := HOs_12.out.kept HXk13.out
 have HOt_14 : Hid (_) := HOt_11.out.kept HXk13.out
 have HK_14 : Hid (_) := kt HK_12.out HXk13.out
 clear HBX5_12 HBY9_12 HOs_12 HOt_11 HK_12
 clear HX13 HXk13 HXb13 hY13
 obtain ⟨cX13_0, cX13_1, cX13_2, -⟩ := zs3 HA13.out
 go_wp2_with fail
 refine (l_DoK HOt_14.out lkS4b (hT.out.kept HK_14.out) ⟨14, 0, 0, 0, 0, ⟨#[47, 102]⟩, ⟨#[]⟩, ⟨#[]⟩⟩ (dl14 lkS4m (by decide) (by decide) rfl) lke13).mono ?_
 rintro e U15 ⟨a15, b15, d15, eu15, z15, l15, k15, rfl, ho15, hsr15, -, kk15, -⟩
 dsimp only at ho15 ⊢
 obtain ⟨p15, m15, q15, n15, r15, t15, rfl, rfl, rfl⟩ := formsL ho15 5 1 1 rfl rfl rfl
 have HOy_15 : Hid (_) := ho15.less HK_14.out.size
 clear cX13_0 cX13_1 cX13_2
 have HBX5_16 : Hid (_) := kb kk15 HBX5_14.out
 have HBY9_16 : Hid (_) := kb kk15 HBY9_14.out
 have HBX13_16 : Hid (_) := kb kk15 HA13.out
 have HBY13_16 : Hid (_) := kb kk15 HB13.out
 have HOs_16 : Hid (_) := HOs_14.out.kept kk15
 have HOt_16 : Hid (_) := HOt_14.out.kept kk15
 have HK_16 : Hid (_) := kt HK_14.out kk15
 clear HBX5_14 HBY9_14 HA13 HB13 HOs_14 HOt_14 HK_14
 clear ho15 hsr15 kk15
 obtain ⟨V17, X17, HX17, HXk17, HXb17⟩ := boxes2 U15 #[.slice p15 5 m15, .slice q15 1 n15, .slice r15 1 t15] #[.int .i64 0, .int .i64 0, .int .i64 1, .bool false, .string ⟨#[]⟩, .slice z15 l15 k15] 27 31
 go_upto_region 13 with fail
 rw [HX17.out.1, HX17.out.2]
 obtain ⟨Y17, hY17⟩ : ∃ Y17, X17 + 1 = Y17 := ⟨_, rfl⟩
 rw [hY17] at HXb17 ⊢
 have HA17 : Hid (_) := HXb17.out.1
 have HB17 : Hid (_) := HXb17.out.2.1
 have HBX5_18 : Hid (_) := kb HXk17.out HBX5_16.out
 have HBY9_18 : Hid (_) := kb HXk17.out HBY9_16.out
 have HBX13_18 : Hid (_) := kb HXk17.out HBX13_16.out
 have HBY13_18 : Hid (_) := kb HXk17.out HBY13_16.out
 have HOs_18 : Hid (_) := HOs_16.out.kept HXk17.out
 have HOt_18 : Hid (_) := HOt_16.out.kept HXk17.out
 have HOy_18 : Hid (_) := HOy_15.out.kept HXk17.out
 have HK_18 : Hid (_) := kt HK_16.out HXk17.out
 clear HBX5_16 HBY9_16 HBX13_16 HBY13_16 HOs_16 HOt_16 HOy_15 HK_16
 clear HX17 HXk17 HXb17 hY17
 clear HOy_18
 clear HA17
 obtain ⟨cX13_0, cX13_1, cX13_2, -⟩ := zs3 HBX13_18.out
 go_wp2_with fail
 refine (l_DoK HOt_18.out lkS4b (hT.out.kept HK_18.out) ⟨9, 0, 0, 0, 0, ⟨#[47, 102]⟩, ⟨#[]⟩, ⟨#[]⟩⟩ (dl9 lkS4m (by decide) (by decide) rfl) lke14).mono ?_
 rintro e U19 ⟨a19, b19, d19, eu19, z19, l19, k19, rfl, ho19, hsr19, -, kk19, -⟩
 dsimp only at ho19 ⊢
 obtain ⟨p19, m19, q19, n19, r19, t19, rfl, rfl, rfl⟩ := formsL ho19 5 1 1 rfl rfl rfl
 have HOu_19 : Hid (_) := ho19.less HK_18.out.size
 clear cX13_0 cX13_1 cX13_2
 have HBX5_20 : Hid (_) := kb kk19 HBX5_18.out
 have HBY9_20 : Hid (_) := kb kk19 HBY9_18.out
 have HBX13_20 : Hid (_) := kb kk19 HBX13_18.out
 have HBY13_20 : Hid (_) := kb kk19 HBY13_18.out
 have HBY17_20 : Hid (_) := kb kk19 HB17.out
 have HOs_20 : Hid (_) := HOs_18.out.kept kk19
 have HOt_20 : Hid (_) := HOt_18.out.kept kk19
 have HK_20 : Hid (_) := kt HK_18.out kk19
 clear HBX5_18 HBY9_18 HBX13_18 HBY13_18 HB17 HOs_18 HOt_18 HK_18
 clear ho19 hsr19 kk19
 obtain ⟨V21, X21, HX21, HXk21, HXb21⟩ := boxes2 U19 #[.slice p19 5 m19, .slice q19 1 n19, .slice r19 1 t19] #[.int .i64 0, .int .i64 0, .int .i64 0, .bool false, .string ⟨#[]⟩, .slice z19 l19 k19] 27 31
 go_upto_region 14 with fail
 rw [HX21.out.1, HX21.out.2]
 obtain ⟨Y21, hY21⟩ : ∃ Y21, X21 + 1 = Y21 := ⟨_, rfl⟩
 rw [hY21] at HXb21 ⊢
 have HA21 : Hid (_) := HXb21.out.1
 have HB21 : Hid (_) := HXb21.out.2.1
 have HBX5_22 : Hid (_) := kb HXk21.out HBX5_20.out
 have HBY9_22 : Hid (_) := kb HXk21.out HBY9_20.out
 have HBX13_22 : Hid (_) := kb HXk21.out HBX13_20.out
 have HBY13_22 : Hid (_) := kb HXk21.out HBY13_20.out
 have HBY17_22 : Hid (_) := kb HXk21.out HBY17_20.out
 have HOs_22 : Hid (_) := HOs_20.out.kept HXk21.out
 have HOt_22 : Hid (_) := HOt_20.out.kept HXk21.out
 have HOu_22 : Hid (_) := HOu_19.out.kept HXk21.out
 have HK_22 : Hid (_) := kt HK_20.out HXk21.out
 clear HBX5_20 HBY9_20 HBX13_20 HBY13_20 HBY17_20 HOs_20 HOt_20 HOu_19 HK_20
 clear HX21 HXk21 HXb21 hY21
 obtain ⟨cX21_0, cX21_1, cX21_2, -⟩ := zs3 HA21.out
 go_wp2_with fail
 refine (l_DoK HOu_22.out lkS1b (hT.out.kept HK_22.out) ⟨4, 0, 0, 0, 10, ⟨#[]⟩, ⟨#[]⟩, ⟨#[]⟩⟩ (dl4 lkS1m (by decide) (by decide) rfl) lke5).mono ?_
 rintro e U23 ⟨a23, b23, d23, eu23, z23, l23, k23, rfl, ho23, hsr23, -, kk23, -⟩
 dsimp only at ho23 ⊢
 obtain ⟨p23, m23, q23, n23, r23, t23, rfl, rfl, rfl⟩ := formsL ho23 5 1 1 rfl rfl rfl
 have HOz_23 : Hid (_) := ho23.less HK_22.out.size
 clear cX21_0 cX21_1 cX21_2
 have HBX5_24 : Hid (_) := kb kk23 HBX5_22.out
 have HBY9_24 : Hid (_) := kb kk23 HBY9_22.out
 have HBX13_24 : Hid (_) := kb kk23 HBX13_22.out
 have HBY13_24 : Hid (_) := kb kk23 HBY13_22.out
 have HBY17_24 : Hid (_) := kb kk23 HBY17_22.out
 have HBX21_24 : Hid (_) := kb kk23 HA21.out
 have HBY21_24 : Hid (_) := kb kk23 HB21.out
 have HOs_24 : Hid (_) := HOs_22.out.kept kk23
 have HOt_24 : Hid (_) := HOt_22.out.kept kk23
 have HOu_24 : Hid (_) := HOu_22.out.kept kk23
 have HK_24 : Hid (_) := kt HK_22.out kk23
 clear HBX5_22 HBY9_22 HBX13_22 HBY13_22 HBY17_22 HA21 HB21 HOs_22 HOt_22 HOu_22 HK_22
 clear ho23 hsr23 kk23
 obtain ⟨V25, X25, HX25, HXk25, HXb25⟩ := boxes2 U23 #[.slice p23 5 m23, .slice q23 1 n23, .slice r23 1 t23] #[.int .i64 0, .int .i64 0, .int .i64 0, .bool false, .string ⟨#[48, 49, 50, 51, 52, 53, 54, 55, 56, 57]⟩, .slice z23 l23 k23] 27 31
 go_upto_region 15 with fail
 rw [HX25.out.1, HX25.out.2]
 obtain ⟨Y25, hY25⟩ : ∃ Y25, X25 + 1 = Y25 := ⟨_, rfl⟩
 rw [hY25] at HXb25 ⊢
 have HA25 : Hid (_) := HXb25.out.1
 have HB25 : Hid (_) := HXb25.out.2.1
 have HBX5_26 : Hid (_) := kb HXk25.out HBX5_24.out
 have HBY9_26 : Hid (_) := kb HXk25.out HBY9_24.out
 have HBX13_26 : Hid (_) := kb HXk25.out HBX13_24.out
 have HBY13_26 : Hid (_) := kb HXk25.out HBY13_24.out
 have HBY17_26 : Hid (_) := kb HXk25.out HBY17_24.out
 have HBX21_26 : Hid (_) := kb HXk25.out HBX21_24.out
 have HBY21_26 : Hid (_) := kb HXk25.out HBY21_24.out
 have HOs_26 : Hid (_) := HOs_24.out.kept HXk25.out
 have HOt_26 : Hid (_) := HOt_24.out.kept HXk25.out
 have HOu_26 : Hid (_) := HOu_24.out.kept HXk25.out
 have HOz_26 : Hid (_) := HOz_23.out.kept HXk25.out
 have HK_26 : Hid (_) := kt HK_24.out HXk25.out
 clear HBX5_24 HBY9_24 HBX13_24 HBY13_24 HBY17_24 HBX21_24 HBY21_24 HOs_24 HOt_24 HOu_24 HOz_23 HK_24
 clear HX25 HXk25 HXb25 hY25
 clear HOz_26
 clear HA25
 obtain ⟨cX5_0, -, -, -⟩ := zs3 HBX5_26.out
 obtain ⟨-, -, cY9_2, -, -, -, -⟩ := rs6 HBY9_26.out
 obtain ⟨cY13_0, -, -, -, -, -, -⟩ := rs6 HBY13_26.out
 obtain ⟨-, -, cY17_2, -, -, -, -⟩ := rs6 HBY17_26.out
 obtain ⟨cY21_0, -, -, -, -, -, -⟩ := rs6 HBY21_26.out
 obtain ⟨cY25_0, -, -, -, -, -, -⟩ := rs6 HB25.out
 obtain ⟨cX21_0, cX21_1, cX21_2, -⟩ := zs3 HBX21_26.out
 go_wp2_with fail
 refine (l_codeK HOu_26.out lkS1b (hT.out.kept HK_26.out) ⟨13, 0, 0, 0, 0, ⟨#[47, 102]⟩, ⟨#[]⟩, ⟨#[]⟩⟩ (dl13 lkS1m (by decide) (by decide) rfl) lke15).mono ?_
 rintro e U27 ⟨rfl, kk27⟩
 dsimp only
 have HBX5_28 : Hid (_) := kb kk27 HBX5_26.out
 have HBY9_28 : Hid (_) := kb kk27 HBY9_26.out
 have HBX13_28 : Hid (_) := kb kk27 HBX13_26.out
 have HBY13_28 : Hid (_) := kb kk27 HBY13_26.out
 have HBY17_28 : Hid (_) := kb kk27 HBY17_26.out
 have HBX21_28 : Hid (_) := kb kk27 HBX21_26.out
 have HBY21_28 : Hid (_) := kb kk27 HBY21_26.out
 have HBY25_28 : Hid (_) := kb kk27 HB25.out
 have HOs_28 : Hid (_) := HOs_26.out.kept kk27
 have HOt_28 : Hid (_) := HOt_26.out.kept kk27
 have HOu_28 : Hid (_) := HOu_26.out.kept kk27
 have HK_28 : Hid (_) := kt HK_26.out kk27
 clear HBX5_26 HBY9_26 HBX13_26 HBY13_26 HBY17_26 HBX21_26 HBY21_26 HB25 HOs_26 HOt_26 HOu_26 HK_26
 clear kk27
 go_wp2_with fail
 go_ret
 exact ⟨rfl, HK_28.out⟩
theorem linked_tt {w : World} (hT0 : Tab w) :
  Calls Tryz.prog 4 #[.bool true, .bool true] w fun e w' => e = .returned (.bool true) ∧ Kept [] w w' := by
 have hT : Hid (Tab w) := hT0
 clear hT0
 go_enter Tryz.func4, Tryz.ntmps4
 go_wp2_with fail
 refine (awake_k hT.out).mono ?_
 rintro e U1 ⟨rfl, kk1⟩
 have HK_2 : Hid (Kept [] w U1) := kk1
 clear kk1
 go_wp2_with fail
 refine (l_made1).mono ?_
 rintro e U3 ⟨a3, b3, d3, eu3, rfl, ho3, kk3⟩
 obtain ⟨p3, m3, q3, n3, r3, t3, rfl, rfl, rfl⟩ := formsL ho3 5 1 1 rfl rfl rfl
 have HOs_3 : Hid (_) := ho3.less HK_2.out.size
 have HK_4 : Hid (_) := kt HK_2.out kk3
 clear HK_2
 clear ho3 kk3
 obtain ⟨V5, X5, HX5, HXk5, HXb5⟩ := boxR U3 #[.slice p3 5 m3, .slice q3 1 n3, .slice r3 1 t3] 27
 go_upto_region 7 with fail
 rw [HX5.out.1, HX5.out.2]
 have HOs_6 : Hid (_) := HOs_3.out.kept HXk5.out
 have HK_6 : Hid (_) := kt HK_4.out HXk5.out
 clear HOs_3 HK_4
 clear HX5 HXk5
 obtain ⟨cX5_0, cX5_1, cX5_2, -⟩ := zs3 HXb5.out
 go_wp2_with fail
 refine (l_DoK HOs_6.out md1_7 (hT.out.kept HK_6.out) ⟨14, 0, 0, 0, 0, ⟨#[47, 103]⟩, ⟨#[]⟩, ⟨#[]⟩⟩ (dl14 mb1_7 (by decide) (by decide) rfl) lke11).mono ?_
 rintro e U7 ⟨a7, b7, d7, eu7, z7, l7, k7, rfl, ho7, hsr7, -, kk7, -⟩
 dsimp only at ho7 ⊢
 obtain ⟨p7, m7, q7, n7, r7, t7, rfl, rfl, rfl⟩ := formsL ho7 5 1 1 rfl rfl rfl
 have HOx_7 : Hid (_) := ho7.less HK_6.out.size
 clear cX5_0 cX5_1 cX5_2
 have HBX5_8 : Hid (_) := kb kk7 HXb5.out
 have HOs_8 : Hid (_) := HOs_6.out.kept kk7
 have HK_8 : Hid (_) := kt HK_6.out kk7
 clear HXb5 HOs_6 HK_6
 clear ho7 hsr7 kk7
 obtain ⟨V9, X9, HX9, HXk9, HXb9⟩ := boxes2 U7 #[.slice p7 5 m7, .slice q7 1 n7, .slice r7 1 t7] #[.int .i64 0, .int .i64 0, .int .i64 2, .bool false, .string ⟨#[]⟩, .slice z7 l7 k7] 27 31
 go_upto_region 8 with fail
 rw [HX9.out.1, HX9.out.2]
 obtain ⟨Y9, hY9⟩ : ∃ Y9, X9 + 1 = Y9 := ⟨_, rfl⟩
 rw [hY9] at HXb9 ⊢
 have HA9 : Hid (_) := HXb9.out.1
 have HB9 : Hid (_) := HXb9.out.2.1
 have HBX5_10 : Hid (_) := kb HXk9.out HBX5_8.out
 have HOs_10 : Hid (_) := HOs_8.out.kept HXk9.out
 have HOx_10 : Hid (_) := HOx_7.out.kept HXk9.out
 have HK_10 : Hid (_) := kt HK_8.out HXk9.out
 clear HBX5_8 HOs_8 HOx_7 HK_8
 clear HX9 HXk9 HXb9 hY9
 clear HOx_10
 clear HA9
 obtain ⟨cX5_0, cX5_1, cX5_2, -⟩ := zs3 HBX5_10.out
 go_wp2_with fail
 refine (l_DoK HOs_10.out md1_7 (hT.out.kept HK_10.out) ⟨9, 0, 0, 0, 0, ⟨#[47, 103]⟩, ⟨#[]⟩, ⟨#[]⟩⟩ (dl9 mb1_7 (by decide) (by decide) rfl) lke12).mono ?_
 rintro e U11 ⟨a11, b11, d11, eu11, z11, l11, k11, rfl, ho11, hsr11, -, kk11, -⟩
 dsimp only at ho11 ⊢
 obtain ⟨p11, m11, q11, n11, r11, t11, rfl, rfl, rfl⟩ := formsL ho11 5 1 1 rfl rfl rfl
 have HOt_11 : Hid (_) := ho11.less HK_10.out.size
 clear cX5_0 cX5_1 cX5_2
 have HBX5_12 : Hid (_) := kb kk11 HBX5_10.out
 have HBY9_12 : Hid (_) := kb kk11 HB9.out
 have HOs_12 : Hid (_) := HOs_10.out.kept kk11
 have HK_12 : Hid (_) := kt HK_10.out kk11
 clear HBX5_10 HB9 HOs_10 HK_10
 clear ho11 hsr11 kk11
 obtain ⟨V13, X13, HX13, HXk13, HXb13⟩ := boxes2 U11 #[.slice p11 5 m11, .slice q11 1 n11, .slice r11 1 t11] #[.int .i64 0, .int .i64 0, .int .i64 0, .bool false, .string ⟨#[]⟩, .slice z11 l11 k11] 27 31
 go_upto_region 9 with fail
 rw [HX13.out.1, HX13.out.2]
 obtain ⟨Y13, hY13⟩ : ∃ Y13, X13 + 1 = Y13 := ⟨_, rfl⟩
 rw [hY13] at HXb13 ⊢
 have HA13 : Hid (_) := HXb13.out.1
 have HB13 : Hid (_) := HXb13.out.2.1
 have HLw : Hid (w.heap.size ≤ X13) := by have h1 := HK_12.out.size; have h2 := HX13.out.2; show _ ≤ _; omega
 have HLX5X13 : Hid (X5 < X13) := by have h1 := lt_of_heap HBX5_12.out; have h2 := HX13.out.2; show _ < _; omega
 have HLY9X13 : Hid (Y9 < X13) := by have h1 := lt_of_heap HBY9_12.out; have h2 := HX13.out.2; show _ < _; omega
 have HLX13Y13 : Hid (X13 < Y13) := by have h4 := hY13; show _ < _; omega
 have HBX5_14 : Hid (_) := kb HXk13.out HBX5_12.out
 have HBY9_14 : Hid (_) := kb HXk13.out HBY9_12.out
 have HOs_14 : Hid (_) := HOs_12.out.kept HXk13.out
 have HOt_14 : Hid (_) := HOt_11.out.kept HXk13.out
 have HK_14 : Hid (_) := kt HK_12.out HXk13.out
 clear HBX5_12 HBY9_12 HOs_12 HOt_11 HK_12
 clear HX13 HXk13 HXb13 hY13
 obtain ⟨cX13_0, cX13_1, cX13_2, -⟩ := zs3 HA13.out
 go_wp2_with fail
 refine (l_DoK HOt_14.out lkS4b (hT.out.kept HK_14.out) ⟨14, 0, 0, 0, 0, ⟨#[47, 102]⟩, ⟨#[]⟩, ⟨#[]⟩⟩ (dl14 lkS4m (by decide) (by decide) rfl) lke13).mono ?_
 rintro e U15 ⟨a15, b15, d15, eu15, z15, l15, k15, rfl, ho15, hsr15, -, kk15, -⟩
 dsimp only at ho15 ⊢
 obtain ⟨p15, m15, q15, n15, r15, t15, rfl, rfl, rfl⟩ := formsL ho15 5 1 1 rfl rfl rfl
 have HOy_15 : Hid (_) := ho15.less HK_14.out.size
 clear cX13_0 cX13_1 cX13_2
 have HBX5_16 : Hid (_) := kb kk15 HBX5_14.out
 have HBY9_16 : Hid (_) := kb kk15 HBY9_14.out
 have HBX13_16 : Hid (_) := kb kk15 HA13.out
 have HBY13_16 : Hid (_) := kb kk15 HB13.out
 have HOs_16 : Hid (_) := HOs_14.out.kept kk15
 have HOt_16 : Hid (_) := HOt_14.out.kept kk15
 have HK_16 : Hid (_) := kt HK_14.out kk15
 clear HBX5_14 HBY9_14 HA13 HB13 HOs_14 HOt_14 HK_14
 clear ho15 hsr15 kk15
 obtain ⟨V17, X17, HX17, HXk17, HXb17⟩ := boxes2 U15 #[.slice p15 5 m15, .slice q15 1 n15, .slice r15 1 t15] #[.int .i64 0, .int .i64 0, .int .i64 1, .bool false, .string ⟨#[]⟩, .slice z15 l15 k15] 27 31
 go_upto_region 11 with fail
 rw [HX17.out.1, HX17.out.2]
 obtain ⟨Y17, hY17⟩ : ∃ Y17, X17 + 1 = Y17 := ⟨_, rfl⟩
 rw [hY17] at HXb17 ⊢
 have HA17 : Hid (_) := HXb17.out.1
 have HB17 : Hid (_) := HXb17.out.2.1
 have HLX13X17 : Hid (X13 < X17) := by have h1 := lt_of_heap HBX13_16.out; have h2 := HX17.out.2; have h4 := hY17; show _ < _; omega
 have HLX13Y17 : Hid (X13 < Y17) := by have h1 := lt_of_heap HBX13_16.out; have h2 := HX17.out.2; have h4 := hY17; show _ < _; omega
 have HBX5_18 : Hid (_) := kb HXk17.out HBX5_16.out
 have HBY9_18 : Hid (_) := kb HXk17.out HBY9_16.out
 have HBX13_18 : Hid (_) := kb HXk17.out HBX13_16.out
 have HBY13_18 : Hid (_) := kb HXk17.out HBY13_16.out
 have HOs_18 : Hid (_) := HOs_16.out.kept HXk17.out
 have HOt_18 : Hid (_) := HOt_16.out.kept HXk17.out
 have HOy_18 : Hid (_) := HOy_15.out.kept HXk17.out
 have HK_18 : Hid (_) := kt HK_16.out HXk17.out
 clear HBX5_16 HBY9_16 HBX13_16 HBY13_16 HOs_16 HOt_16 HOy_15 HK_16
 clear HX17 HXk17 HXb17 hY17
 clear HOy_18
 clear HA17
 obtain ⟨cX13_0, cX13_1, cX13_2, -⟩ := zs3 HBX13_18.out
 go_wp2_with fail
 refine (l_DoK HOt_18.out lkS4b (hT.out.kept HK_18.out) ⟨3, 0, 0, 0, 0, ⟨#[]⟩, ⟨#[]⟩, ⟨#[]⟩⟩ (dl3 lkS4m (by decide) (by decide) rfl) lke16).mono ?_
 rintro e U19 ⟨a19, b19, d19, eu19, z19, l19, k19, rfl, ho19, hsr19, -, kk19, -⟩
 dsimp only at ho19 ⊢
 obtain ⟨p19, m19, q19, n19, r19, t19, rfl, rfl, rfl⟩ := formsL ho19 5 0 1 rfl rfl rfl
 have HOo_19 : Hid (_) := ho19.less HK_18.out.size
 clear cX13_0 cX13_1 cX13_2
 have HBX5_20 : Hid (_) := kb kk19 HBX5_18.out
 have HBY9_20 : Hid (_) := kb kk19 HBY9_18.out
 have HBX13_20 : Hid (_) := kb kk19 HBX13_18.out
 have HBY13_20 : Hid (_) := kb kk19 HBY13_18.out
 have HBY17_20 : Hid (_) := kb kk19 HB17.out
 have HOs_20 : Hid (_) := HOs_18.out.kept kk19
 have HOt_20 : Hid (_) := HOt_18.out.kept kk19
 have HK_20 : Hid (_) := kt HK_18.out kk19
 clear HBX5_18 HBY9_18 HBX13_18 HBY13_18 HB17 HOs_18 HOt_18 HK_18
 clear ho19 hsr19 kk19
 obtain ⟨V21, X21, HX21, HXk21, HXb21⟩ := boxes2 U19 #[.slice p19 5 m19, .slice q19 0 n19, .slice r19 1 t19] #[.int .i64 0, .int .i64 0, .int .i64 0, .bool false, .string ⟨#[]⟩, .slice z19 l19 k19] 27 31
 go_upto_region 12 with fail
 rw [HX21.out.1, HX21.out.2]
 obtain ⟨Y21, hY21⟩ : ∃ Y21, X21 + 1 = Y21 := ⟨_, rfl⟩
 rw [hY21] at HXb21 ⊢
 have HA21 : Hid (_) := HXb21.out.1
 have HB21 : Hid (_) := HXb21.out.2.1
 have HLX13X21 : Hid (X13 < X21) := by have h1 := lt_of_heap HBX13_20.out; have h2 := HX21.out.2; have h4 := hY21; show _ < _; omega
 have HLX13Y21 : Hid (X13 < Y21) := by have h1 := lt_of_heap HBX13_20.out; have h2 := HX21.out.2; have h4 := hY21; show _ < _; omega
 have HBX5_22 : Hid (_) := kb HXk21.out HBX5_20.out
 have HBY9_22 : Hid (_) := kb HXk21.out HBY9_20.out
 have HBX13_22 : Hid (_) := kb HXk21.out HBX13_20.out
 have HBY13_22 : Hid (_) := kb HXk21.out HBY13_20.out
 have HBY17_22 : Hid (_) := kb HXk21.out HBY17_20.out
 have HOs_22 : Hid (_) := HOs_20.out.kept HXk21.out
 have HOt_22 : Hid (_) := HOt_20.out.kept HXk21.out
 have HOo_22 : Hid (_) := HOo_19.out.kept HXk21.out
 have HK_22 : Hid (_) := kt HK_20.out HXk21.out
 clear HBX5_20 HBY9_20 HBX13_20 HBY13_20 HBY17_20 HOs_20 HOt_20 HOo_19 HK_20
 clear HX21 HXk21 HXb21 hY21
 clear HB21
 obtain ⟨cX21_0, cX21_1, cX21_2, -⟩ := zs3 HA21.out
 obtain ⟨cX13_0, cX13_1, cX13_2, -⟩ := zs3 HBX13_22.out
 obtain ⟨z0, z1, z2⟩ := fz3 HBX13_22.out
 obtain ⟨V23, hV23⟩ : ∃ V23, laidS V21 X13 (.slice p19 5 m19) (.slice q19 0 n19) (.slice r19 1 t19) = V23 := ⟨_, rfl⟩
 have HBX5_23 : Hid (_) := (sta_other (w := V21) (R := X13) (a := .slice p19 5 m19) (b := .slice q19 0 n19) (c := .slice r19 1 t19) (by have h9 := HLX5X13.out; omega)).trans HBX5_22.out
 rw [hV23] at HBX5_23
 have HBY9_23 : Hid (_) := (sta_other (w := V21) (R := X13) (a := .slice p19 5 m19) (b := .slice q19 0 n19) (c := .slice r19 1 t19) (by have h9 := HLY9X13.out; omega)).trans HBY9_22.out
 rw [hV23] at HBY9_23
 have HBX13_23 : Hid (_) := block_sta HBX13_22.out (.slice p19 5 m19) (.slice q19 0 n19) (.slice r19 1 t19)
 rw [hV23] at HBX13_23
 have HBY13_23 : Hid (_) := (sta_other (w := V21) (R := X13) (a := .slice p19 5 m19) (b := .slice q19 0 n19) (c := .slice r19 1 t19) (by have h9 := HLX13Y13.out; omega)).trans HBY13_22.out
 rw [hV23] at HBY13_23
 have HBY17_23 : Hid (_) := (sta_other (w := V21) (R := X13) (a := .slice p19 5 m19) (b := .slice q19 0 n19) (c := .slice r19 1 t19) (by have h9 := HLX13Y17.out; omega)).trans HBY17_22.out
 rw [hV23] at HBY17_23
 have HBX21_23 : Hid (_) := (sta_other (w := V21) (R := X13) (a := .slice p19 5 m19) (b := .slice q19 0 n19) (c := .slice r19 1 t19) (by have h9 := HLX13X21.out; omega)).trans HA21.out
 rw [hV23] at HBX21_23
 have HOs_23 : Hid (_) := HOs_22.out.keep (kept3S V21 X13 (.slice p19 5 m19) (.slice q19 0 n19) (.slice r19 1 t19)) (off_type HOs_22.out HBX13_22.out (by decide))
 rw [hV23] at HOs_23
 have HOt_23 : Hid (_) := HOt_22.out.keep (kept3S V21 X13 (.slice p19 5 m19) (.slice q19 0 n19) (.slice r19 1 t19)) (off_type HOt_22.out HBX13_22.out (by decide))
 rw [hV23] at HOt_23
 have HOo_23 : Hid (_) := HOo_22.out.keep (kept3S V21 X13 (.slice p19 5 m19) (.slice q19 0 n19) (.slice r19 1 t19)) (off_type HOo_22.out HBX13_22.out (by decide))
 rw [hV23] at HOo_23
 have HK_23 : Hid (_) := kept_sta HK_22.out (by have h9 := HLw.out; omega) (.slice p19 5 m19) (.slice q19 0 n19) (.slice r19 1 t19)
 rw [hV23] at HK_23
 unfold Go.Proofs.YtjneoegbknclgaaGreatDoor.laidS at hV23
 have HV23 : Hid (_) := hV23
 clear hV23
 go_upto_region 13 with fail
 rw [HV23.out]
 clear HBX5_22 HBY9_22 HBX13_22 HBY13_22 HBY17_22 HA21 HOs_22 HOt_22 HOo_22 HK_22 HV23 z0 z1 z2 cX21_0 cX13_0 cX21_1 cX13_1 cX21_2 cX13_2
 obtain ⟨cX13_0, cX13_1, cX13_2, -⟩ := zs3 HBX13_23.out
 go_wp2_with fail
 refine (l_DoK HOo_23.out lkS5b (hT.out.kept HK_23.out) ⟨9, 0, 0, 0, 0, ⟨#[47, 102]⟩, ⟨#[]⟩, ⟨#[]⟩⟩ (dl9 lkS5m (by decide) (by decide) rfl) lke17).mono ?_
 rintro e U24 ⟨a24, b24, d24, eu24, z24, l24, k24, rfl, ho24, hsr24, -, kk24, -⟩
 dsimp only at ho24 ⊢
 obtain ⟨p24, m24, q24, n24, r24, t24, rfl, rfl, rfl⟩ := formsL ho24 4 0 1 rfl rfl rfl
 have HOu_24 : Hid (_) := ho24.less HK_23.out.size
 clear cX13_0 cX13_1 cX13_2
 have HBX5_25 : Hid (_) := kb kk24 HBX5_23.out
 have HBY9_25 : Hid (_) := kb kk24 HBY9_23.out
 have HBX13_25 : Hid (_) := kb kk24 HBX13_23.out
 have HBY13_25 : Hid (_) := kb kk24 HBY13_23.out
 have HBY17_25 : Hid (_) := kb kk24 HBY17_23.out
 have HBX21_25 : Hid (_) := kb kk24 HBX21_23.out
 have HOs_25 : Hid (_) := HOs_23.out.kept kk24
 have HOt_25 : Hid (_) := HOt_23.out.kept kk24
 have HOo_25 : Hid (_) := HOo_23.out.kept kk24
 have HK_25 : Hid (_) := kt HK_23.out kk24
 clear HBX5_23 HBY9_23 HBX13_23 HBY13_23 HBY17_23 HBX21_23 HOs_23 HOt_23 HOo_23 HK_23
 clear ho24 hsr24 kk24
 obtain ⟨V26, X26, HX26, HXk26, HXb26⟩ := boxes2 U24 #[.slice p24 4 m24, .slice q24 0 n24, .slice r24 1 t24] #[.int .i64 0, .int .i64 0, .int .i64 0, .bool false, .string ⟨#[]⟩, .slice z24 l24 k24] 27 31
 go_upto_region 14 with fail
 rw [HX26.out.1, HX26.out.2]
 obtain ⟨Y26, hY26⟩ : ∃ Y26, X26 + 1 = Y26 := ⟨_, rfl⟩
 rw [hY26] at HXb26 ⊢
 have HA26 : Hid (_) := HXb26.out.1
 have HB26 : Hid (_) := HXb26.out.2.1
 have HLX13X26 : Hid (X13 < X26) := by have h1 := lt_of_heap HBX13_25.out; have h2 := HX26.out.2; have h4 := hY26; show _ < _; omega
 have HLX13Y26 : Hid (X13 < Y26) := by have h1 := lt_of_heap HBX13_25.out; have h2 := HX26.out.2; have h4 := hY26; show _ < _; omega
 have HBX5_27 : Hid (_) := kb HXk26.out HBX5_25.out
 have HBY9_27 : Hid (_) := kb HXk26.out HBY9_25.out
 have HBX13_27 : Hid (_) := kb HXk26.out HBX13_25.out
 have HBY13_27 : Hid (_) := kb HXk26.out HBY13_25.out
 have HBY17_27 : Hid (_) := kb HXk26.out HBY17_25.out
 have HBX21_27 : Hid (_) := kb HXk26.out HBX21_25.out
 have HOs_27 : Hid (_) := HOs_25.out.kept HXk26.out
 have HOt_27 : Hid (_) := HOt_25.out.kept HXk26.out
 have HOo_27 : Hid (_) := HOo_25.out.kept HXk26.out
 have HOu_27 : Hid (_) := HOu_24.out.kept HXk26.out
 have HK_27 : Hid (_) := kt HK_25.out HXk26.out
 clear HBX5_25 HBY9_25 HBX13_25 HBY13_25 HBY17_25 HBX21_25 HOs_25 HOt_25 HOo_25 HOu_24 HK_25
 clear HX26 HXk26 HXb26 hY26
 obtain ⟨cX26_0, cX26_1, cX26_2, -⟩ := zs3 HA26.out
 go_wp2_with fail
 refine (l_DoK HOu_27.out lkS3b (hT.out.kept HK_27.out) ⟨4, 0, 0, 0, 10, ⟨#[]⟩, ⟨#[]⟩, ⟨#[]⟩⟩ (dl4 lkS3m (by decide) (by decide) rfl) lke9).mono ?_
 rintro e U28 ⟨a28, b28, d28, eu28, z28, l28, k28, rfl, ho28, hsr28, -, kk28, -⟩
 dsimp only at ho28 ⊢
 obtain ⟨p28, m28, q28, n28, r28, t28, rfl, rfl, rfl⟩ := formsL ho28 4 0 1 rfl rfl rfl
 have HOz_28 : Hid (_) := ho28.less HK_27.out.size
 clear cX26_0 cX26_1 cX26_2
 have HBX5_29 : Hid (_) := kb kk28 HBX5_27.out
 have HBY9_29 : Hid (_) := kb kk28 HBY9_27.out
 have HBX13_29 : Hid (_) := kb kk28 HBX13_27.out
 have HBY13_29 : Hid (_) := kb kk28 HBY13_27.out
 have HBY17_29 : Hid (_) := kb kk28 HBY17_27.out
 have HBX21_29 : Hid (_) := kb kk28 HBX21_27.out
 have HBX26_29 : Hid (_) := kb kk28 HA26.out
 have HBY26_29 : Hid (_) := kb kk28 HB26.out
 have HOs_29 : Hid (_) := HOs_27.out.kept kk28
 have HOt_29 : Hid (_) := HOt_27.out.kept kk28
 have HOo_29 : Hid (_) := HOo_27.out.kept kk28
 have HOu_29 : Hid (_) := HOu_27.out.kept kk28
 have HK_29 : Hid (_) := kt HK_27.out kk28
 clear HBX5_27 HBY9_27 HBX13_27 HBY13_27 HBY17_27 HBX21_27 HA26 HB26 HOs_27 HOt_27 HOo_27 HOu_27 HK_27
 clear ho28 hsr28 kk28
 obtain ⟨V30, X30, HX30, HXk30, HXb30⟩ := boxes2 U28 #[.slice p28 4 m28, .slice q28 0 n28, .slice r28 1 t28] #[.int .i64 4, .int .i64 0, .int .i64 0, .bool false, .string ⟨#[]⟩, .slice z28 l28 k28] 27 31
 go_upto_region 15 with fail
 rw [HX30.out.1, HX30.out.2]
 obtain ⟨Y30, hY30⟩ : ∃ Y30, X30 + 1 = Y30 := ⟨_, rfl⟩
 rw [hY30] at HXb30 ⊢
 have HA30 : Hid (_) := HXb30.out.1
 have HB30 : Hid (_) := HXb30.out.2.1
 have HLX13X30 : Hid (X13 < X30) := by have h1 := lt_of_heap HBX13_29.out; have h2 := HX30.out.2; have h4 := hY30; show _ < _; omega
 have HLX13Y30 : Hid (X13 < Y30) := by have h1 := lt_of_heap HBX13_29.out; have h2 := HX30.out.2; have h4 := hY30; show _ < _; omega
 have HBX5_31 : Hid (_) := kb HXk30.out HBX5_29.out
 have HBY9_31 : Hid (_) := kb HXk30.out HBY9_29.out
 have HBX13_31 : Hid (_) := kb HXk30.out HBX13_29.out
 have HBY13_31 : Hid (_) := kb HXk30.out HBY13_29.out
 have HBY17_31 : Hid (_) := kb HXk30.out HBY17_29.out
 have HBX21_31 : Hid (_) := kb HXk30.out HBX21_29.out
 have HBX26_31 : Hid (_) := kb HXk30.out HBX26_29.out
 have HBY26_31 : Hid (_) := kb HXk30.out HBY26_29.out
 have HOs_31 : Hid (_) := HOs_29.out.kept HXk30.out
 have HOt_31 : Hid (_) := HOt_29.out.kept HXk30.out
 have HOo_31 : Hid (_) := HOo_29.out.kept HXk30.out
 have HOu_31 : Hid (_) := HOu_29.out.kept HXk30.out
 have HOz_31 : Hid (_) := HOz_28.out.kept HXk30.out
 have HK_31 : Hid (_) := kt HK_29.out HXk30.out
 clear HBX5_29 HBY9_29 HBX13_29 HBY13_29 HBY17_29 HBX21_29 HBX26_29 HBY26_29 HOs_29 HOt_29 HOo_29 HOu_29 HOz_28 HK_29
 clear HX30 HXk30 HXb30 hY30
 clear HOz_31
 clear HA30
 obtain ⟨cX5_0, -, -, -⟩ := zs3 HBX5_31.out
 obtain ⟨-, -, cY9_2, -, -, -, -⟩ := rs6 HBY9_31.out
 obtain ⟨cY13_0, -, -, -, -, -, -⟩ := rs6 HBY13_31.out
 obtain ⟨-, -, cY17_2, -, -, -, -⟩ := rs6 HBY17_31.out
 obtain ⟨cY26_0, -, -, -, -, -, -⟩ := rs6 HBY26_31.out
 obtain ⟨cY30_0, -, -, -, -, -, -⟩ := rs6 HB30.out
 obtain ⟨cX26_0, cX26_1, cX26_2, -⟩ := zs3 HBX26_31.out
 go_wp2_with fail
 refine (l_codeK HOu_31.out lkS3b (hT.out.kept HK_31.out) ⟨13, 0, 0, 0, 0, ⟨#[47, 102]⟩, ⟨#[]⟩, ⟨#[]⟩⟩ (dl13 lkS3m (by decide) (by decide) rfl) lke18).mono ?_
 rintro e U32 ⟨rfl, kk32⟩
 dsimp only
 have HBX5_33 : Hid (_) := kb kk32 HBX5_31.out
 have HBY9_33 : Hid (_) := kb kk32 HBY9_31.out
 have HBX13_33 : Hid (_) := kb kk32 HBX13_31.out
 have HBY13_33 : Hid (_) := kb kk32 HBY13_31.out
 have HBY17_33 : Hid (_) := kb kk32 HBY17_31.out
 have HBX21_33 : Hid (_) := kb kk32 HBX21_31.out
 have HBX26_33 : Hid (_) := kb kk32 HBX26_31.out
 have HBY26_33 : Hid (_) := kb kk32 HBY26_31.out
 have HBY30_33 : Hid (_) := kb kk32 HB30.out
 have HOs_33 : Hid (_) := HOs_31.out.kept kk32
 have HOt_33 : Hid (_) := HOt_31.out.kept kk32
 have HOo_33 : Hid (_) := HOo_31.out.kept kk32
 have HOu_33 : Hid (_) := HOu_31.out.kept kk32
 have HK_33 : Hid (_) := kt HK_31.out kk32
 clear HBX5_31 HBY9_31 HBX13_31 HBY13_31 HBY17_31 HBX21_31 HBX26_31 HBY26_31 HB30 HOs_31 HOt_31 HOo_31 HOu_31 HK_31
 clear kk32
 go_wp2_with fail
 go_ret
 exact ⟨rfl, HK_33.out⟩
end Go.Proofs.YtjneoegbknclgaaGreatDoor
