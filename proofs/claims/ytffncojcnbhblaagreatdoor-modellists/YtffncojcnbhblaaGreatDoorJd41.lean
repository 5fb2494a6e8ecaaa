/-
  Joined of my texts Ae Ys.
-/
import Derived.Test.YtffncojcnbhblaaGreatDoorJd40
import Derived.Test.YtffncojcnbhblaaGreatDoorJd39
import Derived.Test.YtffncojcnbhblaaGreatDoorJd36
import Derived.Test.YtffncojcnbhblaaGreatDoorJd35
import Derived.Test.YtffncojcnbhblaaGreatDoorTk
set_option linter.unusedVariables false
set_option linter.unusedSimpArgs false
set_option maxRecDepth 100000
set_option maxHeartbeats 8000000
namespace Go.Proofs.YtffncojcnbhblaaGreatDoor
open Go.RowKit
theorem awake_k {w : World} (hT0 : Tab w) : Calls Tryz.prog 7 #[] w fun e w' => e = .returned (.bool true) ∧ Kept [] w w' := by
 have hT : Hid (Tab w) := hT0
 have HN2 : Hid (Calls Tryz.prog 14 #[.int .i64 2] w (News w 2)) := p_New (n := 2) (by decide) (by decide)
 clear hT0
 go_enter Tryz.func7, Tryz.ntmps7
 go_wp2_with fail
 refine (HN2.out).mono ?_
 rintro e U1 ⟨a1, b1, d1, eu1, rfl, ho1, kk1, hbd1⟩
 dsimp only at ho1 hbd1 ⊢
 obtain ⟨p1, m1, hu1, -⟩ := row_form ho1.ino
 replace hu1 : a1 = .slice p1 1 m1 := hu1
 subst hu1
 obtain ⟨q1, n1, hv1, -⟩ := row_form ho1.opn
 replace hv1 : b1 = .slice q1 0 n1 := hv1
 subst hv1
 obtain ⟨r1, t1, hw1, -⟩ := row_form ho1.mad
 replace hw1 : d1 = .slice r1 2 t1 := hw1
 subst hw1
 have HOs_1 : Hid (Os U1 w.heap.size (.slice p1 1 m1) (.slice q1 0 n1) (.slice r1 2 t1) eu1 (newS 2)) := ho1.less (Nat.le_refl _)
 have HK_2 : Hid (Kept [] w U1) := kk1
 clear ho1 hbd1 kk1
 obtain ⟨V3, X3, HX3, HXk3, HXb3⟩ := boxR U1 #[.slice p1 1 m1, .slice q1 0 n1, .slice r1 2 t1] 27
 go_upto_region 2 with fail
 rw [HX3.out.1, HX3.out.2]
 have HOs_4 : Hid (_) := HOs_1.out.kept HXk3.out
 have HK_4 : Hid (_) := kt HK_2.out HXk3.out
 clear HOs_1 HK_2
 clear HX3 HXk3
 obtain ⟨cX3_0, cX3_1, cX3_2, -⟩ := zs3 HXb3.out
 go_wp2_with fail
 refine (l_DoK HOs_4.out (bd_of (S := newS 2) (by kernel_rfl)) (hT.out.kept HK_4.out) ⟨0, 0, 0, 0, 0, ⟨#[47, 97]⟩, ⟨#[]⟩, ⟨#[]⟩⟩ (dl0 (by kernel_rfl) (by decide) (by decide) rfl) a1).mono ?_
 rintro e U5 ⟨a5, b5, d5, eu5, z5, l5, k5, rfl, ho5, hsr5, -, kk5, hbd5⟩
 dsimp only at ho5 hsr5 hbd5 ⊢
 obtain ⟨p5, m5, hu5, -⟩ := row_form ho5.ino
 replace hu5 : a5 = .slice p5 2 m5 := hu5
 subst hu5
 obtain ⟨q5, n5, hv5, -⟩ := row_form ho5.opn
 replace hv5 : b5 = .slice q5 0 n5 := hv5
 subst hv5
 obtain ⟨r5, t5, hw5, -⟩ := row_form ho5.mad
 replace hw5 : d5 = .slice r5 2 t5 := hw5
 subst hw5
 have HOt_5 : Hid (Os U5 w.heap.size (.slice p5 2 m5) (.slice q5 0 n5) (.slice r5 2 t5) eu5 (aS1)) := ho5.less HK_4.out.size
 have HBX3_6 : Hid (_) := kb kk5 HXb3.out
 have HOs_6 : Hid (_) := HOs_4.out.kept kk5
 have HK_6 : Hid (_) := kt HK_4.out kk5
 clear HXb3 HOs_4 HK_4
 clear ho5 hsr5 hbd5 kk5
 clear cX3_0 cX3_1 cX3_2
 obtain ⟨V7, X7, HX7, HXk7, HXb7⟩ := boxes2 U5 #[.slice p5 2 m5, .slice q5 0 n5, .slice r5 2 t5] #[.int .i64 0, .int .i64 0, .int .i64 0, .bool false, .string ⟨#[]⟩, .slice z5 l5 k5] 27 31
 go_upto_region 3 with fail
 rw [HX7.out.1, HX7.out.2]
 obtain ⟨Y7, hY7⟩ : ∃ Y7, X7 + 1 = Y7 := ⟨_, rfl⟩
 rw [hY7] at HXb7 ⊢
 have HA7 : Hid (_) := HXb7.out.1
 have HB7 : Hid (_) := HXb7.out.2.1
 have HBX3_8 : Hid (_) := kb HXk7.out HBX3_6.out
 have HOs_8 : Hid (_) := HOs_6.out.kept HXk7.out
 have HOt_8 : Hid (_) := HOt_5.out.kept HXk7.out
 have HK_8 : Hid (_) := kt HK_6.out HXk7.out
 clear HBX3_6 HOs_6 HOt_5 HK_6
 clear HX7 HXk7 HXb7 hY7
 obtain ⟨cX7_0, cX7_1, cX7_2, -⟩ := zs3 HA7.out
 go_wp2_with fail
 refine (l_DoK HOt_8.out (bd_of (S := aS1) (by kernel_rfl)) (hT.out.kept HK_8.out) ⟨2, 1, 0, 0, 0, ⟨#[47, 97]⟩, ⟨#[]⟩, ⟨#[]⟩⟩ (dl2 (by kernel_rfl) (by decide) (by decide) rfl) a2).mono ?_
 rintro e U9 ⟨a9, b9, d9, eu9, z9, l9, k9, rfl, ho9, hsr9, -, kk9, hbd9⟩
 dsimp only at ho9 hsr9 hbd9 ⊢
 obtain ⟨p9, m9, hu9, -⟩ := row_form ho9.ino
 replace hu9 : a9 = .slice p9 2 m9 := hu9
 subst hu9
 obtain ⟨q9, n9, hv9, -⟩ := row_form ho9.opn
 replace hv9 : b9 = .slice q9 1 n9 := hv9
 subst hv9
 obtain ⟨r9, t9, hw9, -⟩ := row_form ho9.mad
 replace hw9 : d9 = .slice r9 2 t9 := hw9
 subst hw9
 have HOu_9 : Hid (Os U9 w.heap.size (.slice p9 2 m9) (.slice q9 1 n9) (.slice r9 2 t9) eu9 (aS2)) := ho9.less HK_8.out.size
 have HBX3_10 : Hid (_) := kb kk9 HBX3_8.out
 have HBX7_10 : Hid (_) := kb kk9 HA7.out
 have HBY7_10 : Hid (_) := kb kk9 HB7.out
 have HOs_10 : Hid (_) := HOs_8.out.kept kk9
 have HOt_10 : Hid (_) := HOt_8.out.kept kk9
 have HK_10 : Hid (_) := kt HK_8.out kk9
 clear HBX3_8 HA7 HB7 HOs_8 HOt_8 HK_8
 clear ho9 hsr9 hbd9 kk9
 clear cX7_0 cX7_1 cX7_2
 obtain ⟨V11, X11, HX11, HXk11, HXb11⟩ := boxes2 U9 #[.slice p9 2 m9, .slice q9 1 n9, .slice r9 2 t9] #[.int .i64 0, .int .i64 0, .int .i64 0, .bool false, .string ⟨#[]⟩, .slice z9 l9 k9] 27 31
 go_upto_region 4 with fail
 rw [HX11.out.1, HX11.out.2]
 obtain ⟨Y11, hY11⟩ : ∃ Y11, X11 + 1 = Y11 := ⟨_, rfl⟩
 rw [hY11] at HXb11 ⊢
 have HA11 : Hid (_) := HXb11.out.1
 have HB11 : Hid (_) := HXb11.out.2.1
 have HBX3_12 : Hid (_) := kb HXk11.out HBX3_10.out
 have HBX7_12 : Hid (_) := kb HXk11.out HBX7_10.out
 have HBY7_12 : Hid (_) := kb HXk11.out HBY7_10.out
 have HOs_12 : Hid (_) := HOs_10.out.kept HXk11.out
 have HOt_12 : Hid (_) := HOt_10.out.kept HXk11.out
 have HOu_12 : Hid (_) := HOu_9.out.kept HXk11.out
 have HK_12 : Hid (_) := kt HK_10.out HXk11.out
 clear HBX3_10 HBX7_10 HBY7_10 HOs_10 HOt_10 HOu_9 HK_10
 clear HX11 HXk11 HXb11 hY11
 obtain ⟨-, cY11_1, -, -, -, -, -⟩ := rs6 HB11.out
 obtain ⟨cX11_0, cX11_1, cX11_2, -⟩ := zs3 HA11.out
 go_wp2_with fail
 refine (l_DoK HOu_12.out (bd_of (S := aS2) (by kernel_rfl)) (hT.out.kept HK_12.out) ⟨5, 1, 0, 0, 0, ⟨#[]⟩, ⟨#[]⟩, ⟨#[104, 105]⟩⟩ (dl5 (by kernel_rfl) (by decide) (by decide) rfl (by decide)) a3).mono ?_
 rintro e U13 ⟨a13, b13, d13, eu13, z13, l13, k13, rfl, ho13, hsr13, -, kk13, hbd13⟩
 dsimp only at ho13 hsr13 hbd13 ⊢
 obtain ⟨p13, m13, hu13, -⟩ := row_form ho13.ino
 replace hu13 : a13 = .slice p13 2 m13 := hu13
 subst hu13
 obtain ⟨q13, n13, hv13, -⟩ := row_form ho13.opn
 replace hv13 : b13 = .slice q13 1 n13 := hv13
 subst hv13
 obtain ⟨r13, t13, hw13, -⟩ := row_form ho13.mad
 replace hw13 : d13 = .slice r13 2 t13 := hw13
 subst hw13
 have HOx_13 : Hid (Os U13 w.heap.size (.slice p13 2 m13) (.slice q13 1 n13) (.slice r13 2 t13) eu13 (aS3)) := ho13.less HK_12.out.size
 have HBX3_14 : Hid (_) := kb kk13 HBX3_12.out
 have HBX7_14 : Hid (_) := kb kk13 HBX7_12.out
 have HBY7_14 : Hid (_) := kb kk13 HBY7_12.out
 have HBX11_14 : Hid (_) := kb kk13 HA11.out
 have HBY11_14 : Hid (_) := kb kk13 HB11.out
 have HOs_14 : Hid (_) := HOs_12.out.kept kk13
 have HOt_14 : Hid (_) := HOt_12.out.kept kk13
 have HOu_14 : Hid (_) := HOu_12.out.kept kk13
 have HK_14 : Hid (_) := kt HK_12.out kk13
 clear HBX3_12 HBX7_12 HBY7_12 HA11 HB11 HOs_12 HOt_12 HOu_12 HK_12
 clear ho13 hsr13 hbd13 kk13
 clear cX11_0 cX11_1 cX11_2
 obtain ⟨V15, X15, HX15, HXk15, HXb15⟩ := boxes2 U13 #[.slice p13 2 m13, .slice q13 1 n13, .slice r13 2 t13] #[.int .i64 0, .int .i64 0, .int .i64 2, .bool false, .string ⟨#[]⟩, .slice z13 l13 k13] 27 31
 go_upto_region 5 with fail
 rw [HX15.out.1, HX15.out.2]
 obtain ⟨Y15, hY15⟩ : ∃ Y15, X15 + 1 = Y15 := ⟨_, rfl⟩
 rw [hY15] at HXb15 ⊢
 have HA15 : Hid (_) := HXb15.out.1
 have HB15 : Hid (_) := HXb15.out.2.1
 have HBX3_16 : Hid (_) := kb HXk15.out HBX3_14.out
 have HBX7_16 : Hid (_) := kb HXk15.out HBX7_14.out
 have HBY7_16 : Hid (_) := kb HXk15.out HBY7_14.out
 have HBX11_16 : Hid (_) := kb HXk15.out HBX11_14.out
 have HBY11_16 : Hid (_) := kb HXk15.out HBY11_14.out
 have HOs_16 : Hid (_) := HOs_14.out.kept HXk15.out
 have HOt_16 : Hid (_) := HOt_14.out.kept HXk15.out
 have HOu_16 : Hid (_) := HOu_14.out.kept HXk15.out
 have HOx_16 : Hid (_) := HOx_13.out.kept HXk15.out
 have HK_16 : Hid (_) := kt HK_14.out HXk15.out
 clear HBX3_14 HBX7_14 HBY7_14 HBX11_14 HBY11_14 HOs_14 HOt_14 HOu_14 HOx_13 HK_14
 clear HX15 HXk15 HXb15 hY15
 obtain ⟨cX7_0, cX7_1, cX7_2, -⟩ := zs3 HBX7_16.out
 go_wp2_with fail
 refine (l_DoK HOt_16.out (bd_of (S := aS1) (by kernel_rfl)) (hT.out.kept HK_16.out) ⟨0, 0, 0, 0, 0, ⟨#[47, 97]⟩, ⟨#[]⟩, ⟨#[]⟩⟩ (dl0 (by kernel_rfl) (by decide) (by decide) rfl) a4).mono ?_
 rintro e U17 ⟨a17, b17, d17, eu17, z17, l17, k17, rfl, ho17, hsr17, -, kk17, hbd17⟩
 dsimp only at ho17 hsr17 hbd17 ⊢
 obtain ⟨p17, m17, hu17, -⟩ := row_form ho17.ino
 replace hu17 : a17 = .slice p17 2 m17 := hu17
 subst hu17
 obtain ⟨q17, n17, hv17, -⟩ := row_form ho17.opn
 replace hv17 : b17 = .slice q17 0 n17 := hv17
 subst hv17
 obtain ⟨r17, t17, hw17, -⟩ := row_form ho17.mad
 replace hw17 : d17 = .slice r17 2 t17 := hw17
 subst hw17
 have HOy_17 : Hid (Os U17 w.heap.size (.slice p17 2 m17) (.slice q17 0 n17) (.slice r17 2 t17) eu17 (aS1)) := ho17.less HK_16.out.size
 have HBX3_18 : Hid (_) := kb kk17 HBX3_16.out
 have HBX7_18 : Hid (_) := kb kk17 HBX7_16.out
 have HBY7_18 : Hid (_) := kb kk17 HBY7_16.out
 have HBX11_18 : Hid (_) := kb kk17 HBX11_16.out
 have HBY11_18 : Hid (_) := kb kk17 HBY11_16.out
 have HBX15_18 : Hid (_) := kb kk17 HA15.out
 have HBY15_18 : Hid (_) := kb kk17 HB15.out
 have HOs_18 : Hid (_) := HOs_16.out.kept kk17
 have HOt_18 : Hid (_) := HOt_16.out.kept kk17
 have HOu_18 : Hid (_) := HOu_16.out.kept kk17
 have HOx_18 : Hid (_) := HOx_16.out.kept kk17
 have HK_18 : Hid (_) := kt HK_16.out kk17
 clear HBX3_16 HBX7_16 HBY7_16 HBX11_16 HBY11_16 HA15 HB15 HOs_16 HOt_16 HOu_16 HOx_16 HK_16
 clear ho17 hsr17 hbd17 kk17
 clear cX7_0 cX7_1 cX7_2
 obtain ⟨V19, X19, HX19, HXk19, HXb19⟩ := boxes2 U17 #[.slice p17 2 m17, .slice q17 0 n17, .slice r17 2 t17] #[.int .i64 2, .int .i64 0, .int .i64 0, .bool false, .string ⟨#[]⟩, .slice z17 l17 k17] 27 31
 go_upto_region 6 with fail
 rw [HX19.out.1, HX19.out.2]
 obtain ⟨Y19, hY19⟩ : ∃ Y19, X19 + 1 = Y19 := ⟨_, rfl⟩
 rw [hY19] at HXb19 ⊢
 have HA19 : Hid (_) := HXb19.out.1
 have HB19 : Hid (_) := HXb19.out.2.1
 have HBX3_20 : Hid (_) := kb HXk19.out HBX3_18.out
 have HBX7_20 : Hid (_) := kb HXk19.out HBX7_18.out
 have HBY7_20 : Hid (_) := kb HXk19.out HBY7_18.out
 have HBX11_20 : Hid (_) := kb HXk19.out HBX11_18.out
 have HBY11_20 : Hid (_) := kb HXk19.out HBY11_18.out
 have HBX15_20 : Hid (_) := kb HXk19.out HBX15_18.out
 have HBY15_20 : Hid (_) := kb HXk19.out HBY15_18.out
 have HOs_20 : Hid (_) := HOs_18.out.kept HXk19.out
 have HOt_20 : Hid (_) := HOt_18.out.kept HXk19.out
 have HOu_20 : Hid (_) := HOu_18.out.kept HXk19.out
 have HOx_20 : Hid (_) := HOx_18.out.kept HXk19.out
 have HOy_20 : Hid (_) := HOy_17.out.kept HXk19.out
 have HK_20 : Hid (_) := kt HK_18.out HXk19.out
 clear HBX3_18 HBX7_18 HBY7_18 HBX11_18 HBY11_18 HBX15_18 HBY15_18 HOs_18 HOt_18 HOu_18 HOx_18 HOy_17 HK_18
 clear HX19 HXk19 HXb19 hY19
 obtain ⟨cX7_0, cX7_1, cX7_2, -⟩ := zs3 HBX7_20.out
 go_wp2_with fail
 refine (l_AllowsK HOt_20.out (bd_of (S := aS1) (by kernel_rfl)) (hT.out.kept HK_20.out) ⟨2, 0, 0, 0, 0, ⟨#[47, 97]⟩, ⟨#[]⟩, ⟨#[]⟩⟩ ⟨0, 3, 0, false, ⟨#[]⟩, []⟩ (dt2 (by kernel_rfl) (by decide) (by decide) rfl) rfl Ss.none a5).mono ?_
 rintro e U21 ⟨a21, b21, d21, eu21, rfl, ho21, kk21, hbd21⟩
 dsimp only at ho21 hbd21 ⊢
 obtain ⟨p21, m21, hu21, -⟩ := row_form ho21.ino
 replace hu21 : a21 = .slice p21 2 m21 := hu21
 subst hu21
 obtain ⟨q21, n21, hv21, -⟩ := row_form ho21.opn
 replace hv21 : b21 = .slice q21 1 n21 := hv21
 subst hv21
 obtain ⟨r21, t21, hw21, -⟩ := row_form ho21.mad
 replace hw21 : d21 = .slice r21 2 t21 := hw21
 subst hw21
 have HOv_21 : Hid (Os U21 w.heap.size (.slice p21 2 m21) (.slice q21 1 n21) (.slice r21 2 t21) eu21 (aS4)) := ho21.less HK_20.out.size
 have HBX3_22 : Hid (_) := kb kk21 HBX3_20.out
 have HBX7_22 : Hid (_) := kb kk21 HBX7_20.out
 have HBY7_22 : Hid (_) := kb kk21 HBY7_20.out
 have HBX11_22 : Hid (_) := kb kk21 HBX11_20.out
 have HBY11_22 : Hid (_) := kb kk21 HBY11_20.out
 have HBX15_22 : Hid (_) := kb kk21 HBX15_20.out
 have HBY15_22 : Hid (_) := kb kk21 HBY15_20.out
 have HBX19_22 : Hid (_) := kb kk21 HA19.out
 have HBY19_22 : Hid (_) := kb kk21 HB19.out
 have HOs_22 : Hid (_) := HOs_20.out.kept kk21
 have HOt_22 : Hid (_) := HOt_20.out.kept kk21
 have HOu_22 : Hid (_) := HOu_20.out.kept kk21
 have HOx_22 : Hid (_) := HOx_20.out.kept kk21
 have HOy_22 : Hid (_) := HOy_20.out.kept kk21
 have HK_22 : Hid (_) := kt HK_20.out kk21
 clear HBX3_20 HBX7_20 HBY7_20 HBX11_20 HBY11_20 HBX15_20 HBY15_20 HA19 HB19 HOs_20 HOt_20 HOu_20 HOx_20 HOy_20 HK_20
 clear ho21 hbd21 kk21
 clear cX7_0 cX7_1 cX7_2
 obtain ⟨V23, X23, HX23, HXk23, HXb23⟩ := boxR U21 #[.slice p21 2 m21, .slice q21 1 n21, .slice r21 2 t21] 27
 go_upto_region 7 with fail
 rw [HX23.out.1, HX23.out.2]
 have HBX3_24 : Hid (_) := kb HXk23.out HBX3_22.out
 have HBX7_24 : Hid (_) := kb HXk23.out HBX7_22.out
 have HBY7_24 : Hid (_) := kb HXk23.out HBY7_22.out
 have HBX11_24 : Hid (_) := kb HXk23.out HBX11_22.out
 have HBY11_24 : Hid (_) := kb HXk23.out HBY11_22.out
 have HBX15_24 : Hid (_) := kb HXk23.out HBX15_22.out
 have HBY15_24 : Hid (_) := kb HXk23.out HBY15_22.out
 have HBX19_24 : Hid (_) := kb HXk23.out HBX19_22.out
 have HBY19_24 : Hid (_) := kb HXk23.out HBY19_22.out
 have HOs_24 : Hid (_) := HOs_22.out.kept HXk23.out
 have HOt_24 : Hid (_) := HOt_22.out.kept HXk23.out
 have HOu_24 : Hid (_) := HOu_22.out.kept HXk23.out
 have HOx_24 : Hid (_) := HOx_22.out.kept HXk23.out
 have HOy_24 : Hid (_) := HOy_22.out.kept HXk23.out
 have HOv_24 : Hid (_) := HOv_21.out.kept HXk23.out
 have HK_24 : Hid (_) := kt HK_22.out HXk23.out
 clear HBX3_22 HBX7_22 HBY7_22 HBX11_22 HBY11_22 HBX15_22 HBY15_22 HBX19_22 HBY19_22 HOs_22 HOt_22 HOu_22 HOx_22 HOy_22 HOv_21 HK_22
 clear HX23 HXk23
 obtain ⟨cX7_0, cX7_1, cX7_2, -⟩ := zs3 HBX7_24.out
 go_wp2_with fail
 refine (l_Find HOt_24.out (bd_of (S := aS1) (by kernel_rfl)) (hT.out.kept HK_24.out) ⟨#[47, 97]⟩ a6).mono ?_
 rintro e U25 ⟨rfl, kk25⟩
 have HBX3_26 : Hid (_) := kb kk25 HBX3_24.out
 have HBX7_26 : Hid (_) := kb kk25 HBX7_24.out
 have HBY7_26 : Hid (_) := kb kk25 HBY7_24.out
 have HBX11_26 : Hid (_) := kb kk25 HBX11_24.out
 have HBY11_26 : Hid (_) := kb kk25 HBY11_24.out
 have HBX15_26 : Hid (_) := kb kk25 HBX15_24.out
 have HBY15_26 : Hid (_) := kb kk25 HBY15_24.out
 have HBX19_26 : Hid (_) := kb kk25 HBX19_24.out
 have HBY19_26 : Hid (_) := kb kk25 HBY19_24.out
 have HBX23_26 : Hid (_) := kb kk25 HXb23.out
 have HOs_26 : Hid (_) := HOs_24.out.kept kk25
 have HOt_26 : Hid (_) := HOt_24.out.kept kk25
 have HOu_26 : Hid (_) := HOu_24.out.kept kk25
 have HOx_26 : Hid (_) := HOx_24.out.kept kk25
 have HOy_26 : Hid (_) := HOy_24.out.kept kk25
 have HOv_26 : Hid (_) := HOv_24.out.kept kk25
 have HK_26 : Hid (_) := kt HK_24.out kk25
 clear HBX3_24 HBX7_24 HBY7_24 HBX11_24 HBY11_24 HBX15_24 HBY15_24 HBX19_24 HBY19_24 HXb23 HOs_24 HOt_24 HOu_24 HOx_24 HOy_24 HOv_24 HK_24
 clear kk25
 clear cX7_0 cX7_1 cX7_2
 go_wp2_with fail
 refine (p_New_bad (z := 0) (Or.inl (by decide))).mono ?_
 rintro e U27 ⟨rfl, kk27⟩
 have HBX3_28 : Hid (_) := kb kk27 HBX3_26.out
 have HBX7_28 : Hid (_) := kb kk27 HBX7_26.out
 have HBY7_28 : Hid (_) := kb kk27 HBY7_26.out
 have HBX11_28 : Hid (_) := kb kk27 HBX11_26.out
 have HBY11_28 : Hid (_) := kb kk27 HBY11_26.out
 have HBX15_28 : Hid (_) := kb kk27 HBX15_26.out
 have HBY15_28 : Hid (_) := kb kk27 HBY15_26.out
 have HBX19_28 : Hid (_) := kb kk27 HBX19_26.out
 have HBY19_28 : Hid (_) := kb kk27 HBY19_26.out
 have HBX23_28 : Hid (_) := kb kk27 HBX23_26.out
 have HOs_28 : Hid (_) := HOs_26.out.kept kk27
 have HOt_28 : Hid (_) := HOt_26.out.kept kk27
 have HOu_28 : Hid (_) := HOu_26.out.kept kk27
 have HOx_28 : Hid (_) := HOx_26.out.kept kk27
 have HOy_28 : Hid (_) := HOy_26.out.kept kk27
 have HOv_28 : Hid (_) := HOv_26.out.kept kk27
 have HK_28 : Hid (_) := kt HK_26.out kk27
 clear HBX3_26 HBX7_26 HBY7_26 HBX11_26 HBY11_26 HBX15_26 HBY15_26 HBX19_26 HBY19_26 HBX23_26 HOs_26 HOt_26 HOu_26 HOx_26 HOy_26 HOv_26 HK_26
 clear kk27
 obtain ⟨V29, X29, HX29, HXk29, HXb29⟩ := boxR U27 #[.slice none 0 0, .slice none 0 0, .slice none 0 0] 27
 go_upto_region 9 with fail
 rw [HX29.out.1, HX29.out.2]
 have HBX3_30 : Hid (_) := kb HXk29.out HBX3_28.out
 have HBX7_30 : Hid (_) := kb HXk29.out HBX7_28.out
 have HBY7_30 : Hid (_) := kb HXk29.out HBY7_28.out
 have HBX11_30 : Hid (_) := kb HXk29.out HBX11_28.out
 have HBY11_30 : Hid (_) := kb HXk29.out HBY11_28.out
 have HBX15_30 : Hid (_) := kb HXk29.out HBX15_28.out
 have HBY15_30 : Hid (_) := kb HXk29.out HBY15_28.out
 have HBX19_30 : Hid (_) := kb HXk29.out HBX19_28.out
 have HBY19_30 : Hid (_) := kb HXk29.out HBY19_28.out
 have HBX23_30 : Hid (_) := kb HXk29.out HBX23_28.out
 have HOs_30 : Hid (_) := HOs_28.out.kept HXk29.out
 have HOt_30 : Hid (_) := HOt_28.out.kept HXk29.out
 have HOu_30 : Hid (_) := HOu_28.out.kept HXk29.out
 have HOx_30 : Hid (_) := HOx_28.out.kept HXk29.out
 have HOy_30 : Hid (_) := HOy_28.out.kept HXk29.out
 have HOv_30 : Hid (_) := HOv_28.out.kept HXk29.out
 have HK_30 : Hid (_) := kt HK_28.out HXk29.out
 clear HBX3_28 HBX7_28 HBY7_28 HBX11_28 HBY11_28 HBX15_28 HBY15_28 HBX19_28 HBY19_28 HBX23_28 HOs_28 HOt_28 HOu_28 HOx_28 HOy_28 HOv_28 HK_28
 clear HX29 HXk29
 obtain ⟨cX7_0, cX7_1, cX7_2, -⟩ := zs3 HBX7_30.out
 obtain ⟨cY7_0, -, -, -, -, -, -⟩ := rs6 HBY7_30.out
 obtain ⟨cY11_0, -, -, -, -, -, -⟩ := rs6 HBY11_30.out
 obtain ⟨-, -, cY15_2, -, -, -, -⟩ := rs6 HBY15_30.out
 obtain ⟨cY19_0, -, -, -, -, -, -⟩ := rs6 HBY19_30.out
 obtain ⟨-, cX23_1, -, -⟩ := zs3 HBX23_30.out
 go_wp2_with fail
 refine (num_law 0 _).mono ?_
 rintro e g31 ⟨rfl, hg31⟩
 have hg2 := hg31.symm
 subst hg2
 go_wp2_with fail
 refine (l_Links HOt_30.out (bd_of (S := aS1) (by kernel_rfl)) (by decide) 2 a7).mono ?_
 rintro e U900 ⟨rfl, kk900⟩
 clear cX7_0 cX7_1 cX7_2
 have HBX3_32 : Hid (_) := kb kk900 HBX3_30.out
 have HBX7_32 : Hid (_) := kb kk900 HBX7_30.out
 have HBY7_32 : Hid (_) := kb kk900 HBY7_30.out
 have HBX11_32 : Hid (_) := kb kk900 HBX11_30.out
 have HBY11_32 : Hid (_) := kb kk900 HBY11_30.out
 have HBX15_32 : Hid (_) := kb kk900 HBX15_30.out
 have HBY15_32 : Hid (_) := kb kk900 HBY15_30.out
 have HBX19_32 : Hid (_) := kb kk900 HBX19_30.out
 have HBY19_32 : Hid (_) := kb kk900 HBY19_30.out
 have HBX23_32 : Hid (_) := kb kk900 HBX23_30.out
 have HBX29_32 : Hid (_) := kb kk900 HXb29.out
 have HOs_32 : Hid (_) := HOs_30.out.kept kk900
 have HOt_32 : Hid (_) := HOt_30.out.kept kk900
 have HOu_32 : Hid (_) := HOu_30.out.kept kk900
 have HOx_32 : Hid (_) := HOx_30.out.kept kk900
 have HOy_32 : Hid (_) := HOy_30.out.kept kk900
 have HOv_32 : Hid (_) := HOv_30.out.kept kk900
 have HK_32 : Hid (_) := kt HK_30.out kk900
 clear HBX3_30 HBX7_30 HBY7_30 HBX11_30 HBY11_30 HBX15_30 HBY15_30 HBX19_30 HBY19_30 HBX23_30 HXb29 HOs_30 HOt_30 HOu_30 HOx_30 HOy_30 HOv_30 HK_30
 clear kk900
 go_wp2_with fail
 refine (num_law 1300 _).mono ?_
 rintro e g33 ⟨rfl, hg33⟩
 have hg2 := hg33.symm
 subst hg2
 obtain ⟨cX7_0, cX7_1, cX7_2, -⟩ := zs3 HBX7_32.out
 go_wp2_with fail
 refine (l_May HOt_32.out (bd_of (S := aS1) (by kernel_rfl)) (hT.out.kept HK_32.out) a8).mono ?_
 rintro e U901 ⟨rfl, kk901⟩
 clear cX7_0 cX7_1 cX7_2
 have HBX3_34 : Hid (_) := kb kk901 HBX3_32.out
 have HBX7_34 : Hid (_) := kb kk901 HBX7_32.out
 have HBY7_34 : Hid (_) := kb kk901 HBY7_32.out
 have HBX11_34 : Hid (_) := kb kk901 HBX11_32.out
 have HBY11_34 : Hid (_) := kb kk901 HBY11_32.out
 have HBX15_34 : Hid (_) := kb kk901 HBX15_32.out
 have HBY15_34 : Hid (_) := kb kk901 HBY15_32.out
 have HBX19_34 : Hid (_) := kb kk901 HBX19_32.out
 have HBY19_34 : Hid (_) := kb kk901 HBY19_32.out
 have HBX23_34 : Hid (_) := kb kk901 HBX23_32.out
 have HBX29_34 : Hid (_) := kb kk901 HBX29_32.out
 have HOs_34 : Hid (_) := HOs_32.out.kept kk901
 have HOt_34 : Hid (_) := HOt_32.out.kept kk901
 have HOu_34 : Hid (_) := HOu_32.out.kept kk901
 have HOx_34 : Hid (_) := HOx_32.out.kept kk901
 have HOy_34 : Hid (_) := HOy_32.out.kept kk901
 have HOv_34 : Hid (_) := HOv_32.out.kept kk901
 have HK_34 : Hid (_) := kt HK_32.out kk901
 clear HBX3_32 HBX7_32 HBY7_32 HBX11_32 HBY11_32 HBX15_32 HBY15_32 HBX19_32 HBY19_32 HBX23_32 HBX29_32 HOs_32 HOt_32 HOu_32 HOx_32 HOy_32 HOv_32 HK_32
 clear kk901
 go_wp2_with fail
 go_ret
 exact ⟨rfl, HK_34.out⟩
theorem r_Do {w : World} {p : Pl} {S S' : Sta} (c : Cal) (n : Int)
  (hdo : ∀ W, Kept [] w W → Calls Tryz.prog 37 #[.agg #[.slice p.a1 S.ino.length p.c1, .slice p.a2 S.opn.length p.c2, .slice p.a3 S.made.length p.c3], .agg #[.int .i64 c.kind, .int .i64 c.core, .int .i64 c.fd, .int .i64 c.off, .int .i64 c.num, .string c.path, .string c.path2, .string c.data], .int .i64 (-1)] W fun e w' => ∃ v1 v2 v3 ev, e = .returned (.tuple #[.agg #[v1, v2, v3], .agg #[.int .i64 0, .int .i64 0, .int .i64 n, .bool false, .string ⟨#[]⟩, .slice none 0 0], .bool true]) ∧ Os w' W.heap.size v1 v2 v3 ev S' ∧ Kept [] W w') :
  Calls Tryz.prog 21 #[.agg #[.slice p.a1 S.ino.length p.c1, .slice p.a2 S.opn.length p.c2, .slice p.a3 S.made.length p.c3], .agg #[.int .i64 c.kind, .int .i64 c.core, .int .i64 c.fd, .int .i64 c.off, .int .i64 c.num, .string c.path, .string c.path2, .string c.data]] w fun e w' => ∃ v1 v2 v3 ev, e = .returned (.tuple #[.agg #[v1, v2, v3], .agg #[.int .i64 0, .int .i64 0, .int .i64 n, .bool false, .string ⟨#[]⟩, .slice none 0 0]]) ∧ Os w' w.heap.size v1 v2 v3 ev S' ∧ Kept [] w w' := by
 obtain ⟨Wa, Z, HWa, HKa, HZa⟩ := twoY w #[.slice p.a1 S.ino.length p.c1, .slice p.a2 S.opn.length p.c2, .slice p.a3 S.made.length p.c3] #[.int .i64 c.kind, .int .i64 c.core, .int .i64 c.fd, .int .i64 c.off, .int .i64 c.num, .string c.path, .string c.path2, .string c.data] 27 35
 obtain ⟨W1, Z2, HWb, HKb, HZb⟩ := twoY Wa #[.slice none 0 0, .slice none 0 0, .slice none 0 0] #[.int .i64 0, .int .i64 0, .int .i64 0, .bool false, .string ⟨#[]⟩, .slice none 0 0] 27 31
 have hZ2 : Z2 = Z + 1 + 1 := by rw [← HWb.out.2]; exact HZa.out.2.2
 subst hZ2
 have HK1 : Hid (Kept [] w W1) := HKa.out.trans HKb.out (by simp)
 have HBx : Hid (W1.heap[Z]? = some (.cells #[.slice p.a1 S.ino.length p.c1, .slice p.a2 S.opn.length p.c2, .slice p.a3 S.made.length p.c3] 27 (0, 0)) ∧ W1.heap[Z + 1]? = some (.cells #[.int .i64 c.kind, .int .i64 c.core, .int .i64 c.fd, .int .i64 c.off, .int .i64 c.num, .string c.path, .string c.path2, .string c.data] 35 (0, 0)) ∧ W1.heap[Z + 1 + 1]? = some (.cells #[.slice none 0 0, .slice none 0 0, .slice none 0 0] 27 (0, 0)) ∧ W1.heap[Z + 1 + 1 + 1]? = some (.cells #[.int .i64 0, .int .i64 0, .int .i64 0, .bool false, .string ⟨#[]⟩, .slice none 0 0] 31 (0, 0)) ∧ W1.heap.size = Z + 1 + 1 + 1 + 1 ∧ w.heap.size = Z) :=
  ⟨(HKb.out.block _ (lt_of_heap HZa.out.1) (by simp)).trans HZa.out.1, (HKb.out.block _ (lt_of_heap HZa.out.2.1) (by simp)).trans HZa.out.2.1, HZb.out.1, HZb.out.2.1, HZb.out.2.2, HWa.out.2⟩
 obtain ⟨x0, x1, x2⟩ := cz3 HBx.out.1
 obtain ⟨y0, y1, y2, y3, y4, y5, y6, y7⟩ := ys8 HBx.out.2.1
 clear HZa HZb HKa HKb
 go_enter Tryz.func21, Tryz.ntmps21
 go_upto_region 1 with fail
 rw [HWa.out.1, HWb.out.1, HWa.out.2]
 clear HWa HWb
 go_wp2_with fail
 refine (hdo W1 HK1.out).mono ?_
 rintro e w5 ⟨u1, u2, u3, eu, rfl, o5, k5⟩
 obtain ⟨b1, d1, hu1, -⟩ := row_form o5.ino
 obtain ⟨b2, d2, hu2, -⟩ := row_form o5.opn
 obtain ⟨b3, d3, hu3, -⟩ := row_form o5.mad
 subst hu1 hu2 hu3
 obtain ⟨W6, X, HX, HKX, HXb⟩ := twoY w5 #[(.slice b1 S'.ino.length d1), (.slice b2 S'.opn.length d2), (.slice b3 S'.made.length d3)] #[.int .i64 0, .int .i64 0, .int .i64 n, .bool false, .string ⟨#[]⟩, .slice none 0 0] 27 31
 have HO6 : Hid (Os W6 W1.heap.size (.slice b1 S'.ino.length d1) (.slice b2 S'.opn.length d2) (.slice b3 S'.made.length d3) eu S') := o5.kept HKX.out
 have hk16 : Kept [] W1 W6 := k5.trans HKX.out (by simp)
 have HK6 : Hid (_) := hk16
 have hb2 : W6.heap[Z + 1 + 1]? = some (.cells #[.slice none 0 0, .slice none 0 0, .slice none 0 0] 27 (0, 0)) := (hk16.block _ (lt_of_heap HBx.out.2.2.1) (by simp)).trans HBx.out.2.2.1
 have hb3 : W6.heap[Z + 1 + 1 + 1]? = some (.cells #[.int .i64 0, .int .i64 0, .int .i64 0, .bool false, .string ⟨#[]⟩, .slice none 0 0] 31 (0, 0)) := (hk16.block _ (lt_of_heap HBx.out.2.2.2.1) (by simp)).trans HBx.out.2.2.2.1
 have HB2 : Hid (_) := hb2
 have HB3 : Hid (_) := hb3
 have hZX : Z + 1 + 1 + 1 < X := by have h1 := HBx.out.2.2.2.2.1; have h2 := k5.size; have h3 := HX.out.2; omega
 have HS6 : Hid (W6.cell? ⟨X, 0, none⟩ = some (.slice b1 S'.ino.length d1) ∧ W6.cell? ⟨X, 1, none⟩ = some (.slice b2 S'.opn.length d2) ∧ W6.cell? ⟨X, 2, none⟩ = some (.slice b3 S'.made.length d3) ∧ W6.cell? ⟨X + 1, 0, none⟩ = some (.int .i64 0) ∧ W6.cell? ⟨X + 1, 1, none⟩ = some (.int .i64 0) ∧ W6.cell? ⟨X + 1, 2, none⟩ = some (.int .i64 n) ∧ W6.cell? ⟨X + 1, 3, none⟩ = some (.bool false) ∧ W6.cell? ⟨X + 1, 4, none⟩ = some (.string ⟨#[]⟩) ∧ W6.cell? ⟨X + 1, 5, none⟩ = some (.slice none 0 0)) := ⟨cellB HXb.out.1, cellB HXb.out.1, cellB HXb.out.1, cellB HXb.out.2.1, cellB HXb.out.2.1, cellB HXb.out.2.1, cellB HXb.out.2.1, cellB HXb.out.2.1, cellB HXb.out.2.1⟩
 have HZX : Hid (_) := hZX
 obtain ⟨g0, g1, g2, s0, s1, s2⟩ := zs3 hb2
 obtain ⟨r0, r1, r2, r3, r4, r5, q0, q1, q2, q3, q4, q5⟩ := rs6 hb3
 clear o5 k5 hb2 hb3 hk16 hZX x0 x1 x2 y0 y1 y2 y3 y4 y5 y6 y7
 go_upto_region 2 with fail
 rw [HX.out.1, HX.out.2]
 refine wp_region_held_drew (S := fun w' => w'.cell? ⟨X, 0, none⟩ = some (.slice b1 S'.ino.length d1) ∧ w'.cell? ⟨X, 1, none⟩ = some (.slice b2 S'.opn.length d2) ∧ w'.cell? ⟨X, 2, none⟩ = some (.slice b3 S'.made.length d3) ∧ w'.cell? ⟨X + 1, 0, none⟩ = some (.int .i64 0) ∧ w'.cell? ⟨X + 1, 1, none⟩ = some (.int .i64 0) ∧ w'.cell? ⟨X + 1, 2, none⟩ = some (.int .i64 n) ∧ w'.cell? ⟨X + 1, 3, none⟩ = some (.bool false) ∧ w'.cell? ⟨X + 1, 4, none⟩ = some (.string ⟨#[]⟩) ∧ w'.cell? ⟨X + 1, 5, none⟩ = some (.slice none 0 0)) (by kernel_rfl) ?_ (fun hHeld => ?_)
 · exact HS6.out
 refine tkA 0 rfl ?_
 refine tkA 1 rfl ?_
 refine wpAnyH_ready (rs := [2]) (by kernel_rfl) (by simp) ?_
 refine AllReadyH.cons rfl (fun K hK => ?_) AllReadyH.nil
 go_simp
 refine hK.out _ _ ?_ (fun hHeld => ?_)
 · exact kpZ HZX.out HS6.out
 clear hK K
 try simp only [Act.put, List.setIfInBounds_toArray, List.set_cons_zero, List.set_cons_succ, List.getElem_toArray, List.getElem_cons_zero, List.getElem_cons_succ]
 refine wpAnyH_ready (rs := [3]) (by kernel_rfl) (by simp) ?_
 refine AllReadyH.cons rfl (fun K hK => ?_) AllReadyH.nil
 go_simp
 refine hK.out _ _ ?_ (fun hHeld => ?_)
 · exact kpY HZX.out hHeld
 clear hK K
 try simp only [Act.put, List.setIfInBounds_toArray, List.set_cons_zero, List.set_cons_succ, List.getElem_toArray, List.getElem_cons_zero, List.getElem_cons_succ]
 refine wpAnyH_done (by kernel_rfl) ?_ _
 obtain ⟨W8, hW8⟩ : ∃ W8, (laidY (laidZ W6 (Z + 1 + 1) (.slice b1 S'.ino.length d1) (.slice b2 S'.opn.length d2) (.slice b3 S'.made.length d3)) (Z + 1 + 1 + 1) (.int .i64 0) (.int .i64 0) (.int .i64 n) (.bool false) (.string ⟨#[]⟩) (.slice none 0 0)).drew = W8 := ⟨_, rfl⟩
 have HBS : Hid (W8.heap[Z + 1 + 1]? = some (.cells #[(.slice b1 S'.ino.length d1), (.slice b2 S'.opn.length d2), (.slice b3 S'.made.length d3)] 27 (0, 0))) := by
  show _ = _
  rw [← hW8, drew_heap, otherY (by omega)]; exact blockZ HB2.out _ _ _
 have HBR : Hid (W8.heap[Z + 1 + 1 + 1]? = some (.cells #[.int .i64 0, .int .i64 0, .int .i64 n, .bool false, .string ⟨#[]⟩, .slice none 0 0] 31 (0, 0))) := by
  show _ = _
  rw [← hW8, drew_heap]; exact blockY ((otherZ (by omega)).trans HB3.out) _ _ _ _ _ _
 have HE : Hid (Os W8 w.heap.size (.slice b1 S'.ino.length d1) (.slice b2 S'.opn.length d2) (.slice b3 S'.made.length d3) eu S' ∧ Kept [] w W8) := by
  have hz := HBx.out.2.2.2.2.2
  have hz1 := HBx.out.2.2.2.2.1
  rw [← hW8]
  refine ⟨Os.less (((HO6.out.laidZ (by omega) _ _ _).laidY (by omega) _ _ _ _ _ _).kept (Kept.refl _ _).drew) (by omega), (keptY (keptZ (HK1.out.trans HK6.out (by simp)) (by omega) _ _ _) (by omega) _ _ _ _ _ _).drew⟩
 clear hHeld g0 g1 g2 s0 s1 s2 r0 r1 r2 r3 r4 r5 q0 q1 q2 q3 q4 q5 HS6
 rw [hW8]
 clear hW8
 go_wp2_with fail
 (try simp only [Exit.inBlock, Exit.then])
 refine bodyPost_ret (results_ccY rfl _ _ (Z + 1 + 1) (Z + 1 + 1 + 1) 27 31 #[(.slice b1 S'.ino.length d1), (.slice b2 S'.opn.length d2), (.slice b3 S'.made.length d3)] #[.int .i64 0, .int .i64 0, .int .i64 n, .bool false, .string ⟨#[]⟩, .slice none 0 0] (0, 0) _ _ rfl rfl HBS.out HBR.out Tryz.underlying27 rfl (by kernel_rfl) Tryz.underlying31 rfl (by kernel_rfl)) rfl ?_
 exact ⟨_, _, _, eu, rfl, HE.out.1, HE.out.2⟩
theorem inn_names {S S' : Sta} (c : Cal) (hl : Inn 99 [.agg #[.int .i64 8, .int .i64 c.core, .int .i64 c.fd, .int .i64 c.off, .int .i64 c.num, .string c.path, .string c.path2, .string c.data]] (.agg #[.int .i64 0, .int .i64 0, .int .i64 0, .bool false, .string ⟨#[]⟩, .slice none 0 0]) S S') : Inn 64 [.agg #[.int .i64 8, .int .i64 c.core, .int .i64 c.fd, .int .i64 c.off, .int .i64 c.num, .string c.path, .string c.path2, .string c.data]] (.agg #[.int .i64 0, .int .i64 0, .int .i64 0, .bool false, .string ⟨#[]⟩, .slice none 0 0]) S S' := by
 intro w0 w X v1 v2 v3 ev h
 obtain ⟨W1, Z, HW, HKW, HZb⟩ := twoY w #[.int .i64 8, .int .i64 c.core, .int .i64 c.fd, .int .i64 c.off, .int .i64 c.num, .string c.path, .string c.path2, .string c.data] #[.int .i64 0, .int .i64 0, .int .i64 0, .bool false, .string ⟨#[]⟩, .slice none 0 0] 35 31
 have HH : Hid (_) := h.kept HKW.out
 have HL : Hid (_) := hl
 have HXZ : Hid (X < Z ∧ w.heap.size = Z ∧ w0.heap.size ≤ Z + 1) := by
  have h1 := lt_of_heap h.box
  have h2 := HW.out.2
  have h3 := h.k.size
  exact ⟨by omega, h2, by omega⟩
 obtain ⟨y0, y1, y2, y3, y4, y5, y6, y7⟩ := ys8 HZb.out.1
 clear h hl
 show Calls Tryz.prog 64 #[.pointer (some ⟨X, 0, none⟩), .agg #[.int .i64 8, .int .i64 c.core, .int .i64 c.fd, .int .i64 c.off, .int .i64 c.num, .string c.path, .string c.path2, .string c.data]] w _
 go_enter Tryz.func64, Tryz.ntmps64
 go_upto_region 1 with fail
 rw [HW.out.1, HW.out.2]
 clear HW
 go_wp2_with fail
 refine (HL.out _ _ _ _ _ _ _ HH.out).mono ?_
 rintro e w5 ⟨rfl, u1, u2, u3, eu, F, h5, kF, hF⟩
 have hres : w5.heap[Z + 1]? = some (.cells #[.int .i64 0, .int .i64 0, .int .i64 0, .bool false, .string ⟨#[]⟩, .slice none 0 0] 31 (0, 0)) := (kF.block _ (lt_of_heap HZb.out.2.1) (fun hm => by
  rcases hF _ hm with h | h
  · have := HXZ.out.1; omega
  · exact h (off_type HH.out.os HZb.out.2.1 (by decide)))).trans HZb.out.2.1
 have h6 := h5.laidY (Z := Z + 1) HXZ.out.2.2 (by have := HXZ.out.1; omega) (off_type h5.os hres (by decide)) (.int .i64 0) (.int .i64 0) (.int .i64 0) (.bool false) (.string ⟨#[]⟩) (.slice none 0 0)
 have h9 := blockY hres (.int .i64 0) (.int .i64 0) (.int .i64 0) (.bool false) (.string ⟨#[]⟩) (.slice none 0 0)
 have hkk : Kept F w (laidY w5 (Z + 1) (.int .i64 0) (.int .i64 0) (.int .i64 0) (.bool false) (.string ⟨#[]⟩) (.slice none 0 0)) :=
  keptY ((HKW.out.mono (by simp)).trans kF (fun x hx => Or.inl hx)) (by have := HXZ.out.2.1; omega) _ _ _ _ _ _
 obtain ⟨t0, t1, t2, t3, t4, t5, f0, f1, f2, f3, f4, f5⟩ := rs6 hres
 obtain ⟨W9, hW9⟩ : ∃ W9, laidY w5 (Z + 1) (.int .i64 0) (.int .i64 0) (.int .i64 0) (.bool false) (.string ⟨#[]⟩) (.slice none 0 0) = W9 := ⟨_, rfl⟩
 rw [hW9] at h6 h9 hkk
 have HF : Hid (_ ∧ _ ∧ _) := ⟨h6, hkk, hF⟩
 have HW9 : Hid (_) := hW9
 clear hW9 hres h6 hkk hF h5 kF y0 y1 y2 y3 y4 y5 y6 y7
 go_wp2_with fail
 (try simp only [Exit.inBlock, Exit.then])
 unfold Go.Proofs.YtffncojcnbhblaaGreatDoor.laidY at HW9
 rw [HW9.out]
 refine bodyPost_ret (results_cell_row rfl _ _ (Z + 1) 31 #[.int .i64 0, .int .i64 0, .int .i64 0, .bool false, .string ⟨#[]⟩, .slice none 0 0] (0, 0) _ rfl h9 Tryz.underlying31 rfl (by kernel_rfl)) rfl ?_
 exact ⟨rfl, _, _, _, _, _, HF.out.1, HF.out.2.1, HF.out.2.2⟩
end Go.Proofs.YtffncojcnbhblaaGreatDoor
