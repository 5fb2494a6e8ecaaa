/-
  Joined of my texts Ak.
-/
import Derived.Test.YtmeafancgmkfkaaGreatDoorJf43
namespace Go.Proofs.YtmeafancgmkfkaaGreatDoor
open Go.RowKit
set_option linter.unusedVariables false
set_option linter.unusedSimpArgs false
def aS1 : Sta := ⟨[⟨1, true, [(⟨#[97]⟩, 2)], ⟨#[]⟩⟩, ⟨2, false, [], ⟨#[]⟩⟩], [], [1, 0]⟩
def aS2 : Sta := ⟨[⟨1, true, [(⟨#[97]⟩, 2)], ⟨#[]⟩⟩, ⟨2, false, [], ⟨#[]⟩⟩], [(1, 0, 2)], [1, 0]⟩
def aS3 : Sta := ⟨[⟨1, true, [(⟨#[97]⟩, 2)], ⟨#[]⟩⟩, ⟨2, false, [], ⟨#[104, 105]⟩⟩], [(1, 0, 2)], [1, 0]⟩
def aS4 : Sta := ⟨[⟨1, true, [(⟨#[97]⟩, 2)], ⟨#[]⟩⟩, ⟨2, false, [], ⟨#[]⟩⟩], [(0, 3, 2)], [1, 0]⟩
def bdB (S : Sta) : Bool := decide (S.ino.length ≤ 2513169434843) && decide (S.opn.length ≤ 5864062014634) && decide (S.made.length ≤ 17592186043904) && S.ino.all fun x => decide (x.ents.length ≤ 5864062014634) && decide (x.num ≤ 9223372036854775807) && decide (x.data.size ≤ 140737488351232) && x.ents.all fun e => decide (e.1.size ≤ 140737488351232)
theorem bd_of {S : Sta} (h : bdB S = true) : Bd S := by
 unfold bdB at h
 simp only [Bool.and_eq_true, decide_eq_true_eq, List.all_eq_true] at h
 obtain ⟨⟨⟨h1, h2⟩, h3⟩, h4⟩ := h
 exact ⟨h1, h2, h3, fun x hx => (h4 x hx).1.1.1, fun x hx => (h4 x hx).1.1.2, fun x hx => (h4 x hx).1.2, fun x hx e he => (h4 x hx).2 e he⟩
theorem a1 : playR (newS 2) ⟨0, 0, 0, 0, 0, ⟨#[47, 97]⟩, ⟨#[]⟩, ⟨#[]⟩⟩ headI = (aS1, ansC 0) := by kernel_rfl
theorem a2 : playR aS1 ⟨2, 1, 0, 0, 0, ⟨#[47, 97]⟩, ⟨#[]⟩, ⟨#[]⟩⟩ headI = (aS2, ansC 0) := by kernel_rfl
theorem a3 : playR aS2 ⟨5, 1, 0, 0, 0, ⟨#[]⟩, ⟨#[]⟩, ⟨#[104, 105]⟩⟩ headI = (aS3, ⟨0, 0, 2, false, ⟨#[]⟩, []⟩) := by kernel_rfl
theorem a4 : playR aS1 ⟨0, 0, 0, 0, 0, ⟨#[47, 97]⟩, ⟨#[]⟩, ⟨#[]⟩⟩ headI = (aS1, ansC 2) := by kernel_rfl
theorem a5 : allowsR aS1 ⟨2, 0, 0, 0, 0, ⟨#[47, 97]⟩, ⟨#[]⟩, ⟨#[]⟩⟩ ⟨0, 3, 0, false, ⟨#[]⟩, []⟩ = (aS4, true) := by kernel_rfl
theorem a6 : findR aS1.ino ⟨#[47, 97]⟩ = (2, 0) := by kernel_rfl
theorem a7 : linksR aS1.ino 2 = 1 := by kernel_rfl
theorem a8 : mayB aS1 = true := by kernel_rfl
set_option maxRecDepth 100000 in
set_option maxHeartbeats 8000000 in
theorem num_law (x : Int) (w : World) : Calls Tryz.prog 19 #[.int .i64 x] w fun e w' => e = .returned (.int .i64 x) ∧ w' = w := by
 go_enter Tryz.func19, Tryz.ntmps19
 go_wp2_with fail
 go_ret
 exact ⟨rfl, rfl⟩
set_option maxRecDepth 100000 in
set_option maxHeartbeats 8000000 in
theorem awake_any {w : World} (hT0 : Tab w) : Calls Tryz.prog 7 #[] w fun e w' => e = .returned (.bool true) ∧ Kept [] w w' := by
 have hT : Hid (Tab w) := hT0
 have HN2 : Hid (Calls Tryz.prog 17 #[.int .i64 2] w (News w 2)) := p_New (n := 2) (by decide) (by decide)
 clear hT0
 go_enter Tryz.func7, Tryz.ntmps7
 go_wp2_with fail
 refine (HN2.out).mono ?_
 rintro e U1 ⟨a1, b1, d1, eu1, rfl, ho1, kk1, hbd1⟩
 dsimp only at ho1 hbd1 ⊢
 obtain ⟨p1, m1, hu1, -⟩ := row_form ho1.ino
 replace hu1 : a1 = .slice p1 1 m1 := hu1
 subst hu1
 obtain ⟨q1, n1, hv1, -⟩ := row_form ho1.opn
 replace hv1 : b1 = .slice q1 0 n1 := hv1
 subst hv1
 obtain ⟨r1, t1, hw1, -⟩ := row_form ho1.mad
 replace hw1 : d1 = .slice r1 2 t1 := hw1
 subst hw1
 have HOs_1 : Hid (Os U1 w.heap.size (.slice p1 1 m1) (.slice q1 0 n1) (.slice r1 2 t1) eu1 (newS 2)) := ho1.less (Nat.le_refl _)
 have HK_2 : Hid (Kept [] w U1) := kk1
 clear ho1 hbd1 kk1
 obtain ⟨V3, X3, HX3, HXk3, HXb3⟩ := boxR U1 #[.slice p1 1 m1, .slice q1 0 n1, .slice r1 2 t1] 26
 go_upto_region 2 with fail
 rw [HX3.out.1, HX3.out.2]
 have HOs_4 : Hid (Os V3 w.heap.size (.slice p1 1 m1) (.slice q1 0 n1) (.slice r1 2 t1) eu1 (newS 2)) := HOs_1.out.kept HXk3.out
 have HK_4 : Hid (Kept [] w V3) := HK_2.out.trans HXk3.out (by simp)
 clear HOs_1 HK_2
 clear HX3 HXk3
 have cX3_0 : V3.cell? ⟨X3, 0, none⟩ = some (.slice p1 1 m1) := cellB HXb3.out
 have cX3_1 : V3.cell? ⟨X3, 1, none⟩ = some (.slice q1 0 n1) := cellB HXb3.out
 have cX3_2 : V3.cell? ⟨X3, 2, none⟩ = some (.slice r1 2 t1) := cellB HXb3.out
 go_wp2_with fail
 refine (l_Do HOs_4.out (bd_of (S := newS 2) (by kernel_rfl)) (hT.out.kept HK_4.out) ⟨0, 0, 0, 0, 0, ⟨#[47, 97]⟩, ⟨#[]⟩, ⟨#[]⟩⟩ (by decide) a1).mono ?_
 rintro e U5 ⟨a5, b5, d5, eu5, z5, l5, k5, rfl, ho5, hsr5, -, kk5, hbd5⟩
 dsimp only at ho5 hsr5 hbd5 ⊢
 obtain ⟨p5, m5, hu5, -⟩ := row_form ho5.ino
 replace hu5 : a5 = .slice p5 2 m5 := hu5
 subst hu5
 obtain ⟨q5, n5, hv5, -⟩ := row_form ho5.opn
 replace hv5 : b5 = .slice q5 0 n5 := hv5
 subst hv5
 obtain ⟨r5, t5, hw5, -⟩ := row_form ho5.mad
 replace hw5 : d5 = .slice r5 2 t5 := hw5
 subst hw5
 have HOt_5 : Hid (Os U5 w.heap.size (.slice p5 2 m5) (.slice q5 0 n5) (.slice r5 2 t5) eu5 (aS1)) := ho5.less HK_4.out.size
 have HBX3_6 : Hid (U5.heap[X3]? = some (.cells #[.slice p1 1 m1, .slice q1 0 n1, .slice r1 2 t1] 26 (0, 0))) := (kk5.block _ (lt_of_heap HXb3.out) (by simp)).trans HXb3.out
 have HOs_6 : Hid (Os U5 w.heap.size (.slice p1 1 m1) (.slice q1 0 n1) (.slice r1 2 t1) eu1 (newS 2)) := HOs_4.out.kept kk5
 have HK_6 : Hid (Kept [] w U5) := HK_4.out.trans kk5 (by simp)
 clear HXb3 HOs_4 HK_4
 clear ho5 hsr5 hbd5 kk5
 clear cX3_0 cX3_1 cX3_2
 obtain ⟨V7, X7, HX7, HXk7, HXb7⟩ := boxes2 U5 #[.slice p5 2 m5, .slice q5 0 n5, .slice r5 2 t5] #[.int .i64 0, .int .i64 0, .int .i64 0, .bool false, .string ⟨#[]⟩, .slice z5 l5 k5] 26 32
 go_upto_region 3 with fail
 rw [HX7.out.1, HX7.out.2]
 obtain ⟨Y7, hY7⟩ : ∃ Y7, X7 + 1 = Y7 := ⟨_, rfl⟩
 rw [hY7] at HXb7 ⊢
 have HA7 : Hid (_) := HXb7.out.1
 have HB7 : Hid (_) := HXb7.out.2.1
 have HBX3_8 : Hid (V7.heap[X3]? = some (.cells #[.slice p1 1 m1, .slice q1 0 n1, .slice r1 2 t1] 26 (0, 0))) := (HXk7.out.block _ (lt_of_heap HBX3_6.out) (by simp)).trans HBX3_6.out
 have HOs_8 : Hid (Os V7 w.heap.size (.slice p1 1 m1) (.slice q1 0 n1) (.slice r1 2 t1) eu1 (newS 2)) := HOs_6.out.kept HXk7.out
 have HOt_8 : Hid (Os V7 w.heap.size (.slice p5 2 m5) (.slice q5 0 n5) (.slice r5 2 t5) eu5 (aS1)) := HOt_5.out.kept HXk7.out
 have HK_8 : Hid (Kept [] w V7) := HK_6.out.trans HXk7.out (by simp)
 clear HBX3_6 HOs_6 HOt_5 HK_6
 clear HX7 HXk7 HXb7 hY7
 have cX7_0 : V7.cell? ⟨X7, 0, none⟩ = some (.slice p5 2 m5) := cellB HA7.out
 have cX7_1 : V7.cell? ⟨X7, 1, none⟩ = some (.slice q5 0 n5) := cellB HA7.out
 have cX7_2 : V7.cell? ⟨X7, 2, none⟩ = some (.slice r5 2 t5) := cellB HA7.out
 go_wp2_with fail
 refine (l_Do HOt_8.out (bd_of (S := aS1) (by kernel_rfl)) (hT.out.kept HK_8.out) ⟨2, 1, 0, 0, 0, ⟨#[47, 97]⟩, ⟨#[]⟩, ⟨#[]⟩⟩ (by decide) a2).mono ?_
 rintro e U9 ⟨a9, b9, d9, eu9, z9, l9, k9, rfl, ho9, hsr9, -, kk9, hbd9⟩
 dsimp only at ho9 hsr9 hbd9 ⊢
 obtain ⟨p9, m9, hu9, -⟩ := row_form ho9.ino
 replace hu9 : a9 = .slice p9 2 m9 := hu9
 subst hu9
 obtain ⟨q9, n9, hv9, -⟩ := row_form ho9.opn
 replace hv9 : b9 = .slice q9 1 n9 := hv9
 subst hv9
 obtain ⟨r9, t9, hw9, -⟩ := row_form ho9.mad
 replace hw9 : d9 = .slice r9 2 t9 := hw9
 subst hw9
 have HOu_9 : Hid (Os U9 w.heap.size (.slice p9 2 m9) (.slice q9 1 n9) (.slice r9 2 t9) eu9 (aS2)) := ho9.less HK_8.out.size
 have HBX3_10 : Hid (U9.heap[X3]? = some (.cells #[.slice p1 1 m1, .slice q1 0 n1, .slice r1 2 t1] 26 (0, 0))) := (kk9.block _ (lt_of_heap HBX3_8.out) (by simp)).trans HBX3_8.out
 have HBX7_10 : Hid (U9.heap[X7]? = some (.cells #[.slice p5 2 m5, .slice q5 0 n5, .slice r5 2 t5] 26 (0, 0))) := (kk9.block _ (lt_of_heap HA7.out) (by simp)).trans HA7.out
 have HBY7_10 : Hid (U9.heap[Y7]? = some (.cells #[.int .i64 0, .int .i64 0, .int .i64 0, .bool false, .string ⟨#[]⟩, .slice z5 l5 k5] 32 (0, 0))) := (kk9.block _ (lt_of_heap HB7.out) (by simp)).trans HB7.out
 have HOs_10 : Hid (Os U9 w.heap.size (.slice p1 1 m1) (.slice q1 0 n1) (.slice r1 2 t1) eu1 (newS 2)) := HOs_8.out.kept kk9
 have HOt_10 : Hid (Os U9 w.heap.size (.slice p5 2 m5) (.slice q5 0 n5) (.slice r5 2 t5) eu5 (aS1)) := HOt_8.out.kept kk9
 have HK_10 : Hid (Kept [] w U9) := HK_8.out.trans kk9 (by simp)
 clear HBX3_8 HA7 HB7 HOs_8 HOt_8 HK_8
 clear ho9 hsr9 hbd9 kk9
 clear cX7_0 cX7_1 cX7_2
 obtain ⟨V11, X11, HX11, HXk11, HXb11⟩ := boxes2 U9 #[.slice p9 2 m9, .slice q9 1 n9, .slice r9 2 t9] #[.int .i64 0, .int .i64 0, .int .i64 0, .bool false, .string ⟨#[]⟩, .slice z9 l9 k9] 26 32
 go_upto_region 4 with fail
 rw [HX11.out.1, HX11.out.2]
 obtain ⟨Y11, hY11⟩ : ∃ Y11, X11 + 1 = Y11 := ⟨_, rfl⟩
 rw [hY11] at HXb11 ⊢
 have HA11 : Hid (_) := HXb11.out.1
 have HB11 : Hid (_) := HXb11.out.2.1
 have HBX3_12 : Hid (V11.heap[X3]? = some (.cells #[.slice p1 1 m1, .slice q1 0 n1, .slice r1 2 t1] 26 (0, 0))) := (HXk11.out.block _ (lt_of_heap HBX3_10.out) (by simp)).trans HBX3_10.out
 have HBX7_12 : Hid (V11.heap[X7]? = some (.cells #[.slice p5 2 m5, .slice q5 0 n5, .slice r5 2 t5] 26 (0, 0))) := (HXk11.out.block _ (lt_of_heap HBX7_10.out) (by simp)).trans HBX7_10.out
 have HBY7_12 : Hid (V11.heap[Y7]? = some (.cells #[.int .i64 0, .int .i64 0, .int .i64 0, .bool false, .string ⟨#[]⟩, .slice z5 l5 k5] 32 (0, 0))) := (HXk11.out.block _ (lt_of_heap HBY7_10.out) (by simp)).trans HBY7_10.out
 have HOs_12 : Hid (Os V11 w.heap.size (.slice p1 1 m1) (.slice q1 0 n1) (.slice r1 2 t1) eu1 (newS 2)) := HOs_10.out.kept HXk11.out
 have HOt_12 : Hid (Os V11 w.heap.size (.slice p5 2 m5) (.slice q5 0 n5) (.slice r5 2 t5) eu5 (aS1)) := HOt_10.out.kept HXk11.out
 have HOu_12 : Hid (Os V11 w.heap.size (.slice p9 2 m9) (.slice q9 1 n9) (.slice r9 2 t9) eu9 (aS2)) := HOu_9.out.kept HXk11.out
 have HK_12 : Hid (Kept [] w V11) := HK_10.out.trans HXk11.out (by simp)
 clear HBX3_10 HBX7_10 HBY7_10 HOs_10 HOt_10 HOu_9 HK_10
 clear HX11 HXk11 HXb11 hY11
 have cY11_1 : V11.cell? ⟨Y11, 1, none⟩ = some (.int .i64 0) := cellB HB11.out
 have cX11_0 : V11.cell? ⟨X11, 0, none⟩ = some (.slice p9 2 m9) := cellB HA11.out
 have cX11_1 : V11.cell? ⟨X11, 1, none⟩ = some (.slice q9 1 n9) := cellB HA11.out
 have cX11_2 : V11.cell? ⟨X11, 2, none⟩ = some (.slice r9 2 t9) := cellB HA11.out
 go_wp2_with fail
 refine (l_Do HOu_12.out (bd_of (S := aS2) (by kernel_rfl)) (hT.out.kept HK_12.out) ⟨5, 1, 0, 0, 0, ⟨#[]⟩, ⟨#[]⟩, ⟨#[104, 105]⟩⟩ (by decide) a3).mono ?_
 rintro e U13 ⟨a13, b13, d13, eu13, z13, l13, k13, rfl, ho13, hsr13, -, kk13, hbd13⟩
 dsimp only at ho13 hsr13 hbd13 ⊢
 obtain ⟨p13, m13, hu13, -⟩ := row_form ho13.ino
 replace hu13 : a13 = .slice p13 2 m13 := hu13
 subst hu13
 obtain ⟨q13, n13, hv13, -⟩ := row_form ho13.opn
 replace hv13 : b13 = .slice q13 1 n13 := hv13
 subst hv13
 obtain ⟨r13, t13, hw13, -⟩ := row_form ho13.mad
 replace hw13 : d13 = .slice r13 2 t13 := hw13
 subst hw13
 have HOx_13 : Hid (Os U13 w.heap.size (.slice p13 2 m13) (.slice q13 1 n13) (.slice r13 2 t13) eu13 (aS3)) := ho13.less HK_12.out.size
 have HBX3_14 : Hid (U13.heap[X3]? = some (.cells #[.slice p1 1 m1, .slice q1 0 n1, .slice r1 2 t1] 26 (0, 0))) := (kk13.block _ (lt_of_heap HBX3_12.out) (by simp)).trans HBX3_12.out
 have HBX7_14 : Hid (U13.heap[X7]? = some (.cells #[.slice p5 2 m5, .slice q5 0 n5, .slice r5 2 t5] 26 (0, 0))) := (kk13.block _ (lt_of_heap HBX7_12.out) (by simp)).trans HBX7_12.out
 have HBY7_14 : Hid (U13.heap[Y7]? = some (.cells #[.int .i64 0, .int .i64 0, .int .i64 0, .bool false, .string ⟨#[]⟩, .slice z5 l5 k5] 32 (0, 0))) := (kk13.block _ (lt_of_heap HBY7_12.out) (by simp)).trans HBY7_12.out
 have HBX11_14 : Hid (U13.heap[X11]? = some (.cells #[.slice p9 2 m9, .slice q9 1 n9, .slice r9 2 t9] 26 (0, 0))) := (kk13.block _ (lt_of_heap HA11.out) (by simp)).trans HA11.out
 have HBY11_14 : Hid (U13.heap[Y11]? = some (.cells #[.int .i64 0, .int .i64 0, .int .i64 0, .bool false, .string ⟨#[]⟩, .slice z9 l9 k9] 32 (0, 0))) := (kk13.block _ (lt_of_heap HB11.out) (by simp)).trans HB11.out
 have HOs_14 : Hid (Os U13 w.heap.size (.slice p1 1 m1) (.slice q1 0 n1) (.slice r1 2 t1) eu1 (newS 2)) := HOs_12.out.kept kk13
 have HOt_14 : Hid (Os U13 w.heap.size (.slice p5 2 m5) (.slice q5 0 n5) (.slice r5 2 t5) eu5 (aS1)) := HOt_12.out.kept kk13
 have HOu_14 : Hid (Os U13 w.heap.size (.slice p9 2 m9) (.slice q9 1 n9) (.slice r9 2 t9) eu9 (aS2)) := HOu_12.out.kept kk13
 have HK_14 : Hid (Kept [] w U13) := HK_12.out.trans kk13 (by simp)
 clear HBX3_12 HBX7_12 HBY7_12 HA11 HB11 HOs_12 HOt_12 HOu_12 HK_12
 clear ho13 hsr13 hbd13 kk13
 clear cX11_0 cX11_1 cX11_2
 obtain ⟨V15, X15, HX15, HXk15, HXb15⟩ := boxes2 U13 #[.slice p13 2 m13, .slice q13 1 n13, .slice r13 2 t13] #[.int .i64 0, .int .i64 0, .int .i64 2, .bool false, .string ⟨#[]⟩, .slice z13 l13 k13] 26 32
 go_upto_region 5 with fail
 rw [HX15.out.1, HX15.out.2]
 obtain ⟨Y15, hY15⟩ : ∃ Y15, X15 + 1 = Y15 := ⟨_, rfl⟩
 rw [hY15] at HXb15 ⊢
 have HA15 : Hid (_) := HXb15.out.1
 have HB15 : Hid (_) := HXb15.out.2.1
 have HBX3_16 : Hid (V15.heap[X3]? = some (.cells #[.slice p1 1 m1, .slice q1 0 n1, .slice r1 2 t1] 26 (0, 0))) := (HXk15.out.block _ (lt_of_heap HBX3_14.out) (by simp)).trans HBX3_14.out
 have HBX7_16 : Hid (V15.heap[X7]? = some (.cells #[.slice p5 2 m5, .slice q5 0 n5, .slice r5 2 t5] 26 (0, 0))) := (HXk15.out.block _ (lt_of_heap HBX7_14.out) (by simp)).trans HBX7_14.out
 have HBY7_16 : Hid (V15.heap[Y7]? = some (.cells #[.int .i64 0, .int .i64 0, .int .i64 0, .bool false, .string ⟨#[]⟩, .slice z5 l5 k5] 32 (0, 0))) := (HXk15.out.block _ (lt_of_heap HBY7_14.out) (by simp)).trans HBY7_14.out
 have HBX11_16 : Hid (V15.heap[X11]? = some (.cells #[.slice p9 2 m9, .slice q9 1 n9, .slice r9 2 t9] 26 (0, 0))) := (HXk15.out.block _ (lt_of_heap HBX11_14.out) (by simp)).trans HBX11_14.out
 have HBY11_16 : Hid (V15.heap[Y11]? = some (.cells #[.int .i64 0, .int .i64 0, .int .i64 0, .bool false, .string ⟨#[]⟩, .slice z9 l9 k9] 32 (0, 0))) := (HXk15.out.block _ (lt_of_heap HBY11_14.out) (by simp)).trans HBY11_14.out
 have HOs_16 : Hid (Os V15 w.heap.size (.slice p1 1 m1) (.slice q1 0 n1) (.slice r1 2 t1) eu1 (newS 2)) := HOs_14.out.kept HXk15.out
 have HOt_16 : Hid (Os V15 w.heap.size (.slice p5 2 m5) (.slice q5 0 n5) (.slice r5 2 t5) eu5 (aS1)) := HOt_14.out.kept HXk15.out
 have HOu_16 : Hid (Os V15 w.heap.size (.slice p9 2 m9) (.slice q9 1 n9) (.slice r9 2 t9) eu9 (aS2)) := HOu_14.out.kept HXk15.out
 have HOx_16 : Hid (Os V15 w.heap.size (.slice p13 2 m13) (.slice q13 1 n13) (.slice r13 2 t13) eu13 (aS3)) := HOx_13.out.kept HXk15.out
 have HK_16 : Hid (Kept [] w V15) := HK_14.out.trans HXk15.out (by simp)
 clear HBX3_14 HBX7_14 HBY7_14 HBX11_14 HBY11_14 HOs_14 HOt_14 HOu_14 HOx_13 HK_14
 clear HX15 HXk15 HXb15 hY15
 have cX7_0 : V15.cell? ⟨X7, 0, none⟩ = some (.slice p5 2 m5) := cellB HBX7_16.out
 have cX7_1 : V15.cell? ⟨X7, 1, none⟩ = some (.slice q5 0 n5) := cellB HBX7_16.out
 have cX7_2 : V15.cell? ⟨X7, 2, none⟩ = some (.slice r5 2 t5) := cellB HBX7_16.out
 go_wp2_with fail
 refine (l_Do HOt_16.out (bd_of (S := aS1) (by kernel_rfl)) (hT.out.kept HK_16.out) ⟨0, 0, 0, 0, 0, ⟨#[47, 97]⟩, ⟨#[]⟩, ⟨#[]⟩⟩ (by decide) a4).mono ?_
 rintro e U17 ⟨a17, b17, d17, eu17, z17, l17, k17, rfl, ho17, hsr17, -, kk17, hbd17⟩
 dsimp only at ho17 hsr17 hbd17 ⊢
 obtain ⟨p17, m17, hu17, -⟩ := row_form ho17.ino
 replace hu17 : a17 = .slice p17 2 m17 := hu17
 subst hu17
 obtain ⟨q17, n17, hv17, -⟩ := row_form ho17.opn
 replace hv17 : b17 = .slice q17 0 n17 := hv17
 subst hv17
 obtain ⟨r17, t17, hw17, -⟩ := row_form ho17.mad
 replace hw17 : d17 = .slice r17 2 t17 := hw17
 subst hw17
 have HOy_17 : Hid (Os U17 w.heap.size (.slice p17 2 m17) (.slice q17 0 n17) (.slice r17 2 t17) eu17 (aS1)) := ho17.less HK_16.out.size
 have HBX3_18 : Hid (U17.heap[X3]? = some (.cells #[.slice p1 1 m1, .slice q1 0 n1, .slice r1 2 t1] 26 (0, 0))) := (kk17.block _ (lt_of_heap HBX3_16.out) (by simp)).trans HBX3_16.out
 have HBX7_18 : Hid (U17.heap[X7]? = some (.cells #[.slice p5 2 m5, .slice q5 0 n5, .slice r5 2 t5] 26 (0, 0))) := (kk17.block _ (lt_of_heap HBX7_16.out) (by simp)).trans HBX7_16.out
 have HBY7_18 : Hid (U17.heap[Y7]? = some (.cells #[.int .i64 0, .int .i64 0, .int .i64 0, .bool false, .string ⟨#[]⟩, .slice z5 l5 k5] 32 (0, 0))) := (kk17.block _ (lt_of_heap HBY7_16.out) (by simp)).trans HBY7_16.out
 have HBX11_18 : Hid (U17.heap[X11]? = some (.cells #[.slice p9 2 m9, .slice q9 1 n9, .slice r9 2 t9] 26 (0, 0))) := (kk17.block _ (lt_of_heap HBX11_16.out) (by simp)).trans HBX11_16.out
 have HBY11_18 : Hid (U17.heap[Y11]? = some (.cells #[.int .i64 0, .int .i64 0, .int .i64 0, .bool false, .string ⟨#[]⟩, .slice z9 l9 k9] 32 (0, 0))) := (kk17.block _ (lt_of_heap HBY11_16.out) (by simp)).trans HBY11_16.out
 have HBX15_18 : Hid (U17.heap[X15]? = some (.cells #[.slice p13 2 m13, .slice q13 1 n13, .slice r13 2 t13] 26 (0, 0))) := (kk17.block _ (lt_of_heap HA15.out) (by simp)).trans HA15.out
 have HBY15_18 : Hid (U17.heap[Y15]? = some (.cells #[.int .i64 0, .int .i64 0, .int .i64 2, .bool false, .string ⟨#[]⟩, .slice z13 l13 k13] 32 (0, 0))) := (kk17.block _ (lt_of_heap HB15.out) (by simp)).trans HB15.out
 have HOs_18 : Hid (Os U17 w.heap.size (.slice p1 1 m1) (.slice q1 0 n1) (.slice r1 2 t1) eu1 (newS 2)) := HOs_16.out.kept kk17
 have HOt_18 : Hid (Os U17 w.heap.size (.slice p5 2 m5) (.slice q5 0 n5) (.slice r5 2 t5) eu5 (aS1)) := HOt_16.out.kept kk17
 have HOu_18 : Hid (Os U17 w.heap.size (.slice p9 2 m9) (.slice q9 1 n9) (.slice r9 2 t9) eu9 (aS2)) := HOu_16.out.kept kk17
 have HOx_18 : Hid (Os U17 w.heap.size (.slice p13 2 m13) (.slice q13 1 n13) (.slice r13 2 t13) eu13 (aS3)) := HOx_16.out.kept kk17
 have HK_18 : Hid (Kept [] w U17) := HK_16.out.trans kk17 (by simp)
 clear HBX3_16 HBX7_16 HBY7_16 HBX11_16 HBY11_16 HA15 HB15 HOs_16 HOt_16 HOu_16 HOx_16 HK_16
 clear ho17 hsr17 hbd17 kk17
 clear cX7_0 cX7_1 cX7_2
 obtain ⟨V19, X19, HX19, HXk19, HXb19⟩ := boxes2 U17 #[.slice p17 2 m17, .slice q17 0 n17, .slice r17 2 t17] #[.int .i64 2, .int .i64 0, .int .i64 0, .bool false, .string ⟨#[]⟩, .slice z17 l17 k17] 26 32
 go_upto_region 6 with fail
 rw [HX19.out.1, HX19.out.2]
 obtain ⟨Y19, hY19⟩ : ∃ Y19, X19 + 1 = Y19 := ⟨_, rfl⟩
 rw [hY19] at HXb19 ⊢
 have HA19 : Hid (_) := HXb19.out.1
 have HB19 : Hid (_) := HXb19.out.2.1
 have HBX3_20 : Hid (V19.heap[X3]? = some (.cells #[.slice p1 1 m1, .slice q1 0 n1, .slice r1 2 t1] 26 (0, 0))) := (HXk19.out.block _ (lt_of_heap HBX3_18.out) (by simp)).trans HBX3_18.out
 have HBX7_20 : Hid (V19.heap[X7]? = some (.cells #[.slice p5 2 m5, .slice q5 0 n5, .slice r5 2 t5] 26 (0, 0))) := (HXk19.out.block _ (lt_of_heap HBX7_18.out) (by simp)).trans HBX7_18.out
 have HBY7_20 : Hid (V19.heap[Y7]? = some (.cells #[.int .i64 0, .int .i64 0, .int .i64 0, .bool false, .string ⟨#[]⟩, .slice z5 l5 k5] 32 (0, 0))) := (HXk19.out.block _ (lt_of_heap HBY7_18.out) (by simp)).trans HBY7_18.out
 have HBX11_20 : Hid (V19.heap[X11]? = some (.cells #[.slice p9 2 m9, .slice q9 1 n9, .slice r9 2 t9] 26 (0, 0))) := (HXk19.out.block _ (lt_of_heap HBX11_18.out) (by simp)).trans HBX11_18.out
 have HBY11_20 : Hid (V19.heap[Y11]? = some (.cells #[.int .i64 0, .int .i64 0, .int .i64 0, .bool false, .string ⟨#[]⟩, .slice z9 l9 k9] 32 (0, 0))) := (HXk19.out.block _ (lt_of_heap HBY11_18.out) (by simp)).trans HBY11_18.out
 have HBX15_20 : Hid (V19.heap[X15]? = some (.cells #[.slice p13 2 m13, .slice q13 1 n13, .slice r13 2 t13] 26 (0, 0))) := (HXk19.out.block _ (lt_of_heap HBX15_18.out) (by simp)).trans HBX15_18.out
 have HBY15_20 : Hid (V19.heap[Y15]? = some (.cells #[.int .i64 0, .int .i64 0, .int .i64 2, .bool false, .string ⟨#[]⟩, .slice z13 l13 k13] 32 (0, 0))) := (HXk19.out.block _ (lt_of_heap HBY15_18.out) (by simp)).trans HBY15_18.out
 have HOs_20 : Hid (Os V19 w.heap.size (.slice p1 1 m1) (.slice q1 0 n1) (.slice r1 2 t1) eu1 (newS 2)) := HOs_18.out.kept HXk19.out
 have HOt_20 : Hid (Os V19 w.heap.size (.slice p5 2 m5) (.slice q5 0 n5) (.slice r5 2 t5) eu5 (aS1)) := HOt_18.out.kept HXk19.out
 have HOu_20 : Hid (Os V19 w.heap.size (.slice p9 2 m9) (.slice q9 1 n9) (.slice r9 2 t9) eu9 (aS2)) := HOu_18.out.kept HXk19.out
 have HOx_20 : Hid (Os V19 w.heap.size (.slice p13 2 m13) (.slice q13 1 n13) (.slice r13 2 t13) eu13 (aS3)) := HOx_18.out.kept HXk19.out
 have HOy_20 : Hid (Os V19 w.heap.size (.slice p17 2 m17) (.slice q17 0 n17) (.slice r17 2 t17) eu17 (aS1)) := HOy_17.out.kept HXk19.out
 have HK_20 : Hid (Kept [] w V19) := HK_18.out.trans HXk19.out (by simp)
 clear HBX3_18 HBX7_18 HBY7_18 HBX11_18 HBY11_18 HBX15_18 HBY15_18 HOs_18 HOt_18 HOu_18 HOx_18 HOy_17 HK_18
 clear HX19 HXk19 HXb19 hY19
 have cX7_0 : V19.cell? ⟨X7, 0, none⟩ = some (.slice p5 2 m5) := cellB HBX7_20.out
 have cX7_1 : V19.cell? ⟨X7, 1, none⟩ = some (.slice q5 0 n5) := cellB HBX7_20.out
 have cX7_2 : V19.cell? ⟨X7, 2, none⟩ = some (.slice r5 2 t5) := cellB HBX7_20.out
 go_wp2_with fail
 refine (l_Allows HOt_20.out (bd_of (S := aS1) (by kernel_rfl)) (hT.out.kept HK_20.out) ⟨2, 0, 0, 0, 0, ⟨#[47, 97]⟩, ⟨#[]⟩, ⟨#[]⟩⟩ (by decide) ⟨0, 3, 0, false, ⟨#[]⟩, []⟩ rfl Ss.none a5).mono ?_
 rintro e U21 ⟨a21, b21, d21, eu21, rfl, ho21, kk21, hbd21⟩
 dsimp only at ho21 hbd21 ⊢
 obtain ⟨p21, m21, hu21, -⟩ := row_form ho21.ino
 replace hu21 : a21 = .slice p21 2 m21 := hu21
 subst hu21
 obtain ⟨q21, n21, hv21, -⟩ := row_form ho21.opn
 replace hv21 : b21 = .slice q21 1 n21 := hv21
 subst hv21
 obtain ⟨r21, t21, hw21, -⟩ := row_form ho21.mad
 replace hw21 : d21 = .slice r21 2 t21 := hw21
 subst hw21
 have HOv_21 : Hid (Os U21 w.heap.size (.slice p21 2 m21) (.slice q21 1 n21) (.slice r21 2 t21) eu21 (aS4)) := ho21.less HK_20.out.size
 have HBX3_22 : Hid (U21.heap[X3]? = some (.cells #[.slice p1 1 m1, .slice q1 0 n1, .slice r1 2 t1] 26 (0, 0))) := (kk21.block _ (lt_of_heap HBX3_20.out) (by simp)).trans HBX3_20.out
 have HBX7_22 : Hid (U21.heap[X7]? = some (.cells #[.slice p5 2 m5, .slice q5 0 n5, .slice r5 2 t5] 26 (0, 0))) := (kk21.block _ (lt_of_heap HBX7_20.out) (by simp)).trans HBX7_20.out
 have HBY7_22 : Hid (U21.heap[Y7]? = some (.cells #[.int .i64 0, .int .i64 0, .int .i64 0, .bool false, .string ⟨#[]⟩, .slice z5 l5 k5] 32 (0, 0))) := (kk21.block _ (lt_of_heap HBY7_20.out) (by simp)).trans HBY7_20.out
 have HBX11_22 : Hid (U21.heap[X11]? = some (.cells #[.slice p9 2 m9, .slice q9 1 n9, .slice r9 2 t9] 26 (0, 0))) := (kk21.block _ (lt_of_heap HBX11_20.out) (by simp)).trans HBX11_20.out
 have HBY11_22 : Hid (U21.heap[Y11]? = some (.cells #[.int .i64 0, .int .i64 0, .int .i64 0, .bool false, .string ⟨#[]⟩, .slice z9 l9 k9] 32 (0, 0))) := (kk21.block _ (lt_of_heap HBY11_20.out) (by simp)).trans HBY11_20.out
 have HBX15_22 : Hid (U21.heap[X15]? = some (.cells #[.slice p13 2 m13, .slice q13 1 n13, .slice r13 2 t13] 26 (0, 0))) := (kk21.block _ (lt_of_heap HBX15_20.out) (by simp)).trans HBX15_20.out
 have HBY15_22 : Hid (U21.heap[Y15]? = some (.cells #[.int .i64 0, .int .i64 0, .int .i64 2, .bool false, .string ⟨#[]⟩, .slice z13 l13 k13] 32 (0, 0))) := (kk21.block _ (lt_of_heap HBY15_20.out) (by simp)).trans HBY15_20.out
 have HBX19_22 : Hid (U21.heap[X19]? = some (.cells #[.slice p17 2 m17, .slice q17 0 n17, .slice r17 2 t17] 26 (0, 0))) := (kk21.block _ (lt_of_heap HA19.out) (by simp)).trans HA19.out
 have HBY19_22 : Hid (U21.heap[Y19]? = some (.cells #[.int .i64 2, .int .i64 0, .int .i64 0, .bool false, .string ⟨#[]⟩, .slice z17 l17 k17] 32 (0, 0))) := (kk21.block _ (lt_of_heap HB19.out) (by simp)).trans HB19.out
 have HOs_22 : Hid (Os U21 w.heap.size (.slice p1 1 m1) (.slice q1 0 n1) (.slice r1 2 t1) eu1 (newS 2)) := HOs_20.out.kept kk21
 have HOt_22 : Hid (Os U21 w.heap.size (.slice p5 2 m5) (.slice q5 0 n5) (.slice r5 2 t5) eu5 (aS1)) := HOt_20.out.kept kk21
 have HOu_22 : Hid (Os U21 w.heap.size (.slice p9 2 m9) (.slice q9 1 n9) (.slice r9 2 t9) eu9 (aS2)) := HOu_20.out.kept kk21
 have HOx_22 : Hid (Os U21 w.heap.size (.slice p13 2 m13) (.slice q13 1 n13) (.slice r13 2 t13) eu13 (aS3)) := HOx_20.out.kept kk21
 have HOy_22 : Hid (Os U21 w.heap.size (.slice p17 2 m17) (.slice q17 0 n17) (.slice r17 2 t17) eu17 (aS1)) := HOy_20.out.kept kk21
 have HK_22 : Hid (Kept [] w U21) := HK_20.out.trans kk21 (by simp)
 clear HBX3_20 HBX7_20 HBY7_20 HBX11_20 HBY11_20 HBX15_20 HBY15_20 HA19 HB19 HOs_20 HOt_20 HOu_20 HOx_20 HOy_20 HK_20
 clear ho21 hbd21 kk21
 clear cX7_0 cX7_1 cX7_2
 obtain ⟨V23, X23, HX23, HXk23, HXb23⟩ := boxR U21 #[.slice p21 2 m21, .slice q21 1 n21, .slice r21 2 t21] 26
 go_upto_region 7 with fail
 rw [HX23.out.1, HX23.out.2]
 have HBX3_24 : Hid (V23.heap[X3]? = some (.cells #[.slice p1 1 m1, .slice q1 0 n1, .slice r1 2 t1] 26 (0, 0))) := (HXk23.out.block _ (lt_of_heap HBX3_22.out) (by simp)).trans HBX3_22.out
 have HBX7_24 : Hid (V23.heap[X7]? = some (.cells #[.slice p5 2 m5, .slice q5 0 n5, .slice r5 2 t5] 26 (0, 0))) := (HXk23.out.block _ (lt_of_heap HBX7_22.out) (by simp)).trans HBX7_22.out
 have HBY7_24 : Hid (V23.heap[Y7]? = some (.cells #[.int .i64 0, .int .i64 0, .int .i64 0, .bool false, .string ⟨#[]⟩, .slice z5 l5 k5] 32 (0, 0))) := (HXk23.out.block _ (lt_of_heap HBY7_22.out) (by simp)).trans HBY7_22.out
 have HBX11_24 : Hid (V23.heap[X11]? = some (.cells #[.slice p9 2 m9, .slice q9 1 n9, .slice r9 2 t9] 26 (0, 0))) := (HXk23.out.block _ (lt_of_heap HBX11_22.out) (by simp)).trans HBX11_22.out
 have HBY11_24 : Hid (V23.heap[Y11]? = some (.cells #[.int .i64 0, .int .i64 0, .int .i64 0, .bool false, .string ⟨#[]⟩, .slice z9 l9 k9] 32 (0, 0))) := (HXk23.out.block _ (lt_of_heap HBY11_22.out) (by simp)).trans HBY11_22.out
 have HBX15_24 : Hid (V23.heap[X15]? = some (.cells #[.slice p13 2 m13, .slice q13 1 n13, .slice r13 2 t13] 26 (0, 0))) := (HXk23.out.block _ (lt_of_heap HBX15_22.out) (by simp)).trans HBX15_22.out
 have HBY15_24 : Hid (V23.heap[Y15]? = some (.cells #[.int .i64 0, .int .i64 0, .int .i64 2, .bool false, .string ⟨#[]⟩, .slice z13 l13 k13] 32 (0, 0))) := (HXk23.out.block _ (lt_of_heap HBY15_22.out) (by simp)).trans HBY15_22.out
 have HBX19_24 : Hid (V23.heap[X19]? = some (.cells #[.slice p17 2 m17, .slice q17 0 n17, .slice r17 2 t17] 26 (0, 0))) := (HXk23.out.block _ (lt_of_heap HBX19_22.out) (by simp)).trans HBX19_22.out
 have HBY19_24 : Hid (V23.heap[Y19]? = some (.cells #[.int .i64 2, .int .i64 0, .int .i64 0, .bool false, .string ⟨#[]⟩, .slice z17 l17 k17] 32 (0, 0))) := (HXk23.out.block _ (lt_of_heap HBY19_22.out) (by simp)).trans HBY19_22.out
 have HOs_24 : Hid (Os V23 w.heap.size (.slice p1 1 m1) (.slice q1 0 n1) (.slice r1 2 t1) eu1 (newS 2)) := HOs_22.out.kept HXk23.out
 have HOt_24 : Hid (Os V23 w.heap.size (.slice p5 2 m5) (.slice q5 0 n5) (.slice r5 2 t5) eu5 (aS1)) := HOt_22.out.kept HXk23.out
 have HOu_24 : Hid (Os V23 w.heap.size (.slice p9 2 m9) (.slice q9 1 n9) (.slice r9 2 t9) eu9 (aS2)) := HOu_22.out.kept HXk23.out
 have HOx_24 : Hid (Os V23 w.heap.size (.slice p13 2 m13) (.slice q13 1 n13) (.slice r13 2 t13) eu13 (aS3)) := HOx_22.out.kept HXk23.out
 have HOy_24 : Hid (Os V23 w.heap.size (.slice p17 2 m17) (.slice q17 0 n17) (.slice r17 2 t17) eu17 (aS1)) := HOy_22.out.kept HXk23.out
 have HOv_24 : Hid (Os V23 w.heap.size (.slice p21 2 m21) (.slice q21 1 n21) (.slice r21 2 t21) eu21 (aS4)) := HOv_21.out.kept HXk23.out
 have HK_24 : Hid (Kept [] w V23) := HK_22.out.trans HXk23.out (by simp)
 clear HBX3_22 HBX7_22 HBY7_22 HBX11_22 HBY11_22 HBX15_22 HBY15_22 HBX19_22 HBY19_22 HOs_22 HOt_22 HOu_22 HOx_22 HOy_22 HOv_21 HK_22
 clear HX23 HXk23
 have cX7_0 : V23.cell? ⟨X7, 0, none⟩ = some (.slice p5 2 m5) := cellB HBX7_24.out
 have cX7_1 : V23.cell? ⟨X7, 1, none⟩ = some (.slice q5 0 n5) := cellB HBX7_24.out
 have cX7_2 : V23.cell? ⟨X7, 2, none⟩ = some (.slice r5 2 t5) := cellB HBX7_24.out
 go_wp2_with fail
 refine (l_Find HOt_24.out (bd_of (S := aS1) (by kernel_rfl)) (hT.out.kept HK_24.out) ⟨#[47, 97]⟩ a6).mono ?_
 rintro e U25 ⟨rfl, kk25⟩
 have HBX3_26 : Hid (U25.heap[X3]? = some (.cells #[.slice p1 1 m1, .slice q1 0 n1, .slice r1 2 t1] 26 (0, 0))) := (kk25.block _ (lt_of_heap HBX3_24.out) (by simp)).trans HBX3_24.out
 have HBX7_26 : Hid (U25.heap[X7]? = some (.cells #[.slice p5 2 m5, .slice q5 0 n5, .slice r5 2 t5] 26 (0, 0))) := (kk25.block _ (lt_of_heap HBX7_24.out) (by simp)).trans HBX7_24.out
 have HBY7_26 : Hid (U25.heap[Y7]? = some (.cells #[.int .i64 0, .int .i64 0, .int .i64 0, .bool false, .string ⟨#[]⟩, .slice z5 l5 k5] 32 (0, 0))) := (kk25.block _ (lt_of_heap HBY7_24.out) (by simp)).trans HBY7_24.out
 have HBX11_26 : Hid (U25.heap[X11]? = some (.cells #[.slice p9 2 m9, .slice q9 1 n9, .slice r9 2 t9] 26 (0, 0))) := (kk25.block _ (lt_of_heap HBX11_24.out) (by simp)).trans HBX11_24.out
 have HBY11_26 : Hid (U25.heap[Y11]? = some (.cells #[.int .i64 0, .int .i64 0, .int .i64 0, .bool false, .string ⟨#[]⟩, .slice z9 l9 k9] 32 (0, 0))) := (kk25.block _ (lt_of_heap HBY11_24.out) (by simp)).trans HBY11_24.out
 have HBX15_26 : Hid (U25.heap[X15]? = some (.cells #[.slice p13 2 m13, .slice q13 1 n13, .slice r13 2 t13] 26 (0, 0))) := (kk25.block _ (lt_of_heap HBX15_24.out) (by simp)).trans HBX15_24.out
 have HBY15_26 : Hid (U25.heap[Y15]? = some (.cells #[.int .i64 0, .int .i64 0, .int .i64 2, .bool false, .string ⟨#[]⟩, .slice z13 l13 k13] 32 (0, 0))) := (kk25.block _ (lt_of_heap HBY15_24.out) (by simp)).trans HBY15_24.out
 have HBX19_26 : Hid (U25.heap[X19]? = some (.cells #[.slice p17 2 m17, .slice q17 0 n17, .slice r17 2 t17] 26 (0, 0))) := (kk25.block _ (lt_of_heap HBX19_24.out) (by simp)).trans HBX19_24.out
 have HBY19_26 : Hid (U25.heap[Y19]? = some (.cells #[.int .i64 2, .int .i64 0, .int .i64 0, .bool false, .string ⟨#[]⟩, .slice z17 l17 k17] 32 (0, 0))) := (kk25.block _ (lt_of_heap HBY19_24.out) (by simp)).trans HBY19_24.out
 have HBX23_26 : Hid (U25.heap[X23]? = some (.cells #[.slice p21 2 m21, .slice q21 1 n21, .slice r21 2 t21] 26 (0, 0))) := (kk25.block _ (lt_of_heap HXb23.out) (by simp)).trans HXb23.out
 have HOs_26 : Hid (Os U25 w.heap.size (.slice p1 1 m1) (.slice q1 0 n1) (.slice r1 2 t1) eu1 (newS 2)) := HOs_24.out.kept kk25
 have HOt_26 : Hid (Os U25 w.heap.size (.slice p5 2 m5) (.slice q5 0 n5) (.slice r5 2 t5) eu5 (aS1)) := HOt_24.out.kept kk25
 have HOu_26 : Hid (Os U25 w.heap.size (.slice p9 2 m9) (.slice q9 1 n9) (.slice r9 2 t9) eu9 (aS2)) := HOu_24.out.kept kk25
 have HOx_26 : Hid (Os U25 w.heap.size (.slice p13 2 m13) (.slice q13 1 n13) (.slice r13 2 t13) eu13 (aS3)) := HOx_24.out.kept kk25
 have HOy_26 : Hid (Os U25 w.heap.size (.slice p17 2 m17) (.slice q17 0 n17) (.slice r17 2 t17) eu17 (aS1)) := HOy_24.out.kept kk25
 have HOv_26 : Hid (Os U25 w.heap.size (.slice p21 2 m21) (.slice q21 1 n21) (.slice r21 2 t21) eu21 (aS4)) := HOv_24.out.kept kk25
 have HK_26 : Hid (Kept [] w U25) := HK_24.out.trans kk25 (by simp)
 clear HBX3_24 HBX7_24 HBY7_24 HBX11_24 HBY11_24 HBX15_24 HBY15_24 HBX19_24 HBY19_24 HXb23 HOs_24 HOt_24 HOu_24 HOx_24 HOy_24 HOv_24 HK_24
 clear kk25
 clear cX7_0 cX7_1 cX7_2
 go_wp2_with fail
 refine (p_New_bad (z := 0) (Or.inl (by decide))).mono ?_
 rintro e U27 ⟨rfl, kk27⟩
 have HBX3_28 : Hid (U27.heap[X3]? = some (.cells #[.slice p1 1 m1, .slice q1 0 n1, .slice r1 2 t1] 26 (0, 0))) := (kk27.block _ (lt_of_heap HBX3_26.out) (by simp)).trans HBX3_26.out
 have HBX7_28 : Hid (U27.heap[X7]? = some (.cells #[.slice p5 2 m5, .slice q5 0 n5, .slice r5 2 t5] 26 (0, 0))) := (kk27.block _ (lt_of_heap HBX7_26.out) (by simp)).trans HBX7_26.out
 have HBY7_28 : Hid (U27.heap[Y7]? = some (.cells #[.int .i64 0, .int .i64 0, .int .i64 0, .bool false, .string ⟨#[]⟩, .slice z5 l5 k5] 32 (0, 0))) := (kk27.block _ (lt_of_heap HBY7_26.out) (by simp)).trans HBY7_26.out
 have HBX11_28 : Hid (U27.heap[X11]? = some (.cells #[.slice p9 2 m9, .slice q9 1 n9, .slice r9 2 t9] 26 (0, 0))) := (kk27.block _ (lt_of_heap HBX11_26.out) (by simp)).trans HBX11_26.out
 have HBY11_28 : Hid (U27.heap[Y11]? = some (.cells #[.int .i64 0, .int .i64 0, .int .i64 0, .bool false, .string ⟨#[]⟩, .slice z9 l9 k9] 32 (0, 0))) := (kk27.block _ (lt_of_heap HBY11_26.out) (by simp)).trans HBY11_26.out
 have HBX15_28 : Hid (U27.heap[X15]? = some (.cells #[.slice p13 2 m13, .slice q13 1 n13, .slice r13 2 t13] 26 (0, 0))) := (kk27.block _ (lt_of_heap HBX15_26.out) (by simp)).trans HBX15_26.out
 have HBY15_28 : Hid (U27.heap[Y15]? = some (.cells #[.int .i64 0, .int .i64 0, .int .i64 2, .bool false, .string ⟨#[]⟩, .slice z13 l13 k13] 32 (0, 0))) := (kk27.block _ (lt_of_heap HBY15_26.out) (by simp)).trans HBY15_26.out
 have HBX19_28 : Hid (U27.heap[X19]? = some (.cells #[.slice p17 2 m17, .slice q17 0 n17, .slice r17 2 t17] 26 (0, 0))) := (kk27.block _ (lt_of_heap HBX19_26.out) (by simp)).trans HBX19_26.out
 have HBY19_28 : Hid (U27.heap[Y19]? = some (.cells #[.int .i64 2, .int .i64 0, .int .i64 0, .bool false, .string ⟨#[]⟩, .slice z17 l17 k17] 32 (0, 0))) := (kk27.block _ (lt_of_heap HBY19_26.out) (by simp)).trans HBY19_26.out
 have HBX23_28 : Hid (U27.heap[X23]? = some (.cells #[.slice p21 2 m21, .slice q21 1 n21, .slice r21 2 t21] 26 (0, 0))) := (kk27.block _ (lt_of_heap HBX23_26.out) (by simp)).trans HBX23_26.out
 have HOs_28 : Hid (Os U27 w.heap.size (.slice p1 1 m1) (.slice q1 0 n1) (.slice r1 2 t1) eu1 (newS 2)) := HOs_26.out.kept kk27
 have HOt_28 : Hid (Os U27 w.heap.size (.slice p5 2 m5) (.slice q5 0 n5) (.slice r5 2 t5) eu5 (aS1)) := HOt_26.out.kept kk27
 have HOu_28 : Hid (Os U27 w.heap.size (.slice p9 2 m9) (.slice q9 1 n9) (.slice r9 2 t9) eu9 (aS2)) := HOu_26.out.kept kk27
 have HOx_28 : Hid (Os U27 w.heap.size (.slice p13 2 m13) (.slice q13 1 n13) (.slice r13 2 t13) eu13 (aS3)) := HOx_26.out.kept kk27
 have HOy_28 : Hid (Os U27 w.heap.size (.slice p17 2 m17) (.slice q17 0 n17) (.slice r17 2 t17) eu17 (aS1)) := HOy_26.out.kept kk27
 have HOv_28 : Hid (Os U27 w.heap.size (.slice p21 2 m21) (.slice q21 1 n21) (.slice r21 2 t21) eu21 (aS4)) := HOv_26.out.kept kk27
 have HK_28 : Hid (Kept [] w U27) := HK_26.out.trans kk27 (by simp)
 clear HBX3_26 HBX7_26 HBY7_26 HBX11_26 HBY11_26 HBX15_26 HBY15_26 HBX19_26 HBY19_26 HBX23_26 HOs_26 HOt_26 HOu_26 HOx_26 HOy_26 HOv_26 HK_26
 clear kk27
 obtain ⟨V29, X29, HX29, HXk29, HXb29⟩ := boxR U27 #[.slice none 0 0, .slice none 0 0, .slice none 0 0] 26
 go_upto_region 9 with fail
 rw [HX29.out.1, HX29.out.2]
 have HBX3_30 : Hid (V29.heap[X3]? = some (.cells #[.slice p1 1 m1, .slice q1 0 n1, .slice r1 2 t1] 26 (0, 0))) := (HXk29.out.block _ (lt_of_heap HBX3_28.out) (by simp)).trans HBX3_28.out
 have HBX7_30 : Hid (V29.heap[X7]? = some (.cells #[.slice p5 2 m5, .slice q5 0 n5, .slice r5 2 t5] 26 (0, 0))) := (HXk29.out.block _ (lt_of_heap HBX7_28.out) (by simp)).trans HBX7_28.out
 have HBY7_30 : Hid (V29.heap[Y7]? = some (.cells #[.int .i64 0, .int .i64 0, .int .i64 0, .bool false, .string ⟨#[]⟩, .slice z5 l5 k5] 32 (0, 0))) := (HXk29.out.block _ (lt_of_heap HBY7_28.out) (by simp)).trans HBY7_28.out
 have HBX11_30 : Hid (V29.heap[X11]? = some (.cells #[.slice p9 2 m9, .slice q9 1 n9, .slice r9 2 t9] 26 (0, 0))) := (HXk29.out.block _ (lt_of_heap HBX11_28.out) (by simp)).trans HBX11_28.out
 have HBY11_30 : Hid (V29.heap[Y11]? = some (.cells #[.int .i64 0, .int .i64 0, .int .i64 0, .bool false, .string ⟨#[]⟩, .slice z9 l9 k9] 32 (0, 0))) := (HXk29.out.block _ (lt_of_heap HBY11_28.out) (by simp)).trans HBY11_28.out
 have HBX15_30 : Hid (V29.heap[X15]? = some (.cells #[.slice p13 2 m13, .slice q13 1 n13, .slice r13 2 t13] 26 (0, 0))) := (HXk29.out.block _ (lt_of_heap HBX15_28.out) (by simp)).trans HBX15_28.out
 have HBY15_30 : Hid (V29.heap[Y15]? = some (.cells #[.int .i64 0, .int .i64 0, .int .i64 2, .bool false, .string ⟨#[]⟩, .slice z13 l13 k13] 32 (0, 0))) := (HXk29.out.block _ (lt_of_heap HBY15_28.out) (by simp)).trans HBY15_28.out
 have HBX19_30 : Hid (V29.heap[X19]? = some (.cells #[.slice p17 2 m17, .slice q17 0 n17, .slice r17 2 t17] 26 (0, 0))) := (HXk29.out.block _ (lt_of_heap HBX19_28.out) (by simp)).trans HBX19_28.out
 have HBY19_30 : Hid (V29.heap[Y19]? = some (.cells #[.int .i64 2, .int .i64 0, .int .i64 0, .bool false, .string ⟨#[]⟩, .slice z17 l17 k17] 32 (0, 0))) := (HXk29.out.block _ (lt_of_heap HBY19_28.out) (by simp)).trans HBY19_28.out
 have HBX23_30 : Hid (V29.heap[X23]? = some (.cells #[.slice p21 2 m21, .slice q21 1 n21, .slice r21 2 t21] 26 (0, 0))) := (HXk29.out.block _ (lt_of_heap HBX23_28.out) (by simp)).trans HBX23_28.out
 have HOs_30 : Hid (Os V29 w.heap.size (.slice p1 1 m1) (.slice q1 0 n1) (.slice r1 2 t1) eu1 (newS 2)) := HOs_28.out.kept HXk29.out
 have HOt_30 : Hid (Os V29 w.heap.size (.slice p5 2 m5) (.slice q5 0 n5) (.slice r5 2 t5) eu5 (aS1)) := HOt_28.out.kept HXk29.out
 have HOu_30 : Hid (Os V29 w.heap.size (.slice p9 2 m9) (.slice q9 1 n9) (.slice r9 2 t9) eu9 (aS2)) := HOu_28.out.kept HXk29.out
 have HOx_30 : Hid (Os V29 w.heap.size (.slice p13 2 m13) (.slice q13 1 n13) (.slice r13 2 t13) eu13 (aS3)) := HOx_28.out.kept HXk29.out
 have HOy_30 : Hid (Os V29 w.heap.size (.slice p17 2 m17) (.slice q17 0 n17) (.slice r17 2 t17) eu17 (aS1)) := HOy_28.out.kept HXk29.out
 have HOv_30 : Hid (Os V29 w.heap.size (.slice p21 2 m21) (.slice q21 1 n21) (.slice r21 2 t21) eu21 (aS4)) := HOv_28.out.kept HXk29.out
 have HK_30 : Hid (Kept [] w V29) := HK_28.out.trans HXk29.out (by simp)
 clear HBX3_28 HBX7_28 HBY7_28 HBX11_28 HBY11_28 HBX15_28 HBY15_28 HBX19_28 HBY19_28 HBX23_28 HOs_28 HOt_28 HOu_28 HOx_28 HOy_28 HOv_28 HK_28
 clear HX29 HXk29
 have cX7_0 : V29.cell? ⟨X7, 0, none⟩ = some (.slice p5 2 m5) := cellB HBX7_30.out
 have cX7_1 : V29.cell? ⟨X7, 1, none⟩ = some (.slice q5 0 n5) := cellB HBX7_30.out
 have cX7_2 : V29.cell? ⟨X7, 2, none⟩ = some (.slice r5 2 t5) := cellB HBX7_30.out
 have cY7_0 : V29.cell? ⟨Y7, 0, none⟩ = some (.int .i64 0) := cellB HBY7_30.out
 have cY11_0 : V29.cell? ⟨Y11, 0, none⟩ = some (.int .i64 0) := cellB HBY11_30.out
 have cY15_2 : V29.cell? ⟨Y15, 2, none⟩ = some (.int .i64 2) := cellB HBY15_30.out
 have cY19_0 : V29.cell? ⟨Y19, 0, none⟩ = some (.int .i64 2) := cellB HBY19_30.out
 have cX23_1 : V29.cell? ⟨X23, 1, none⟩ = some (.slice q21 1 n21) := cellB HBX23_30.out
 go_wp2_with fail
 refine (num_law 0 _).mono ?_
 rintro e g31 ⟨rfl, hg31⟩
 have hg2 := hg31.symm
 subst hg2
 go_wp2_with fail
 refine (l_Links HOt_30.out (bd_of (S := aS1) (by kernel_rfl)) (by decide) 2 a7).mono ?_
 rintro e U900 ⟨rfl, kk900⟩
 clear cX7_0 cX7_1 cX7_2
 have HBX3_32 : Hid (U900.heap[X3]? = some (.cells #[.slice p1 1 m1, .slice q1 0 n1, .slice r1 2 t1] 26 (0, 0))) := (kk900.block _ (lt_of_heap HBX3_30.out) (by simp)).trans HBX3_30.out
 have HBX7_32 : Hid (U900.heap[X7]? = some (.cells #[.slice p5 2 m5, .slice q5 0 n5, .slice r5 2 t5] 26 (0, 0))) := (kk900.block _ (lt_of_heap HBX7_30.out) (by simp)).trans HBX7_30.out
 have HBY7_32 : Hid (U900.heap[Y7]? = some (.cells #[.int .i64 0, .int .i64 0, .int .i64 0, .bool false, .string ⟨#[]⟩, .slice z5 l5 k5] 32 (0, 0))) := (kk900.block _ (lt_of_heap HBY7_30.out) (by simp)).trans HBY7_30.out
 have HBX11_32 : Hid (U900.heap[X11]? = some (.cells #[.slice p9 2 m9, .slice q9 1 n9, .slice r9 2 t9] 26 (0, 0))) := (kk900.block _ (lt_of_heap HBX11_30.out) (by simp)).trans HBX11_30.out
 have HBY11_32 : Hid (U900.heap[Y11]? = some (.cells #[.int .i64 0, .int .i64 0, .int .i64 0, .bool false, .string ⟨#[]⟩, .slice z9 l9 k9] 32 (0, 0))) := (kk900.block _ (lt_of_heap HBY11_30.out) (by simp)).trans HBY11_30.out
 have HBX15_32 : Hid (U900.heap[X15]? = some (.cells #[.slice p13 2 m13, .slice q13 1 n13, .slice r13 2 t13] 26 (0, 0))) := (kk900.block _ (lt_of_heap HBX15_30.out) (by simp)).trans HBX15_30.out
 have HBY15_32 : Hid (U900.heap[Y15]? = some (.cells #[.int .i64 0, .int .i64 0, .int .i64 2, .bool false, .string ⟨#[]⟩, .slice z13 l13 k13] 32 (0, 0))) := (kk900.block _ (lt_of_heap HBY15_30.out) (by simp)).trans HBY15_30.out
 have HBX19_32 : Hid (U900.heap[X19]? = some (.cells #[.slice p17 2 m17, .slice q17 0 n17, .slice r17 2 t17] 26 (0, 0))) := (kk900.block _ (lt_of_heap HBX19_30.out) (by simp)).trans HBX19_30.out
 have HBY19_32 : Hid (U900.heap[Y19]? = some (.cells #[.int .i64 2, .int .i64 0, .int .i64 0, .bool false, .string ⟨#[]⟩, .slice z17 l17 k17] 32 (0, 0))) := (kk900.block _ (lt_of_heap HBY19_30.out) (by simp)).trans HBY19_30.out
 have HBX23_32 : Hid (U900.heap[X23]? = some (.cells #[.slice p21 2 m21, .slice q21 1 n21, .slice r21 2 t21] 26 (0, 0))) := (kk900.block _ (lt_of_heap HBX23_30.out) (by simp)).trans HBX23_30.out
 have HBX29_32 : Hid (U900.heap[X29]? = some (.cells #[.slice none 0 0, .slice none 0 0, .slice none 0 0] 26 (0, 0))) := (kk900.block _ (lt_of_heap HXb29.out) (by simp)).trans HXb29.out
 have HOs_32 : Hid (Os U900 w.heap.size (.slice p1 1 m1) (.slice q1 0 n1) (.slice r1 2 t1) eu1 (newS 2)) := HOs_30.out.kept kk900
 have HOt_32 : Hid (Os U900 w.heap.size (.slice p5 2 m5) (.slice q5 0 n5) (.slice r5 2 t5) eu5 (aS1)) := HOt_30.out.kept kk900
 have HOu_32 : Hid (Os U900 w.heap.size (.slice p9 2 m9) (.slice q9 1 n9) (.slice r9 2 t9) eu9 (aS2)) := HOu_30.out.kept kk900
 have HOx_32 : Hid (Os U900 w.heap.size (.slice p13 2 m13) (.slice q13 1 n13) (.slice r13 2 t13) eu13 (aS3)) := HOx_30.out.kept kk900
 have HOy_32 : Hid (Os U900 w.heap.size (.slice p17 2 m17) (.slice q17 0 n17) (.slice r17 2 t17) eu17 (aS1)) := HOy_30.out.kept kk900
 have HOv_32 : Hid (Os U900 w.heap.size (.slice p21 2 m21) (.slice q21 1 n21) (.slice r21 2 t21) eu21 (aS4)) := HOv_30.out.kept kk900
 have HK_32 : Hid (Kept [] w U900) := HK_30.out.trans kk900 (by simp)
 clear HBX3_30 HBX7_30 HBY7_30 HBX11_30 HBY11_30 HBX15_30 HBY15_30 HBX19_30 HBY19_30 HBX23_30 HXb29 HOs_30 HOt_30 HOu_30 HOx_30 HOy_30 HOv_30 HK_30
 clear kk900
 go_wp2_with fail
 refine (num_law 1300 _).mono ?_
 rintro e g33 ⟨rfl, hg33⟩
 have hg2 := hg33.symm
 subst hg2
 have cX7_0 : U900.cell? ⟨X7, 0, none⟩ = some (.slice p5 2 m5) := cellB HBX7_32.out
 have cX7_1 : U900.cell? ⟨X7, 1, none⟩ = some (.slice q5 0 n5) := cellB HBX7_32.out
 have cX7_2 : U900.cell? ⟨X7, 2, none⟩ = some (.slice r5 2 t5) := cellB HBX7_32.out
 go_wp2_with fail
 refine (l_May HOt_32.out (bd_of (S := aS1) (by kernel_rfl)) (hT.out.kept HK_32.out) a8).mono ?_
 rintro e U901 ⟨rfl, kk901⟩
 clear cX7_0 cX7_1 cX7_2
 have HBX3_34 : Hid (U901.heap[X3]? = some (.cells #[.slice p1 1 m1, .slice q1 0 n1, .slice r1 2 t1] 26 (0, 0))) := (kk901.block _ (lt_of_heap HBX3_32.out) (by simp)).trans HBX3_32.out
 have HBX7_34 : Hid (U901.heap[X7]? = some (.cells #[.slice p5 2 m5, .slice q5 0 n5, .slice r5 2 t5] 26 (0, 0))) := (kk901.block _ (lt_of_heap HBX7_32.out) (by simp)).trans HBX7_32.out
 have HBY7_34 : Hid (U901.heap[Y7]? = some (.cells #[.int .i64 0, .int .i64 0, .int .i64 0, .bool false, .string ⟨#[]⟩, .slice z5 l5 k5] 32 (0, 0))) := (kk901.block _ (lt_of_heap HBY7_32.out) (by simp)).trans HBY7_32.out
 have HBX11_34 : Hid (U901.heap[X11]? = some (.cells #[.slice p9 2 m9, .slice q9 1 n9, .slice r9 2 t9] 26 (0, 0))) := (kk901.block _ (lt_of_heap HBX11_32.out) (by simp)).trans HBX11_32.out
 have HBY11_34 : Hid (U901.heap[Y11]? = some (.cells #[.int .i64 0, .int .i64 0, .int .i64 0, .bool false, .string ⟨#[]⟩, .slice z9 l9 k9] 32 (0, 0))) := (kk901.block _ (lt_of_heap HBY11_32.out) (by simp)).trans HBY11_32.out
 have HBX15_34 : Hid (U901.heap[X15]? = some (.cells #[.slice p13 2 m13, .slice q13 1 n13, .slice r13 2 t13] 26 (0, 0))) := (kk901.block _ (lt_of_heap HBX15_32.out) (by simp)).trans HBX15_32.out
 have HBY15_34 : Hid (U901.heap[Y15]? = some (.cells #[.int .i64 0, .int .i64 0, .int .i64 2, .bool false, .string ⟨#[]⟩, .slice z13 l13 k13] 32 (0, 0))) := (kk901.block _ (lt_of_heap HBY15_32.out) (by simp)).trans HBY15_32.out
 have HBX19_34 : Hid (U901.heap[X19]? = some (.cells #[.slice p17 2 m17, .slice q17 0 n17, .slice r17 2 t17] 26 (0, 0))) := (kk901.block _ (lt_of_heap HBX19_32.out) (by simp)).trans HBX19_32.out
 have HBY19_34 : Hid (U901.heap[Y19]? = some (.cells #[.int .i64 2, .int .i64 0, .int .i64 0, .bool false, .string ⟨#[]⟩, .slice z17 l17 k17] 32 (0, 0))) := (kk901.block _ (lt_of_heap HBY19_32.out) (by simp)).trans HBY19_32.out
 have HBX23_34 : Hid (U901.heap[X23]? = some (.cells #[.slice p21 2 m21, .slice q21 1 n21, .slice r21 2 t21] 26 (0, 0))) := (kk901.block _ (lt_of_heap HBX23_32.out) (by simp)).trans HBX23_32.out
 have HBX29_34 : Hid (U901.heap[X29]? = some (.cells #[.slice none 0 0, .slice none 0 0, .slice none 0 0] 26 (0, 0))) := (kk901.block _ (lt_of_heap HBX29_32.out) (by simp)).trans HBX29_32.out
 have HOs_34 : Hid (Os U901 w.heap.size (.slice p1 1 m1) (.slice q1 0 n1) (.slice r1 2 t1) eu1 (newS 2)) := HOs_32.out.kept kk901
 have HOt_34 : Hid (Os U901 w.heap.size (.slice p5 2 m5) (.slice q5 0 n5) (.slice r5 2 t5) eu5 (aS1)) := HOt_32.out.kept kk901
 have HOu_34 : Hid (Os U901 w.heap.size (.slice p9 2 m9) (.slice q9 1 n9) (.slice r9 2 t9) eu9 (aS2)) := HOu_32.out.kept kk901
 have HOx_34 : Hid (Os U901 w.heap.size (.slice p13 2 m13) (.slice q13 1 n13) (.slice r13 2 t13) eu13 (aS3)) := HOx_32.out.kept kk901
 have HOy_34 : Hid (Os U901 w.heap.size (.slice p17 2 m17) (.slice q17 0 n17) (.slice r17 2 t17) eu17 (aS1)) := HOy_32.out.kept kk901
 have HOv_34 : Hid (Os U901 w.heap.size (.slice p21 2 m21) (.slice q21 1 n21) (.slice r21 2 t21) eu21 (aS4)) := HOv_32.out.kept kk901
 have HK_34 : Hid (Kept [] w U901) := HK_32.out.trans kk901 (by simp)
 clear HBX3_32 HBX7_32 HBY7_32 HBX11_32 HBY11_32 HBX15_32 HBY15_32 HBX19_32 HBY19_32 HBX23_32 HBX29_32 HOs_32 HOt_32 HOu_32 HOx_32 HOy_32 HOv_32 HK_32
 clear kk901
 go_wp2_with fail
 go_ret
 exact ⟨rfl, HK_34.out⟩
end Go.Proofs.YtmeafancgmkfkaaGreatDoor
