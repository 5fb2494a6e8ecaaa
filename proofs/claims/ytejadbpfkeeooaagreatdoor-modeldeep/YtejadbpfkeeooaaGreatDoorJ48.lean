/-
  Joined of my texts Dp4.
-/
import Derived.Test.YtejadbpfkeeooaaGreatDoorJ45
namespace Go.Proofs.YtejadbpfkeeooaaGreatDoor
open Go.RowKit
set_option linter.unusedVariables false
set_option linter.unusedSimpArgs false
def dp4d_0 : Sta := ⟨[⟨1, true, [], ⟨#[]⟩⟩], [], [0]⟩
def dp4d_1 : Sta := ⟨[⟨1, true, [(⟨#[97]⟩, 2)], ⟨#[]⟩⟩, ⟨2, true, [], ⟨#[]⟩⟩], [], [1]⟩
def dp4d_2 : Sta := ⟨[⟨1, true, [(⟨#[97]⟩, 2)], ⟨#[]⟩⟩, ⟨2, true, [(⟨#[98]⟩, 10)], ⟨#[]⟩⟩, ⟨10, true, [], ⟨#[]⟩⟩], [], [2]⟩
def dp4d_3 : Sta := ⟨[⟨1, true, [(⟨#[97]⟩, 2)], ⟨#[]⟩⟩, ⟨2, true, [(⟨#[98]⟩, 10)], ⟨#[]⟩⟩, ⟨10, true, [(⟨#[99]⟩, 18)], ⟨#[]⟩⟩, ⟨18, true, [], ⟨#[]⟩⟩], [], [3]⟩
def dp4d_4 : Sta := ⟨[⟨1, true, [(⟨#[97]⟩, 2)], ⟨#[]⟩⟩, ⟨2, true, [(⟨#[98]⟩, 10)], ⟨#[]⟩⟩, ⟨10, true, [(⟨#[99]⟩, 18)], ⟨#[]⟩⟩, ⟨18, true, [(⟨#[100]⟩, 26)], ⟨#[]⟩⟩, ⟨26, true, [], ⟨#[]⟩⟩], [], [4]⟩
def dz4d : Sta := ⟨[⟨1, true, [(⟨#[122]⟩, 2)], ⟨#[]⟩⟩, ⟨2, true, [(⟨#[98]⟩, 10)], ⟨#[]⟩⟩, ⟨10, true, [(⟨#[99]⟩, 18)], ⟨#[]⟩⟩, ⟨18, true, [(⟨#[100]⟩, 26)], ⟨#[]⟩⟩, ⟨26, true, [], ⟨#[]⟩⟩], [], [4]⟩
theorem de4d_0 : playR dp4d_0 ⟨1, 0, 0, 0, 0, ⟨#[47, 97]⟩, ⟨#[]⟩, ⟨#[]⟩⟩ headI = (dp4d_1, ansC 0) := by kernel_rfl
theorem df4d_0 : playR dp4d_0 ⟨13, 0, 0, 0, 0, ⟨#[47, 97]⟩, ⟨#[]⟩, ⟨#[]⟩⟩ headI = (dp4d_0, ansC 1) := by kernel_rfl
theorem de4d_1 : playR dp4d_1 ⟨1, 0, 0, 0, 0, ⟨#[47, 97, 47, 98]⟩, ⟨#[]⟩, ⟨#[]⟩⟩ headI = (dp4d_2, ansC 0) := by kernel_rfl
theorem df4d_1 : playR dp4d_1 ⟨13, 0, 0, 0, 0, ⟨#[47, 97, 47, 98]⟩, ⟨#[]⟩, ⟨#[]⟩⟩ headI = (dp4d_1, ansC 1) := by kernel_rfl
theorem de4d_2 : playR dp4d_2 ⟨1, 0, 0, 0, 0, ⟨#[47, 97, 47, 98, 47, 99]⟩, ⟨#[]⟩, ⟨#[]⟩⟩ headI = (dp4d_3, ansC 0) := by kernel_rfl
theorem df4d_2 : playR dp4d_2 ⟨13, 0, 0, 0, 0, ⟨#[47, 97, 47, 98, 47, 99]⟩, ⟨#[]⟩, ⟨#[]⟩⟩ headI = (dp4d_2, ansC 1) := by kernel_rfl
theorem de4d_3 : playR dp4d_3 ⟨1, 0, 0, 0, 0, ⟨#[47, 97, 47, 98, 47, 99, 47, 100]⟩, ⟨#[]⟩, ⟨#[]⟩⟩ headI = (dp4d_4, ansC 0) := by kernel_rfl
theorem df4d_3 : playR dp4d_3 ⟨13, 0, 0, 0, 0, ⟨#[47, 97, 47, 98, 47, 99, 47, 100]⟩, ⟨#[]⟩, ⟨#[]⟩⟩ headI = (dp4d_3, ansC 1) := by kernel_rfl
theorem dr4d : playR dp4d_4 ⟨11, 0, 0, 0, 0, ⟨#[47, 97]⟩, ⟨#[47, 122]⟩, ⟨#[]⟩⟩ headI = (dz4d, ansC 0) := by kernel_rfl
theorem db4d : (playR dp4d_4 ⟨0, 0, 0, 0, 0, ⟨#[47, 97, 47, 98, 47, 99, 47, 100, 47, 110]⟩, ⟨#[]⟩, ⟨#[]⟩⟩ headI).2.code = 6 := by kernel_rfl
theorem dq4d : (playR dz4d ⟨13, 0, 0, 0, 0, ⟨#[47, 122, 47, 98, 47, 99, 47, 100]⟩, ⟨#[]⟩, ⟨#[]⟩⟩ headI).2.code = 0 := by kernel_rfl
theorem dg4d : (playR dz4d ⟨13, 0, 0, 0, 0, ⟨#[47, 97, 47, 98, 47, 99, 47, 100]⟩, ⟨#[]⟩, ⟨#[]⟩⟩ headI).2.code = 1 := by kernel_rfl
theorem bd4d_0 : Bd dp4d_0 := bd_of (by kernel_rfl)
theorem bd4d_1 : Bd dp4d_1 := bd_of (by kernel_rfl)
theorem bd4d_2 : Bd dp4d_2 := bd_of (by kernel_rfl)
theorem bd4d_3 : Bd dp4d_3 := bd_of (by kernel_rfl)
theorem bd4d_4 : Bd dp4d_4 := bd_of (by kernel_rfl)
theorem bz4d : Bd dz4d := bd_of (by kernel_rfl)
set_option maxRecDepth 100000 in
set_option maxHeartbeats 8000000 in
theorem deep4d {w : World} (hT0 : Tab w) (many : Int) (hm : bits .and .i64 many 3 = 3) :
   Calls Tryz.prog 6 #[.int .i64 many, .bool false] w fun e w' => e = .returned (.bool true) ∧ Kept [] w w' := by
 have hT : Hid (Tab w) := hT0
 have HR1 : Hid (∀ W, Calls Tryz.prog 13 #[.int .i64 1] W (News W 1)) := fun W => r_New (n := 1) (by decide) (by decide)
 clear hT0
 go_enter Tryz.func6, Tryz.ntmps6
 go_wp2_with fail
 refine (awake_any hT.out).mono ?_
 rintro e w1 ⟨rfl, k1⟩
 have HK1 : Hid (Kept [] w w1) := k1
 clear k1
 go_wp2_with fail
 refine (HR1.out w1).mono ?_
 rintro e w2 ⟨a0, b0, d0, ev, rfl, ho, k2, -⟩
 replace ho : Os w2 w1.heap.size a0 b0 d0 ev dp4d_0 := ho
 have HK2 : Hid (Kept [] w w2) := HK1.out.trans k2 (by simp)
 obtain ⟨p0, m0, q0, n0, r0, t0, rfl, rfl, rfl⟩ := forms3 ho 1 0 1 rfl rfl rfl
 have HO2 : Hid (Os w2 w.heap.size (.slice p0 1 m0) (.slice q0 0 n0) (.slice r0 1 t0) ev dp4d_0) := ho.less HK1.out.size
 clear ho k2
 obtain ⟨W3, X, HX, HXk, HXb⟩ := boxR w2 #[.slice p0 1 m0, .slice q0 0 n0, .slice r0 1 t0] 26
 have HB3 : Hid (Hb w W3 X (.slice p0 1 m0) (.slice q0 0 n0) (.slice r0 1 t0) ev dp4d_0) := Hb.new HK2.out HO2.out HX.out
 go_upto_region 4 with fail
 rw [HX.out.1, HX.out.2]
 clear HX HXk HXb HO2
 go_wp2_with fail
 go_loopw [8, 9] (fun u i wr => ∃ v1 v2 v3 ev, (i = .int .i64 0 ∧ u = .string ⟨#[]⟩ ∧ Hid (Hb w wr X v1 v2 v3 ev dp4d_0)) ∨ (i = .int .i64 1 ∧ u = .string ⟨#[47, 97]⟩ ∧ Hid (Hb w wr X v1 v2 v3 ev dp4d_1)) ∨ (i = .int .i64 2 ∧ u = .string ⟨#[47, 97, 47, 98]⟩ ∧ Hid (Hb w wr X v1 v2 v3 ev dp4d_2)) ∨ (i = .int .i64 3 ∧ u = .string ⟨#[47, 97, 47, 98, 47, 99]⟩ ∧ Hid (Hb w wr X v1 v2 v3 ev dp4d_3)) ∨ (i = .int .i64 4 ∧ u = .string ⟨#[47, 97, 47, 98, 47, 99, 47, 100]⟩ ∧ Hid (Hb w wr X v1 v2 v3 ev dp4d_4))) (fun _ i _ => (4 - intOf i).toNat)
 case atStart => exact ⟨_, _, _, _, Or.inl ⟨rfl, rfl, HB3.out⟩⟩
 case round =>
   obtain ⟨a0, b0, d0, ev, hc⟩ := hrel
   rcases hc with ⟨rfl, rfl, HJ⟩ | ⟨rfl, rfl, HJ⟩ | ⟨rfl, rfl, HJ⟩ | ⟨rfl, rfl, HJ⟩ | ⟨rfl, rfl, HJ⟩
   · obtain ⟨p0, m0, q0, n0, r0, t0, rfl, rfl, rfl⟩ := forms3 HJ.out.os 1 0 1 rfl rfl rfl
     obtain ⟨V1, XB, HXB, HXBk, HXBb⟩ := boxR wr #[.int .u8 97] 5
     have hcv : (convert 48 9 (.slice (some ⟨XB, 0, none⟩) 1 1)).run Tryz.prog V1 = .ok (.string ⟨#[97]⟩) V1 := conv_one 97 (by decide) HXBb.out
     have hal := HXB.out.1
     have hsz := HXB.out.2
     have HJ1 : Hid (_) := HJ.out.kept HXBk.out
     go_upto_region 10 with fail
     have hstr : (⟨#[]⟩ ++ ⟨#[47]⟩ ++ ⟨#[97]⟩ : ByteArray) = ⟨#[47, 97]⟩ := by decide +kernel
     rw [hstr]
     clear hstr hcv hal hsz HXB HXBb HJ
     obtain ⟨V2, XC, HXC, HXCk, HXCb⟩ := boxR V1 #[.int .i64 1, .int .i64 0, .int .i64 0, .int .i64 0, .int .i64 0, .string ⟨#[47, 97]⟩, .string ⟨#[]⟩, .string ⟨#[]⟩] 28
     have HJ2 : Hid (_) := HJ1.out.kept HXCk.out
     go_upto_region 11 with fail
     rw [HXC.out.1, HXC.out.2]
     clear HXBk
     obtain ⟨V3, hV3⟩ : ∃ V3, V2 = V3 := ⟨_, rfl⟩
     have HC3 : Hid (V2.heap[XC]? = some (.cells #[.int .i64 1, .int .i64 0, .int .i64 0, .int .i64 0, .int .i64 0, .string ⟨#[47, 97]⟩, .string ⟨#[]⟩, .string ⟨#[]⟩] 28 (0, 0))) := HXCb.out
     have HJ3 : Hid (_) := HJ2.out
     rw [hV3] at HJ3 HC3 ⊢
     clear hV3 HXC HXCk HXCb HJ2 HJ1
     obtain ⟨x0, x1, x2⟩ := cells3D HJ3.out.box
     obtain ⟨y0, y1, y2, y3, y4, y5, y6, y7⟩ := cells8D HC3.out
     go_wp2_with fail
     refine (l_Do HJ3.out.os bd4d_0 (hT.out.kept HJ3.out.k) ⟨1, 0, 0, 0, 0, ⟨#[47, 97]⟩, ⟨#[]⟩, ⟨#[]⟩⟩ (by decide) de4d_0).mono ?_
     rintro e V4 ⟨a1, b1, d1, eu, z1, l1, k1, rfl, ho, hsr, -, k4, -⟩
     dsimp only at ho ⊢
     obtain ⟨p1, m1, q1, n1, r1, t1, rfl, rfl, rfl⟩ := forms3 ho 2 0 1 rfl rfl rfl
     clear x0 x1 x2
     clear y0 y1 y2 y3 y4 y5 y6 y7
     have HO4 : Hid (Os V4 w.heap.size (.slice p1 2 m1) (.slice q1 0 n1) (.slice r1 1 t1) eu dp4d_1) := ho.less HJ3.out.k.size
     have HJ4 : Hid (_) := HJ3.out.kept k4
     have HOx : Hid (_) := off_lt ho (lt_of_heap HJ3.out.box)
     clear ho hsr k4 HJ3 HC3
     obtain ⟨V5, XT, HXT, HXTk, HXTb⟩ := boxes2 V4 #[.slice p1 2 m1, .slice q1 0 n1, .slice r1 1 t1] #[.int .i64 0, .int .i64 0, .int .i64 0, .bool false, .string ⟨#[]⟩, .slice z1 l1 k1] 26 32
     have HJ5 : Hid (_) := HJ4.out.kept HXTk.out
     have HO5 : Hid (_) := HO4.out.kept HXTk.out
     go_upto_region 14 with fail
     rw [HXT.out.1, HXT.out.2]
     obtain ⟨x0, x1, x2⟩ := cells3D HJ5.out.box
     have r0' : V5.cell? ⟨XT + 1, 0, none⟩ = some (.int .i64 0) := cellB HXTb.out.2.1
     clear HJ4 HO4 HXTk
     go_wp2_with fail
     refine (l_code HJ5.out.os bd4d_0 (hT.out.kept HJ5.out.k) ⟨13, 0, 0, 0, 0, ⟨#[47, 97]⟩, ⟨#[]⟩, ⟨#[]⟩⟩ (by decide) df4d_0).mono ?_
     rintro e V6 ⟨rfl, k6⟩
     have HJ6 : Hid (_) := HJ5.out.kept k6
     have HO6 : Hid (_) := HO5.out.kept k6
     have HT6 : Hid (V6.heap[XT]? = _) := (k6.block _ (lt_of_heap HXTb.out.1) (by simp)).trans HXTb.out.1
     clear k6 r0' HJ5 HO5 HXT HXTb
     clear x0 x1 x2
     obtain ⟨x0, x1, x2⟩ := cells3D HT6.out
     obtain ⟨y0, y1, y2⟩ := cells3D HJ6.out.box
     have z0 := frozen_of HJ6.out.box 0
     have z1' := frozen_of HJ6.out.box 1
     have z2 := frozen_of HJ6.out.box 2
     have HE : Hid (_) := HJ6.out.put HO6.out HOx.out
     go_wp2_with fail
     go_roundw
     case rel => exact ⟨_, _, _, _, Or.inr (Or.inl ⟨rfl, rfl, HE.out⟩)⟩
     case measure => simp [intOf]
   · obtain ⟨p0, m0, q0, n0, r0, t0, rfl, rfl, rfl⟩ := forms3 HJ.out.os 2 0 1 rfl rfl rfl
     obtain ⟨V1, XB, HXB, HXBk, HXBb⟩ := boxR wr #[.int .u8 98] 5
     have hcv : (convert 48 9 (.slice (some ⟨XB, 0, none⟩) 1 1)).run Tryz.prog V1 = .ok (.string ⟨#[98]⟩) V1 := conv_one 98 (by decide) HXBb.out
     have hal := HXB.out.1
     have hsz := HXB.out.2
     have HJ1 : Hid (_) := HJ.out.kept HXBk.out
     go_upto_region 10 with fail
     have hstr : (⟨#[47, 97]⟩ ++ ⟨#[47]⟩ ++ ⟨#[98]⟩ : ByteArray) = ⟨#[47, 97, 47, 98]⟩ := by decide +kernel
     rw [hstr]
     clear hstr hcv hal hsz HXB HXBb HJ
     obtain ⟨V2, XC, HXC, HXCk, HXCb⟩ := boxR V1 #[.int .i64 1, .int .i64 0, .int .i64 0, .int .i64 0, .int .i64 0, .string ⟨#[47, 97, 47, 98]⟩, .string ⟨#[]⟩, .string ⟨#[]⟩] 28
     have HJ2 : Hid (_) := HJ1.out.kept HXCk.out
     go_upto_region 11 with fail
     rw [HXC.out.1, HXC.out.2]
     clear HXBk
     obtain ⟨V3, hV3⟩ : ∃ V3, V2 = V3 := ⟨_, rfl⟩
     have HC3 : Hid (V2.heap[XC]? = some (.cells #[.int .i64 1, .int .i64 0, .int .i64 0, .int .i64 0, .int .i64 0, .string ⟨#[47, 97, 47, 98]⟩, .string ⟨#[]⟩, .string ⟨#[]⟩] 28 (0, 0))) := HXCb.out
     have HJ3 : Hid (_) := HJ2.out
     rw [hV3] at HJ3 HC3 ⊢
     clear hV3 HXC HXCk HXCb HJ2 HJ1
     obtain ⟨x0, x1, x2⟩ := cells3D HJ3.out.box
     obtain ⟨y0, y1, y2, y3, y4, y5, y6, y7⟩ := cells8D HC3.out
     go_wp2_with fail
     refine (l_Do HJ3.out.os bd4d_1 (hT.out.kept HJ3.out.k) ⟨1, 0, 0, 0, 0, ⟨#[47, 97, 47, 98]⟩, ⟨#[]⟩, ⟨#[]⟩⟩ (by decide) de4d_1).mono ?_
     rintro e V4 ⟨a1, b1, d1, eu, z1, l1, k1, rfl, ho, hsr, -, k4, -⟩
     dsimp only at ho ⊢
     obtain ⟨p1, m1, q1, n1, r1, t1, rfl, rfl, rfl⟩ := forms3 ho 3 0 1 rfl rfl rfl
     clear x0 x1 x2
     clear y0 y1 y2 y3 y4 y5 y6 y7
     have HO4 : Hid (Os V4 w.heap.size (.slice p1 3 m1) (.slice q1 0 n1) (.slice r1 1 t1) eu dp4d_2) := ho.less HJ3.out.k.size
     have HJ4 : Hid (_) := HJ3.out.kept k4
     have HOx : Hid (_) := off_lt ho (lt_of_heap HJ3.out.box)
     clear ho hsr k4 HJ3 HC3
     obtain ⟨V5, XT, HXT, HXTk, HXTb⟩ := boxes2 V4 #[.slice p1 3 m1, .slice q1 0 n1, .slice r1 1 t1] #[.int .i64 0, .int .i64 0, .int .i64 0, .bool false, .string ⟨#[]⟩, .slice z1 l1 k1] 26 32
     have HJ5 : Hid (_) := HJ4.out.kept HXTk.out
     have HO5 : Hid (_) := HO4.out.kept HXTk.out
     go_upto_region 14 with fail
     rw [HXT.out.1, HXT.out.2]
     obtain ⟨x0, x1, x2⟩ := cells3D HJ5.out.box
     have r0' : V5.cell? ⟨XT + 1, 0, none⟩ = some (.int .i64 0) := cellB HXTb.out.2.1
     clear HJ4 HO4 HXTk
     go_wp2_with fail
     refine (l_code HJ5.out.os bd4d_1 (hT.out.kept HJ5.out.k) ⟨13, 0, 0, 0, 0, ⟨#[47, 97, 47, 98]⟩, ⟨#[]⟩, ⟨#[]⟩⟩ (by decide) df4d_1).mono ?_
     rintro e V6 ⟨rfl, k6⟩
     have HJ6 : Hid (_) := HJ5.out.kept k6
     have HO6 : Hid (_) := HO5.out.kept k6
     have HT6 : Hid (V6.heap[XT]? = _) := (k6.block _ (lt_of_heap HXTb.out.1) (by simp)).trans HXTb.out.1
     clear k6 r0' HJ5 HO5 HXT HXTb
     clear x0 x1 x2
     obtain ⟨x0, x1, x2⟩ := cells3D HT6.out
     obtain ⟨y0, y1, y2⟩ := cells3D HJ6.out.box
     have z0 := frozen_of HJ6.out.box 0
     have z1' := frozen_of HJ6.out.box 1
     have z2 := frozen_of HJ6.out.box 2
     have HE : Hid (_) := HJ6.out.put HO6.out HOx.out
     go_wp2_with fail
     go_roundw
     case rel => exact ⟨_, _, _, _, Or.inr (Or.inr (Or.inl ⟨rfl, rfl, HE.out⟩))⟩
     case measure => simp [intOf]
   · obtain ⟨p0, m0, q0, n0, r0, t0, rfl, rfl, rfl⟩ := forms3 HJ.out.os 3 0 1 rfl rfl rfl
     obtain ⟨V1, XB, HXB, HXBk, HXBb⟩ := boxR wr #[.int .u8 99] 5
     have hcv : (convert 48 9 (.slice (some ⟨XB, 0, none⟩) 1 1)).run Tryz.prog V1 = .ok (.string ⟨#[99]⟩) V1 := conv_one 99 (by decide) HXBb.out
     have hal := HXB.out.1
     have hsz := HXB.out.2
     have HJ1 : Hid (_) := HJ.out.kept HXBk.out
     go_upto_region 10 with fail
     have hstr : (⟨#[47, 97, 47, 98]⟩ ++ ⟨#[47]⟩ ++ ⟨#[99]⟩ : ByteArray) = ⟨#[47, 97, 47, 98, 47, 99]⟩ := by decide +kernel
     rw [hstr]
     clear hstr hcv hal hsz HXB HXBb HJ
     obtain ⟨V2, XC, HXC, HXCk, HXCb⟩ := boxR V1 #[.int .i64 1, .int .i64 0, .int .i64 0, .int .i64 0, .int .i64 0, .string ⟨#[47, 97, 47, 98, 47, 99]⟩, .string ⟨#[]⟩, .string ⟨#[]⟩] 28
     have HJ2 : Hid (_) := HJ1.out.kept HXCk.out
     go_upto_region 11 with fail
     rw [HXC.out.1, HXC.out.2]
     clear HXBk
     obtain ⟨V3, hV3⟩ : ∃ V3, V2 = V3 := ⟨_, rfl⟩
     have HC3 : Hid (V2.heap[XC]? = some (.cells #[.int .i64 1, .int .i64 0, .int .i64 0, .int .i64 0, .int .i64 0, .string ⟨#[47, 97, 47, 98, 47, 99]⟩, .string ⟨#[]⟩, .string ⟨#[]⟩] 28 (0, 0))) := HXCb.out
     have HJ3 : Hid (_) := HJ2.out
     rw [hV3] at HJ3 HC3 ⊢
     clear hV3 HXC HXCk HXCb HJ2 HJ1
     obtain ⟨x0, x1, x2⟩ := cells3D HJ3.out.box
     obtain ⟨y0, y1, y2, y3, y4, y5, y6, y7⟩ := cells8D HC3.out
     go_wp2_with fail
     refine (l_Do HJ3.out.os bd4d_2 (hT.out.kept HJ3.out.k) ⟨1, 0, 0, 0, 0, ⟨#[47, 97, 47, 98, 47, 99]⟩, ⟨#[]⟩, ⟨#[]⟩⟩ (by decide) de4d_2).mono ?_
     rintro e V4 ⟨a1, b1, d1, eu, z1, l1, k1, rfl, ho, hsr, -, k4, -⟩
     dsimp only at ho ⊢
     obtain ⟨p1, m1, q1, n1, r1, t1, rfl, rfl, rfl⟩ := forms3 ho 4 0 1 rfl rfl rfl
     clear x0 x1 x2
     clear y0 y1 y2 y3 y4 y5 y6 y7
     have HO4 : Hid (Os V4 w.heap.size (.slice p1 4 m1) (.slice q1 0 n1) (.slice r1 1 t1) eu dp4d_3) := ho.less HJ3.out.k.size
     have HJ4 : Hid (_) := HJ3.out.kept k4
     have HOx : Hid (_) := off_lt ho (lt_of_heap HJ3.out.box)
     clear ho hsr k4 HJ3 HC3
     obtain ⟨V5, XT, HXT, HXTk, HXTb⟩ := boxes2 V4 #[.slice p1 4 m1, .slice q1 0 n1, .slice r1 1 t1] #[.int .i64 0, .int .i64 0, .int .i64 0, .bool false, .string ⟨#[]⟩, .slice z1 l1 k1] 26 32
     have HJ5 : Hid (_) := HJ4.out.kept HXTk.out
     have HO5 : Hid (_) := HO4.out.kept HXTk.out
     go_upto_region 14 with fail
     rw [HXT.out.1, HXT.out.2]
     obtain ⟨x0, x1, x2⟩ := cells3D HJ5.out.box
     have r0' : V5.cell? ⟨XT + 1, 0, none⟩ = some (.int .i64 0) := cellB HXTb.out.2.1
     clear HJ4 HO4 HXTk
     go_wp2_with fail
     refine (l_code HJ5.out.os bd4d_2 (hT.out.kept HJ5.out.k) ⟨13, 0, 0, 0, 0, ⟨#[47, 97, 47, 98, 47, 99]⟩, ⟨#[]⟩, ⟨#[]⟩⟩ (by decide) df4d_2).mono ?_
     rintro e V6 ⟨rfl, k6⟩
     have HJ6 : Hid (_) := HJ5.out.kept k6
     have HO6 : Hid (_) := HO5.out.kept k6
     have HT6 : Hid (V6.heap[XT]? = _) := (k6.block _ (lt_of_heap HXTb.out.1) (by simp)).trans HXTb.out.1
     clear k6 r0' HJ5 HO5 HXT HXTb
     clear x0 x1 x2
     obtain ⟨x0, x1, x2⟩ := cells3D HT6.out
     obtain ⟨y0, y1, y2⟩ := cells3D HJ6.out.box
     have z0 := frozen_of HJ6.out.box 0
     have z1' := frozen_of HJ6.out.box 1
     have z2 := frozen_of HJ6.out.box 2
     have HE : Hid (_) := HJ6.out.put HO6.out HOx.out
     go_wp2_with fail
     go_roundw
     case rel => exact ⟨_, _, _, _, Or.inr (Or.inr (Or.inr (Or.inl ⟨rfl, rfl, HE.out⟩)))⟩
     case measure => simp [intOf]
   · obtain ⟨p0, m0, q0, n0, r0, t0, rfl, rfl, rfl⟩ := forms3 HJ.out.os 4 0 1 rfl rfl rfl
     obtain ⟨V1, XB, HXB, HXBk, HXBb⟩ := boxR wr #[.int .u8 100] 5
     have hcv : (convert 48 9 (.slice (some ⟨XB, 0, none⟩) 1 1)).run Tryz.prog V1 = .ok (.string ⟨#[100]⟩) V1 := conv_one 100 (by decide) HXBb.out
     have hal := HXB.out.1
     have hsz := HXB.out.2
     have HJ1 : Hid (_) := HJ.out.kept HXBk.out
     go_upto_region 10 with fail
     have hstr : (⟨#[47, 97, 47, 98, 47, 99]⟩ ++ ⟨#[47]⟩ ++ ⟨#[100]⟩ : ByteArray) = ⟨#[47, 97, 47, 98, 47, 99, 47, 100]⟩ := by decide +kernel
     rw [hstr]
     clear hstr hcv hal hsz HXB HXBb HJ
     obtain ⟨V2, XC, HXC, HXCk, HXCb⟩ := boxR V1 #[.int .i64 1, .int .i64 0, .int .i64 0, .int .i64 0, .int .i64 0, .string ⟨#[47, 97, 47, 98, 47, 99, 47, 100]⟩, .string ⟨#[]⟩, .string ⟨#[]⟩] 28
     have HJ2 : Hid (_) := HJ1.out.kept HXCk.out
     go_upto_region 11 with fail
     rw [HXC.out.1, HXC.out.2]
     clear HXBk
     obtain ⟨V3, hV3⟩ : ∃ V3, V2 = V3 := ⟨_, rfl⟩
     have HC3 : Hid (V2.heap[XC]? = some (.cells #[.int .i64 1, .int .i64 0, .int .i64 0, .int .i64 0, .int .i64 0, .string ⟨#[47, 97, 47, 98, 47, 99, 47, 100]⟩, .string ⟨#[]⟩, .string ⟨#[]⟩] 28 (0, 0))) := HXCb.out
     have HJ3 : Hid (_) := HJ2.out
     rw [hV3] at HJ3 HC3 ⊢
     clear hV3 HXC HXCk HXCb HJ2 HJ1
     obtain ⟨x0, x1, x2⟩ := cells3D HJ3.out.box
     obtain ⟨y0, y1, y2, y3, y4, y5, y6, y7⟩ := cells8D HC3.out
     go_wp2_with fail
     refine (l_Do HJ3.out.os bd4d_3 (hT.out.kept HJ3.out.k) ⟨1, 0, 0, 0, 0, ⟨#[47, 97, 47, 98, 47, 99, 47, 100]⟩, ⟨#[]⟩, ⟨#[]⟩⟩ (by decide) de4d_3).mono ?_
     rintro e V4 ⟨a1, b1, d1, eu, z1, l1, k1, rfl, ho, hsr, -, k4, -⟩
     dsimp only at ho ⊢
     obtain ⟨p1, m1, q1, n1, r1, t1, rfl, rfl, rfl⟩ := forms3 ho 5 0 1 rfl rfl rfl
     clear x0 x1 x2
     clear y0 y1 y2 y3 y4 y5 y6 y7
     have HO4 : Hid (Os V4 w.heap.size (.slice p1 5 m1) (.slice q1 0 n1) (.slice r1 1 t1) eu dp4d_4) := ho.less HJ3.out.k.size
     have HJ4 : Hid (_) := HJ3.out.kept k4
     have HOx : Hid (_) := off_lt ho (lt_of_heap HJ3.out.box)
     clear ho hsr k4 HJ3 HC3
     obtain ⟨V5, XT, HXT, HXTk, HXTb⟩ := boxes2 V4 #[.slice p1 5 m1, .slice q1 0 n1, .slice r1 1 t1] #[.int .i64 0, .int .i64 0, .int .i64 0, .bool false, .string ⟨#[]⟩, .slice z1 l1 k1] 26 32
     have HJ5 : Hid (_) := HJ4.out.kept HXTk.out
     have HO5 : Hid (_) := HO4.out.kept HXTk.out
     go_upto_region 14 with fail
     rw [HXT.out.1, HXT.out.2]
     obtain ⟨x0, x1, x2⟩ := cells3D HJ5.out.box
     have r0' : V5.cell? ⟨XT + 1, 0, none⟩ = some (.int .i64 0) := cellB HXTb.out.2.1
     clear HJ4 HO4 HXTk
     go_wp2_with fail
     refine (l_code HJ5.out.os bd4d_3 (hT.out.kept HJ5.out.k) ⟨13, 0, 0, 0, 0, ⟨#[47, 97, 47, 98, 47, 99, 47, 100]⟩, ⟨#[]⟩, ⟨#[]⟩⟩ (by decide) df4d_3).mono ?_
     rintro e V6 ⟨rfl, k6⟩
     have HJ6 : Hid (_) := HJ5.out.kept k6
     have HO6 : Hid (_) := HO5.out.kept k6
     have HT6 : Hid (V6.heap[XT]? = _) := (k6.block _ (lt_of_heap HXTb.out.1) (by simp)).trans HXTb.out.1
     clear k6 r0' HJ5 HO5 HXT HXTb
     clear x0 x1 x2
     obtain ⟨x0, x1, x2⟩ := cells3D HT6.out
     obtain ⟨y0, y1, y2⟩ := cells3D HJ6.out.box
     have z0 := frozen_of HJ6.out.box 0
     have z1' := frozen_of HJ6.out.box 1
     have z2 := frozen_of HJ6.out.box 2
     have HE : Hid (_) := HJ6.out.put HO6.out HOx.out
     go_wp2_with fail
     go_roundw
     case rel => exact ⟨_, _, _, _, Or.inr (Or.inr (Or.inr (Or.inr ⟨rfl, rfl, HE.out⟩)))⟩
     case measure => simp [intOf]
   · obtain ⟨p0, m0, q0, n0, r0, t0, rfl, rfl, rfl⟩ := forms3 HJ.out.os 5 0 1 rfl rfl rfl
     obtain ⟨x0, x1, x2⟩ := cells3D HJ.out.box
     go_wp2_with fail
     refine (l_Do HJ.out.os bd4d_4 (hT.out.kept HJ.out.k) ⟨11, 0, 0, 0, 0, ⟨#[47, 97]⟩, ⟨#[47, 122]⟩, ⟨#[]⟩⟩ (by decide) dr4d).mono ?_
     rintro e V4 ⟨a1, b1, d1, eu, z1, l1, k1, rfl, ho, hsr, -, k4, -⟩
     dsimp only at ho ⊢
     obtain ⟨p1, m1, q1, n1, r1, t1, rfl, rfl, rfl⟩ := forms3 ho 5 0 1 rfl rfl rfl
     clear x0 x1 x2
     have HO4 : Hid (Os V4 w.heap.size (.slice p1 5 m1) (.slice q1 0 n1) (.slice r1 1 t1) eu dz4d) := ho.less HJ.out.k.size
     have HJ4 : Hid (_) := HJ.out.kept k4
     clear ho hsr k4 HJ
     obtain ⟨V5, XT, HXT, HXTk, HXTb⟩ := boxes2 V4 #[.slice p1 5 m1, .slice q1 0 n1, .slice r1 1 t1] #[.int .i64 0, .int .i64 0, .int .i64 0, .bool false, .string ⟨#[]⟩, .slice z1 l1 k1] 26 32
     have HJ5 : Hid (_) := HJ4.out.kept HXTk.out
     have HO5 : Hid (_) := HO4.out.kept HXTk.out
     go_upto_region 18 with fail
     rw [HXT.out.1, HXT.out.2]
     obtain ⟨XR, hXR⟩ : ∃ XR, XT + 1 = XR := ⟨_, rfl⟩
     rw [hXR] at HXTb ⊢
     have HT5 : Hid (_) := HXTb.out.1
     have HR5 : Hid (_) := HXTb.out.2.1
     clear HJ4 HO4 HXTk HXT HXTb hXR
     go_upto_region 19 with fail
     have hq9 : (⟨#[47, 122]⟩ ++ (⟨#[47, 97, 47, 98, 47, 99, 47, 100]⟩ : ByteArray).extract 2 8 : ByteArray) = ⟨#[47, 122, 47, 98, 47, 99, 47, 100]⟩ := by decide +kernel
     rw [hq9]
     clear hq9
     obtain ⟨x0, x1, x2⟩ := cells3D HJ5.out.box
     have hstr : (⟨#[47, 97, 47, 98, 47, 99, 47, 100]⟩ ++ ⟨#[47, 110]⟩ : ByteArray) = ⟨#[47, 97, 47, 98, 47, 99, 47, 100, 47, 110]⟩ := by decide +kernel
     go_wp2_with fail
     try rw [hstr]
     refine (l_code HJ5.out.os bd4d_4 (hT.out.kept HJ5.out.k) ⟨0, 0, 0, 0, 0, ⟨#[47, 97, 47, 98, 47, 99, 47, 100, 47, 110]⟩, ⟨#[]⟩, ⟨#[]⟩⟩ (by decide) rfl).mono ?_
     rintro e V6 ⟨rfl, k6⟩
     rw [db4d]
     have HO6 : Hid (_) := HO5.out.kept k6
     have HK6 : Hid (Kept [] w V6) := HJ5.out.k.trans k6 (by simp)
     have HT6 : Hid (V6.heap[XT]? = _) := (k6.block _ (lt_of_heap HT5.out) (by simp)).trans HT5.out
     have HR6 : Hid (V6.heap[XR]? = _) := (k6.block _ (lt_of_heap HR5.out) (by simp)).trans HR5.out
     clear k6 hstr HJ5 HO5 HT5 HR5
     clear x0 x1 x2
     obtain ⟨x0, x1, x2⟩ := cells3D HT6.out
     have r0' : V6.cell? ⟨XR, 0, none⟩ = some (.int .i64 0) := cellB HR6.out
     go_wp2_with fail
     refine (l_code HO6.out bz4d (hT.out.kept HK6.out) ⟨13, 0, 0, 0, 0, ⟨#[47, 122, 47, 98, 47, 99, 47, 100]⟩, ⟨#[]⟩, ⟨#[]⟩⟩ (by decide) rfl).mono ?_
     rintro e V7 ⟨rfl, k7⟩
     rw [dq4d]
     have HO7 : Hid (_) := HO6.out.kept k7
     have HK7 : Hid (Kept [] w V7) := HK6.out.trans k7 (by simp)
     have HT7 : Hid (V7.heap[XT]? = _) := (k7.block _ (lt_of_heap HT6.out) (by simp)).trans HT6.out
     clear k7 r0' HO6 HT6 HR6 HK6
     clear x0 x1 x2
     obtain ⟨x0, x1, x2⟩ := cells3D HT7.out
     go_wp2_with fail
     refine (l_code HO7.out bz4d (hT.out.kept HK7.out) ⟨13, 0, 0, 0, 0, ⟨#[47, 97, 47, 98, 47, 99, 47, 100]⟩, ⟨#[]⟩, ⟨#[]⟩⟩ (by decide) rfl).mono ?_
     rintro e V8 ⟨rfl, k8⟩
     rw [dg4d]
     have HK8 : Hid (Kept [] w V8) := HK7.out.trans k8 (by simp)
     clear k8 HO7 HT7 HK7
     clear x0 x1 x2
     go_wp2_with fail
     go_ret
     exact ⟨rfl, HK8.out⟩
def dp4f_0 : Sta := ⟨[⟨1, true, [], ⟨#[]⟩⟩], [], [0]⟩
def dp4f_1 : Sta := ⟨[⟨1, true, [(⟨#[97]⟩, 2)], ⟨#[]⟩⟩, ⟨2, true, [], ⟨#[]⟩⟩], [], [1]⟩
def dp4f_2 : Sta := ⟨[⟨1, true, [(⟨#[97]⟩, 2)], ⟨#[]⟩⟩, ⟨2, true, [(⟨#[98]⟩, 10)], ⟨#[]⟩⟩, ⟨10, true, [], ⟨#[]⟩⟩], [], [2]⟩
def dp4f_3 : Sta := ⟨[⟨1, true, [(⟨#[97]⟩, 2)], ⟨#[]⟩⟩, ⟨2, true, [(⟨#[98]⟩, 10)], ⟨#[]⟩⟩, ⟨10, true, [(⟨#[99]⟩, 18)], ⟨#[]⟩⟩, ⟨18, true, [], ⟨#[]⟩⟩], [], [3]⟩
def dp4f_4 : Sta := ⟨[⟨1, true, [(⟨#[97]⟩, 2)], ⟨#[]⟩⟩, ⟨2, true, [(⟨#[98]⟩, 10)], ⟨#[]⟩⟩, ⟨10, true, [(⟨#[99]⟩, 18)], ⟨#[]⟩⟩, ⟨18, true, [(⟨#[100]⟩, 26)], ⟨#[]⟩⟩, ⟨26, false, [], ⟨#[]⟩⟩], [], [4]⟩
def dz4f : Sta := ⟨[⟨1, true, [(⟨#[122]⟩, 2)], ⟨#[]⟩⟩, ⟨2, true, [(⟨#[98]⟩, 10)], ⟨#[]⟩⟩, ⟨10, true, [(⟨#[99]⟩, 18)], ⟨#[]⟩⟩, ⟨18, true, [(⟨#[100]⟩, 26)], ⟨#[]⟩⟩, ⟨26, false, [], ⟨#[]⟩⟩], [], [4]⟩
theorem de4f_0 : playR dp4f_0 ⟨1, 0, 0, 0, 0, ⟨#[47, 97]⟩, ⟨#[]⟩, ⟨#[]⟩⟩ headI = (dp4f_1, ansC 0) := by kernel_rfl
theorem df4f_0 : playR dp4f_0 ⟨13, 0, 0, 0, 0, ⟨#[47, 97]⟩, ⟨#[]⟩, ⟨#[]⟩⟩ headI = (dp4f_0, ansC 1) := by kernel_rfl
theorem de4f_1 : playR dp4f_1 ⟨1, 0, 0, 0, 0, ⟨#[47, 97, 47, 98]⟩, ⟨#[]⟩, ⟨#[]⟩⟩ headI = (dp4f_2, ansC 0) := by kernel_rfl
theorem df4f_1 : playR dp4f_1 ⟨13, 0, 0, 0, 0, ⟨#[47, 97, 47, 98]⟩, ⟨#[]⟩, ⟨#[]⟩⟩ headI = (dp4f_1, ansC 1) := by kernel_rfl
theorem de4f_2 : playR dp4f_2 ⟨1, 0, 0, 0, 0, ⟨#[47, 97, 47, 98, 47, 99]⟩, ⟨#[]⟩, ⟨#[]⟩⟩ headI = (dp4f_3, ansC 0) := by kernel_rfl
theorem df4f_2 : playR dp4f_2 ⟨13, 0, 0, 0, 0, ⟨#[47, 97, 47, 98, 47, 99]⟩, ⟨#[]⟩, ⟨#[]⟩⟩ headI = (dp4f_2, ansC 1) := by kernel_rfl
theorem de4f_3 : playR dp4f_3 ⟨0, 0, 0, 0, 0, ⟨#[47, 97, 47, 98, 47, 99, 47, 100]⟩, ⟨#[]⟩, ⟨#[]⟩⟩ headI = (dp4f_4, ansC 0) := by kernel_rfl
theorem df4f_3 : playR dp4f_3 ⟨13, 0, 0, 0, 0, ⟨#[47, 97, 47, 98, 47, 99, 47, 100]⟩, ⟨#[]⟩, ⟨#[]⟩⟩ headI = (dp4f_3, ansC 1) := by kernel_rfl
theorem dr4f : playR dp4f_4 ⟨11, 0, 0, 0, 0, ⟨#[47, 97]⟩, ⟨#[47, 122]⟩, ⟨#[]⟩⟩ headI = (dz4f, ansC 0) := by kernel_rfl
theorem db4f : (playR dp4f_4 ⟨0, 0, 0, 0, 0, ⟨#[47, 97, 47, 98, 47, 99, 47, 100, 47, 110]⟩, ⟨#[]⟩, ⟨#[]⟩⟩ headI).2.code = 6 := by kernel_rfl
theorem dq4f : (playR dz4f ⟨13, 0, 0, 0, 0, ⟨#[47, 122, 47, 98, 47, 99, 47, 100]⟩, ⟨#[]⟩, ⟨#[]⟩⟩ headI).2.code = 0 := by kernel_rfl
theorem dg4f : (playR dz4f ⟨13, 0, 0, 0, 0, ⟨#[47, 97, 47, 98, 47, 99, 47, 100]⟩, ⟨#[]⟩, ⟨#[]⟩⟩ headI).2.code = 1 := by kernel_rfl
theorem bd4f_0 : Bd dp4f_0 := bd_of (by kernel_rfl)
theorem bd4f_1 : Bd dp4f_1 := bd_of (by kernel_rfl)
theorem bd4f_2 : Bd dp4f_2 := bd_of (by kernel_rfl)
theorem bd4f_3 : Bd dp4f_3 := bd_of (by kernel_rfl)
theorem bd4f_4 : Bd dp4f_4 := bd_of (by kernel_rfl)
theorem bz4f : Bd dz4f := bd_of (by kernel_rfl)
set_option maxRecDepth 100000 in
set_option maxHeartbeats 8000000 in
theorem deep4f {w : World} (hT0 : Tab w) (many : Int) (hm : bits .and .i64 many 3 = 3) :
   Calls Tryz.prog 6 #[.int .i64 many, .bool true] w fun e w' => e = .returned (.bool true) ∧ Kept [] w w' := by
 have hT : Hid (Tab w) := hT0
 have HR1 : Hid (∀ W, Calls Tryz.prog 13 #[.int .i64 1] W (News W 1)) := fun W => r_New (n := 1) (by decide) (by decide)
 clear hT0
 go_enter Tryz.func6, Tryz.ntmps6
 go_wp2_with fail
 refine (awake_any hT.out).mono ?_
 rintro e w1 ⟨rfl, k1⟩
 have HK1 : Hid (Kept [] w w1) := k1
 clear k1
 go_wp2_with fail
 refine (HR1.out w1).mono ?_
 rintro e w2 ⟨a0, b0, d0, ev, rfl, ho, k2, -⟩
 replace ho : Os w2 w1.heap.size a0 b0 d0 ev dp4f_0 := ho
 have HK2 : Hid (Kept [] w w2) := HK1.out.trans k2 (by simp)
 obtain ⟨p0, m0, q0, n0, r0, t0, rfl, rfl, rfl⟩ := forms3 ho 1 0 1 rfl rfl rfl
 have HO2 : Hid (Os w2 w.heap.size (.slice p0 1 m0) (.slice q0 0 n0) (.slice r0 1 t0) ev dp4f_0) := ho.less HK1.out.size
 clear ho k2
 obtain ⟨W3, X, HX, HXk, HXb⟩ := boxR w2 #[.slice p0 1 m0, .slice q0 0 n0, .slice r0 1 t0] 26
 have HB3 : Hid (Hb w W3 X (.slice p0 1 m0) (.slice q0 0 n0) (.slice r0 1 t0) ev dp4f_0) := Hb.new HK2.out HO2.out HX.out
 go_upto_region 4 with fail
 rw [HX.out.1, HX.out.2]
 clear HX HXk HXb HO2
 go_wp2_with fail
 go_loopw [8, 9] (fun u i wr => ∃ v1 v2 v3 ev, (i = .int .i64 0 ∧ u = .string ⟨#[]⟩ ∧ Hid (Hb w wr X v1 v2 v3 ev dp4f_0)) ∨ (i = .int .i64 1 ∧ u = .string ⟨#[47, 97]⟩ ∧ Hid (Hb w wr X v1 v2 v3 ev dp4f_1)) ∨ (i = .int .i64 2 ∧ u = .string ⟨#[47, 97, 47, 98]⟩ ∧ Hid (Hb w wr X v1 v2 v3 ev dp4f_2)) ∨ (i = .int .i64 3 ∧ u = .string ⟨#[47, 97, 47, 98, 47, 99]⟩ ∧ Hid (Hb w wr X v1 v2 v3 ev dp4f_3)) ∨ (i = .int .i64 4 ∧ u = .string ⟨#[47, 97, 47, 98, 47, 99, 47, 100]⟩ ∧ Hid (Hb w wr X v1 v2 v3 ev dp4f_4))) (fun _ i _ => (4 - intOf i).toNat)
 case atStart => exact ⟨_, _, _, _, Or.inl ⟨rfl, rfl, HB3.out⟩⟩
 case round =>
   obtain ⟨a0, b0, d0, ev, hc⟩ := hrel
   rcases hc with ⟨rfl, rfl, HJ⟩ | ⟨rfl, rfl, HJ⟩ | ⟨rfl, rfl, HJ⟩ | ⟨rfl, rfl, HJ⟩ | ⟨rfl, rfl, HJ⟩
   · obtain ⟨p0, m0, q0, n0, r0, t0, rfl, rfl, rfl⟩ := forms3 HJ.out.os 1 0 1 rfl rfl rfl
     obtain ⟨V1, XB, HXB, HXBk, HXBb⟩ := boxR wr #[.int .u8 97] 5
     have hcv : (convert 48 9 (.slice (some ⟨XB, 0, none⟩) 1 1)).run Tryz.prog V1 = .ok (.string ⟨#[97]⟩) V1 := conv_one 97 (by decide) HXBb.out
     have hal := HXB.out.1
     have hsz := HXB.out.2
     have HJ1 : Hid (_) := HJ.out.kept HXBk.out
     go_upto_region 10 with fail
     have hstr : (⟨#[]⟩ ++ ⟨#[47]⟩ ++ ⟨#[97]⟩ : ByteArray) = ⟨#[47, 97]⟩ := by decide +kernel
     rw [hstr]
     clear hstr hcv hal hsz HXB HXBb HJ
     obtain ⟨V2, XC, HXC, HXCk, HXCb⟩ := boxR V1 #[.int .i64 1, .int .i64 0, .int .i64 0, .int .i64 0, .int .i64 0, .string ⟨#[47, 97]⟩, .string ⟨#[]⟩, .string ⟨#[]⟩] 28
     have HJ2 : Hid (_) := HJ1.out.kept HXCk.out
     go_upto_region 11 with fail
     rw [HXC.out.1, HXC.out.2]
     clear HXBk
     obtain ⟨V3, hV3⟩ : ∃ V3, V2 = V3 := ⟨_, rfl⟩
     have HC3 : Hid (V2.heap[XC]? = some (.cells #[.int .i64 1, .int .i64 0, .int .i64 0, .int .i64 0, .int .i64 0, .string ⟨#[47, 97]⟩, .string ⟨#[]⟩, .string ⟨#[]⟩] 28 (0, 0))) := HXCb.out
     have HJ3 : Hid (_) := HJ2.out
     rw [hV3] at HJ3 HC3 ⊢
     clear hV3 HXC HXCk HXCb HJ2 HJ1
     obtain ⟨x0, x1, x2⟩ := cells3D HJ3.out.box
     obtain ⟨y0, y1, y2, y3, y4, y5, y6, y7⟩ := cells8D HC3.out
     go_wp2_with fail
     refine (l_Do HJ3.out.os bd4f_0 (hT.out.kept HJ3.out.k) ⟨1, 0, 0, 0, 0, ⟨#[47, 97]⟩, ⟨#[]⟩, ⟨#[]⟩⟩ (by decide) de4f_0).mono ?_
     rintro e V4 ⟨a1, b1, d1, eu, z1, l1, k1, rfl, ho, hsr, -, k4, -⟩
     dsimp only at ho ⊢
     obtain ⟨p1, m1, q1, n1, r1, t1, rfl, rfl, rfl⟩ := forms3 ho 2 0 1 rfl rfl rfl
     clear x0 x1 x2
     clear y0 y1 y2 y3 y4 y5 y6 y7
     have HO4 : Hid (Os V4 w.heap.size (.slice p1 2 m1) (.slice q1 0 n1) (.slice r1 1 t1) eu dp4f_1) := ho.less HJ3.out.k.size
     have HJ4 : Hid (_) := HJ3.out.kept k4
     have HOx : Hid (_) := off_lt ho (lt_of_heap HJ3.out.box)
     clear ho hsr k4 HJ3 HC3
     obtain ⟨V5, XT, HXT, HXTk, HXTb⟩ := boxes2 V4 #[.slice p1 2 m1, .slice q1 0 n1, .slice r1 1 t1] #[.int .i64 0, .int .i64 0, .int .i64 0, .bool false, .string ⟨#[]⟩, .slice z1 l1 k1] 26 32
     have HJ5 : Hid (_) := HJ4.out.kept HXTk.out
     have HO5 : Hid (_) := HO4.out.kept HXTk.out
     go_upto_region 14 with fail
     rw [HXT.out.1, HXT.out.2]
     obtain ⟨x0, x1, x2⟩ := cells3D HJ5.out.box
     have r0' : V5.cell? ⟨XT + 1, 0, none⟩ = some (.int .i64 0) := cellB HXTb.out.2.1
     clear HJ4 HO4 HXTk
     go_wp2_with fail
     refine (l_code HJ5.out.os bd4f_0 (hT.out.kept HJ5.out.k) ⟨13, 0, 0, 0, 0, ⟨#[47, 97]⟩, ⟨#[]⟩, ⟨#[]⟩⟩ (by decide) df4f_0).mono ?_
     rintro e V6 ⟨rfl, k6⟩
     have HJ6 : Hid (_) := HJ5.out.kept k6
     have HO6 : Hid (_) := HO5.out.kept k6
     have HT6 : Hid (V6.heap[XT]? = _) := (k6.block _ (lt_of_heap HXTb.out.1) (by simp)).trans HXTb.out.1
     clear k6 r0' HJ5 HO5 HXT HXTb
     clear x0 x1 x2
     obtain ⟨x0, x1, x2⟩ := cells3D HT6.out
     obtain ⟨y0, y1, y2⟩ := cells3D HJ6.out.box
     have z0 := frozen_of HJ6.out.box 0
     have z1' := frozen_of HJ6.out.box 1
     have z2 := frozen_of HJ6.out.box 2
     have HE : Hid (_) := HJ6.out.put HO6.out HOx.out
     go_wp2_with fail
     go_roundw
     case rel => exact ⟨_, _, _, _, Or.inr (Or.inl ⟨rfl, rfl, HE.out⟩)⟩
     case measure => simp [intOf]
   · obtain ⟨p0, m0, q0, n0, r0, t0, rfl, rfl, rfl⟩ := forms3 HJ.out.os 2 0 1 rfl rfl rfl
     obtain ⟨V1, XB, HXB, HXBk, HXBb⟩ := boxR wr #[.int .u8 98] 5
     have hcv : (convert 48 9 (.slice (some ⟨XB, 0, none⟩) 1 1)).run Tryz.prog V1 = .ok (.string ⟨#[98]⟩) V1 := conv_one 98 (by decide) HXBb.out
     have hal := HXB.out.1
     have hsz := HXB.out.2
     have HJ1 : Hid (_) := HJ.out.kept HXBk.out
     go_upto_region 10 with fail
     have hstr : (⟨#[47, 97]⟩ ++ ⟨#[47]⟩ ++ ⟨#[98]⟩ : ByteArray) = ⟨#[47, 97, 47, 98]⟩ := by decide +kernel
     rw [hstr]
     clear hstr hcv hal hsz HXB HXBb HJ
     obtain ⟨V2, XC, HXC, HXCk, HXCb⟩ := boxR V1 #[.int .i64 1, .int .i64 0, .int .i64 0, .int .i64 0, .int .i64 0, .string ⟨#[47, 97, 47, 98]⟩, .string ⟨#[]⟩, .string ⟨#[]⟩] 28
     have HJ2 : Hid (_) := HJ1.out.kept HXCk.out
     go_upto_region 11 with fail
     rw [HXC.out.1, HXC.out.2]
     clear HXBk
     obtain ⟨V3, hV3⟩ : ∃ V3, V2 = V3 := ⟨_, rfl⟩
     have HC3 : Hid (V2.heap[XC]? = some (.cells #[.int .i64 1, .int .i64 0, .int .i64 0, .int .i64 0, .int .i64 0, .string ⟨#[47, 97, 47, 98]⟩, .string ⟨#[]⟩, .string ⟨#[]⟩] 28 (0, 0))) := HXCb.out
     have HJ3 : Hid (_) := HJ2.out
     rw [hV3] at HJ3 HC3 ⊢
     clear hV3 HXC HXCk HXCb HJ2 HJ1
     obtain ⟨x0, x1, x2⟩ := cells3D HJ3.out.box
     obtain ⟨y0, y1, y2, y3, y4, y5, y6, y7⟩ := cells8D HC3.out
     go_wp2_with fail
     refine (l_Do HJ3.out.os bd4f_1 (hT.out.kept HJ3.out.k) ⟨1, 0, 0, 0, 0, ⟨#[47, 97, 47, 98]⟩, ⟨#[]⟩, ⟨#[]⟩⟩ (by decide) de4f_1).mono ?_
     rintro e V4 ⟨a1, b1, d1, eu, z1, l1, k1, rfl, ho, hsr, -, k4, -⟩
     dsimp only at ho ⊢
     obtain ⟨p1, m1, q1, n1, r1, t1, rfl, rfl, rfl⟩ := forms3 ho 3 0 1 rfl rfl rfl
     clear x0 x1 x2
     clear y0 y1 y2 y3 y4 y5 y6 y7
     have HO4 : Hid (Os V4 w.heap.size (.slice p1 3 m1) (.slice q1 0 n1) (.slice r1 1 t1) eu dp4f_2) := ho.less HJ3.out.k.size
     have HJ4 : Hid (_) := HJ3.out.kept k4
     have HOx : Hid (_) := off_lt ho (lt_of_heap HJ3.out.box)
     clear ho hsr k4 HJ3 HC3
     obtain ⟨V5, XT, HXT, HXTk, HXTb⟩ := boxes2 V4 #[.slice p1 3 m1, .slice q1 0 n1, .slice r1 1 t1] #[.int .i64 0, .int .i64 0, .int .i64 0, .bool false, .string ⟨#[]⟩, .slice z1 l1 k1] 26 32
     have HJ5 : Hid (_) := HJ4.out.kept HXTk.out
     have HO5 : Hid (_) := HO4.out.kept HXTk.out
     go_upto_region 14 with fail
     rw [HXT.out.1, HXT.out.2]
     obtain ⟨x0, x1, x2⟩ := cells3D HJ5.out.box
     have r0' : V5.cell? ⟨XT + 1, 0, none⟩ = some (.int .i64 0) := cellB HXTb.out.2.1
     clear HJ4 HO4 HXTk
     go_wp2_with fail
     refine (l_code HJ5.out.os bd4f_1 (hT.out.kept HJ5.out.k) ⟨13, 0, 0, 0, 0, ⟨#[47, 97, 47, 98]⟩, ⟨#[]⟩, ⟨#[]⟩⟩ (by decide) df4f_1).mono ?_
     rintro e V6 ⟨rfl, k6⟩
     have HJ6 : Hid (_) := HJ5.out.kept k6
     have HO6 : Hid (_) := HO5.out.kept k6
     have HT6 : Hid (V6.heap[XT]? = _) := (k6.block _ (lt_of_heap HXTb.out.1) (by simp)).trans HXTb.out.1
     clear k6 r0' HJ5 HO5 HXT HXTb
     clear x0 x1 x2
     obtain ⟨x0, x1, x2⟩ := cells3D HT6.out
     obtain ⟨y0, y1, y2⟩ := cells3D HJ6.out.box
     have z0 := frozen_of HJ6.out.box 0
     have z1' := frozen_of HJ6.out.box 1
     have z2 := frozen_of HJ6.out.box 2
     have HE : Hid (_) := HJ6.out.put HO6.out HOx.out
     go_wp2_with fail
     go_roundw
     case rel => exact ⟨_, _, _, _, Or.inr (Or.inr (Or.inl ⟨rfl, rfl, HE.out⟩))⟩
     case measure => simp [intOf]
   · obtain ⟨p0, m0, q0, n0, r0, t0, rfl, rfl, rfl⟩ := forms3 HJ.out.os 3 0 1 rfl rfl rfl
     obtain ⟨V1, XB, HXB, HXBk, HXBb⟩ := boxR wr #[.int .u8 99] 5
     have hcv : (convert 48 9 (.slice (some ⟨XB, 0, none⟩) 1 1)).run Tryz.prog V1 = .ok (.string ⟨#[99]⟩) V1 := conv_one 99 (by decide) HXBb.out
     have hal := HXB.out.1
     have hsz := HXB.out.2
     have HJ1 : Hid (_) := HJ.out.kept HXBk.out
     go_upto_region 10 with fail
     have hstr : (⟨#[47, 97, 47, 98]⟩ ++ ⟨#[47]⟩ ++ ⟨#[99]⟩ : ByteArray) = ⟨#[47, 97, 47, 98, 47, 99]⟩ := by decide +kernel
     rw [hstr]
     clear hstr hcv hal hsz HXB HXBb HJ
     obtain ⟨V2, XC, HXC, HXCk, HXCb⟩ := boxR V1 #[.int .i64 1, .int .i64 0, .int .i64 0, .int .i64 0, .int .i64 0, .string ⟨#[47, 97, 47, 98, 47, 99]⟩, .string ⟨#[]⟩, .string ⟨#[]⟩] 28
     have HJ2 : Hid (_) := HJ1.out.kept HXCk.out
     go_upto_region 11 with fail
     rw [HXC.out.1, HXC.out.2]
     clear HXBk
     obtain ⟨V3, hV3⟩ : ∃ V3, V2 = V3 := ⟨_, rfl⟩
     have HC3 : Hid (V2.heap[XC]? = some (.cells #[.int .i64 1, .int .i64 0, .int .i64 0, .int .i64 0, .int .i64 0, .string ⟨#[47, 97, 47, 98, 47, 99]⟩, .string ⟨#[]⟩, .string ⟨#[]⟩] 28 (0, 0))) := HXCb.out
     have HJ3 : Hid (_) := HJ2.out
     rw [hV3] at HJ3 HC3 ⊢
     clear hV3 HXC HXCk HXCb HJ2 HJ1
     obtain ⟨x0, x1, x2⟩ := cells3D HJ3.out.box
     obtain ⟨y0, y1, y2, y3, y4, y5, y6, y7⟩ := cells8D HC3.out
     go_wp2_with fail
     refine (l_Do HJ3.out.os bd4f_2 (hT.out.kept HJ3.out.k) ⟨1, 0, 0, 0, 0, ⟨#[47, 97, 47, 98, 47, 99]⟩, ⟨#[]⟩, ⟨#[]⟩⟩ (by decide) de4f_2).mono ?_
     rintro e V4 ⟨a1, b1, d1, eu, z1, l1, k1, rfl, ho, hsr, -, k4, -⟩
     dsimp only at ho ⊢
     obtain ⟨p1, m1, q1, n1, r1, t1, rfl, rfl, rfl⟩ := forms3 ho 4 0 1 rfl rfl rfl
     clear x0 x1 x2
     clear y0 y1 y2 y3 y4 y5 y6 y7
     have HO4 : Hid (Os V4 w.heap.size (.slice p1 4 m1) (.slice q1 0 n1) (.slice r1 1 t1) eu dp4f_3) := ho.less HJ3.out.k.size
     have HJ4 : Hid (_) := HJ3.out.kept k4
     have HOx : Hid (_) := off_lt ho (lt_of_heap HJ3.out.box)
     clear ho hsr k4 HJ3 HC3
     obtain ⟨V5, XT, HXT, HXTk, HXTb⟩ := boxes2 V4 #[.slice p1 4 m1, .slice q1 0 n1, .slice r1 1 t1] #[.int .i64 0, .int .i64 0, .int .i64 0, .bool false, .string ⟨#[]⟩, .slice z1 l1 k1] 26 32
     have HJ5 : Hid (_) := HJ4.out.kept HXTk.out
     have HO5 : Hid (_) := HO4.out.kept HXTk.out
     go_upto_region 14 with fail
     rw [HXT.out.1, HXT.out.2]
     obtain ⟨x0, x1, x2⟩ := cells3D HJ5.out.box
     have r0' : V5.cell? ⟨XT + 1, 0, none⟩ = some (.int .i64 0) := cellB HXTb.out.2.1
     clear HJ4 HO4 HXTk
     go_wp2_with fail
     refine (l_code HJ5.out.os bd4f_2 (hT.out.kept HJ5.out.k) ⟨13, 0, 0, 0, 0, ⟨#[47, 97, 47, 98, 47, 99]⟩, ⟨#[]⟩, ⟨#[]⟩⟩ (by decide) df4f_2).mono ?_
     rintro e V6 ⟨rfl, k6⟩
     have HJ6 : Hid (_) := HJ5.out.kept k6
     have HO6 : Hid (_) := HO5.out.kept k6
     have HT6 : Hid (V6.heap[XT]? = _) := (k6.block _ (lt_of_heap HXTb.out.1) (by simp)).trans HXTb.out.1
     clear k6 r0' HJ5 HO5 HXT HXTb
     clear x0 x1 x2
     obtain ⟨x0, x1, x2⟩ := cells3D HT6.out
     obtain ⟨y0, y1, y2⟩ := cells3D HJ6.out.box
     have z0 := frozen_of HJ6.out.box 0
     have z1' := frozen_of HJ6.out.box 1
     have z2 := frozen_of HJ6.out.box 2
     have HE : Hid (_) := HJ6.out.put HO6.out HOx.out
     go_wp2_with fail
     go_roundw
     case rel => exact ⟨_, _, _, _, Or.inr (Or.inr (Or.inr (Or.inl ⟨rfl, rfl, HE.out⟩)))⟩
     case measure => simp [intOf]
   · obtain ⟨p0, m0, q0, n0, r0, t0, rfl, rfl, rfl⟩ := forms3 HJ.out.os 4 0 1 rfl rfl rfl
     obtain ⟨V1, XB, HXB, HXBk, HXBb⟩ := boxR wr #[.int .u8 100] 5
     have hcv : (convert 48 9 (.slice (some ⟨XB, 0, none⟩) 1 1)).run Tryz.prog V1 = .ok (.string ⟨#[100]⟩) V1 := conv_one 100 (by decide) HXBb.out
     have hal := HXB.out.1
     have hsz := HXB.out.2
     have HJ1 : Hid (_) := HJ.out.kept HXBk.out
     go_upto_region 10 with fail
     have hstr : (⟨#[47, 97, 47, 98, 47, 99]⟩ ++ ⟨#[47]⟩ ++ ⟨#[100]⟩ : ByteArray) = ⟨#[47, 97, 47, 98, 47, 99, 47, 100]⟩ := by decide +kernel
     rw [hstr]
     clear hstr hcv hal hsz HXB HXBb HJ
     obtain ⟨V2, XC, HXC, HXCk, HXCb⟩ := boxR V1 #[.int .i64 1, .int .i64 0, .int .i64 0, .int .i64 0, .int .i64 0, .string ⟨#[47, 97, 47, 98, 47, 99, 47, 100]⟩, .string ⟨#[]⟩, .string ⟨#[]⟩] 28
     have HJ2 : Hid (_) := HJ1.out.kept HXCk.out
     go_upto_region 11 with fail
     rw [HXC.out.1, HXC.out.2]
     clear HXBk
     have c0 : V2.cell? ⟨XC, 0, none⟩ = some (.int .i64 1) := cellB HXCb.out
     have z0 := frozen_of HXCb.out 0
     have HLC : Hid (V1.heap.size ≤ XC) := Nat.le_of_eq HXC.out.2
     have HJ3 : Hid (Hb w (V2.setCell ⟨XC, 0, none⟩ (.int .i64 0)) X (.slice p0 4 m0) (.slice q0 0 n0) (.slice r0 1 t0) ev dp4f_3) := HJ2.out.beside (by have h1 := HJ1.out.k.size; have h2 := HLC.out; omega) (by have h1 := lt_of_heap HJ1.out.box; have h2 := HLC.out; omega) (off_new HJ1.out.os HLC.out) 0 (.int .i64 0)
     have HC3 : Hid ((V2.setCell ⟨XC, 0, none⟩ (.int .i64 0)).heap[XC]? = some (.cells #[.int .i64 0, .int .i64 0, .int .i64 0, .int .i64 0, .int .i64 0, .string ⟨#[47, 97, 47, 98, 47, 99, 47, 100]⟩, .string ⟨#[]⟩, .string ⟨#[]⟩] 28 (0, 0))) := by
       rw [block_set HXCb.out]; rfl
     go_upto_region 13 with fail
     obtain ⟨V3, hV3⟩ : ∃ V3, V2.setCell ⟨XC, 0, none⟩ (.int .i64 0) = V3 := ⟨_, rfl⟩
     rw [hV3] at HJ3 HC3 ⊢
     clear hV3 HXC HXCk HXCb HJ2 HJ1 c0 z0 HLC
     obtain ⟨x0, x1, x2⟩ := cells3D HJ3.out.box
     obtain ⟨y0, y1, y2, y3, y4, y5, y6, y7⟩ := cells8D HC3.out
     go_wp2_with fail
     refine (l_Do HJ3.out.os bd4f_3 (hT.out.kept HJ3.out.k) ⟨0, 0, 0, 0, 0, ⟨#[47, 97, 47, 98, 47, 99, 47, 100]⟩, ⟨#[]⟩, ⟨#[]⟩⟩ (by decide) de4f_3).mono ?_
     rintro e V4 ⟨a1, b1, d1, eu, z1, l1, k1, rfl, ho, hsr, -, k4, -⟩
     dsimp only at ho ⊢
     obtain ⟨p1, m1, q1, n1, r1, t1, rfl, rfl, rfl⟩ := forms3 ho 5 0 1 rfl rfl rfl
     clear x0 x1 x2
     clear y0 y1 y2 y3 y4 y5 y6 y7
     have HO4 : Hid (Os V4 w.heap.size (.slice p1 5 m1) (.slice q1 0 n1) (.slice r1 1 t1) eu dp4f_4) := ho.less HJ3.out.k.size
     have HJ4 : Hid (_) := HJ3.out.kept k4
     have HOx : Hid (_) := off_lt ho (lt_of_heap HJ3.out.box)
     clear ho hsr k4 HJ3 HC3
     obtain ⟨V5, XT, HXT, HXTk, HXTb⟩ := boxes2 V4 #[.slice p1 5 m1, .slice q1 0 n1, .slice r1 1 t1] #[.int .i64 0, .int .i64 0, .int .i64 0, .bool false, .string ⟨#[]⟩, .slice z1 l1 k1] 26 32
     have HJ5 : Hid (_) := HJ4.out.kept HXTk.out
     have HO5 : Hid (_) := HO4.out.kept HXTk.out
     go_upto_region 14 with fail
     rw [HXT.out.1, HXT.out.2]
     obtain ⟨x0, x1, x2⟩ := cells3D HJ5.out.box
     have r0' : V5.cell? ⟨XT + 1, 0, none⟩ = some (.int .i64 0) := cellB HXTb.out.2.1
     clear HJ4 HO4 HXTk
     go_wp2_with fail
     refine (l_code HJ5.out.os bd4f_3 (hT.out.kept HJ5.out.k) ⟨13, 0, 0, 0, 0, ⟨#[47, 97, 47, 98, 47, 99, 47, 100]⟩, ⟨#[]⟩, ⟨#[]⟩⟩ (by decide) df4f_3).mono ?_
     rintro e V6 ⟨rfl, k6⟩
     have HJ6 : Hid (_) := HJ5.out.kept k6
     have HO6 : Hid (_) := HO5.out.kept k6
     have HT6 : Hid (V6.heap[XT]? = _) := (k6.block _ (lt_of_heap HXTb.out.1) (by simp)).trans HXTb.out.1
     clear k6 r0' HJ5 HO5 HXT HXTb
     clear x0 x1 x2
     obtain ⟨x0, x1, x2⟩ := cells3D HT6.out
     obtain ⟨y0, y1, y2⟩ := cells3D HJ6.out.box
     have z0 := frozen_of HJ6.out.box 0
     have z1' := frozen_of HJ6.out.box 1
     have z2 := frozen_of HJ6.out.box 2
     have HE : Hid (_) := HJ6.out.put HO6.out HOx.out
     go_wp2_with fail
     go_roundw
     case rel => exact ⟨_, _, _, _, Or.inr (Or.inr (Or.inr (Or.inr ⟨rfl, rfl, HE.out⟩)))⟩
     case measure => simp [intOf]
   · obtain ⟨p0, m0, q0, n0, r0, t0, rfl, rfl, rfl⟩ := forms3 HJ.out.os 5 0 1 rfl rfl rfl
     obtain ⟨x0, x1, x2⟩ := cells3D HJ.out.box
     go_wp2_with fail
     refine (l_Do HJ.out.os bd4f_4 (hT.out.kept HJ.out.k) ⟨11, 0, 0, 0, 0, ⟨#[47, 97]⟩, ⟨#[47, 122]⟩, ⟨#[]⟩⟩ (by decide) dr4f).mono ?_
     rintro e V4 ⟨a1, b1, d1, eu, z1, l1, k1, rfl, ho, hsr, -, k4, -⟩
     dsimp only at ho ⊢
     obtain ⟨p1, m1, q1, n1, r1, t1, rfl, rfl, rfl⟩ := forms3 ho 5 0 1 rfl rfl rfl
     clear x0 x1 x2
     have HO4 : Hid (Os V4 w.heap.size (.slice p1 5 m1) (.slice q1 0 n1) (.slice r1 1 t1) eu dz4f) := ho.less HJ.out.k.size
     have HJ4 : Hid (_) := HJ.out.kept k4
     clear ho hsr k4 HJ
     obtain ⟨V5, XT, HXT, HXTk, HXTb⟩ := boxes2 V4 #[.slice p1 5 m1, .slice q1 0 n1, .slice r1 1 t1] #[.int .i64 0, .int .i64 0, .int .i64 0, .bool false, .string ⟨#[]⟩, .slice z1 l1 k1] 26 32
     have HJ5 : Hid (_) := HJ4.out.kept HXTk.out
     have HO5 : Hid (_) := HO4.out.kept HXTk.out
     go_upto_region 18 with fail
     rw [HXT.out.1, HXT.out.2]
     obtain ⟨XR, hXR⟩ : ∃ XR, XT + 1 = XR := ⟨_, rfl⟩
     rw [hXR] at HXTb ⊢
     have HT5 : Hid (_) := HXTb.out.1
     have HR5 : Hid (_) := HXTb.out.2.1
     clear HJ4 HO4 HXTk HXT HXTb hXR
     go_upto_region 19 with fail
     have hq9 : (⟨#[47, 122]⟩ ++ (⟨#[47, 97, 47, 98, 47, 99, 47, 100]⟩ : ByteArray).extract 2 8 : ByteArray) = ⟨#[47, 122, 47, 98, 47, 99, 47, 100]⟩ := by decide +kernel
     rw [hq9]
     clear hq9
     obtain ⟨x0, x1, x2⟩ := cells3D HJ5.out.box
     have hstr : (⟨#[47, 97, 47, 98, 47, 99, 47, 100]⟩ ++ ⟨#[47, 110]⟩ : ByteArray) = ⟨#[47, 97, 47, 98, 47, 99, 47, 100, 47, 110]⟩ := by decide +kernel
     go_wp2_with fail
     try rw [hstr]
     refine (l_code HJ5.out.os bd4f_4 (hT.out.kept HJ5.out.k) ⟨0, 0, 0, 0, 0, ⟨#[47, 97, 47, 98, 47, 99, 47, 100, 47, 110]⟩, ⟨#[]⟩, ⟨#[]⟩⟩ (by decide) rfl).mono ?_
     rintro e V6 ⟨rfl, k6⟩
     rw [db4f]
     have HO6 : Hid (_) := HO5.out.kept k6
     have HK6 : Hid (Kept [] w V6) := HJ5.out.k.trans k6 (by simp)
     have HT6 : Hid (V6.heap[XT]? = _) := (k6.block _ (lt_of_heap HT5.out) (by simp)).trans HT5.out
     have HR6 : Hid (V6.heap[XR]? = _) := (k6.block _ (lt_of_heap HR5.out) (by simp)).trans HR5.out
     clear k6 hstr HJ5 HO5 HT5 HR5
     clear x0 x1 x2
     obtain ⟨x0, x1, x2⟩ := cells3D HT6.out
     have r0' : V6.cell? ⟨XR, 0, none⟩ = some (.int .i64 0) := cellB HR6.out
     go_wp2_with fail
     refine (l_code HO6.out bz4f (hT.out.kept HK6.out) ⟨13, 0, 0, 0, 0, ⟨#[47, 122, 47, 98, 47, 99, 47, 100]⟩, ⟨#[]⟩, ⟨#[]⟩⟩ (by decide) rfl).mono ?_
     rintro e V7 ⟨rfl, k7⟩
     rw [dq4f]
     have HO7 : Hid (_) := HO6.out.kept k7
     have HK7 : Hid (Kept [] w V7) := HK6.out.trans k7 (by simp)
     have HT7 : Hid (V7.heap[XT]? = _) := (k7.block _ (lt_of_heap HT6.out) (by simp)).trans HT6.out
     clear k7 r0' HO6 HT6 HR6 HK6
     clear x0 x1 x2
     obtain ⟨x0, x1, x2⟩ := cells3D HT7.out
     go_wp2_with fail
     refine (l_code HO7.out bz4f (hT.out.kept HK7.out) ⟨13, 0, 0, 0, 0, ⟨#[47, 97, 47, 98, 47, 99, 47, 100]⟩, ⟨#[]⟩, ⟨#[]⟩⟩ (by decide) rfl).mono ?_
     rintro e V8 ⟨rfl, k8⟩
     rw [dg4f]
     have HK8 : Hid (Kept [] w V8) := HK7.out.trans k8 (by simp)
     clear k8 HO7 HT7 HK7
     clear x0 x1 x2
     go_wp2_with fail
     go_ret
     exact ⟨rfl, HK8.out⟩
end Go.Proofs.YtejadbpfkeeooaaGreatDoor
