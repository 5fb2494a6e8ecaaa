/-
  Joined of my texts Rm.
-/
import Derived.Test.YtjneoegbknclgaaGreatDoorJm47
import Derived.Test.YtjneoegbknclgaaGreatDoorTk
set_option linter.unusedVariables false
set_option linter.unusedSimpArgs false
set_option maxRecDepth 100000
set_option maxHeartbeats 8000000
namespace Go.Proofs.YtjneoegbknclgaaGreatDoor
open Go.RowKit
def pR : Nat → ByteArray
 | 0 => ⟨#[47, 100]⟩
 | 1 => ⟨#[47, 101]⟩
 | 2 => ⟨#[47, 102]⟩
 | 3 => ⟨#[47, 100, 47, 104]⟩
 | 4 => ⟨#[47, 122]⟩
 | 5 => ⟨#[47, 102, 47, 120]⟩
 | 6 => ⟨#[47, 122, 47, 120]⟩
 | _ => ⟨#[47]⟩
def uR : Nat → Int
 | 0 => 8
 | 1 => 8
 | 2 => 0
 | 3 => 0
 | 4 => 1
 | 5 => 7
 | 6 => 1
 | _ => 9
def mR : Nat → Int
 | 0 => 3
 | 1 => 0
 | 2 => 7
 | 3 => 7
 | 4 => 1
 | 5 => 7
 | 6 => 1
 | _ => 9
theorem cellP {w : World} {C k : Nat} (hk : k < 8) (h : w.heap[C]? = some (.cells #[.string ⟨#[47, 100]⟩, .string ⟨#[47, 101]⟩, .string ⟨#[47, 102]⟩, .string ⟨#[47, 100, 47, 104]⟩, .string ⟨#[47, 122]⟩, .string ⟨#[47, 102, 47, 120]⟩, .string ⟨#[47, 122, 47, 120]⟩, .string ⟨#[47]⟩] 9 (0, 0))) : w.cell? ⟨C, k, none⟩ = some (.string (pR k)) := by
 have hc : k = 0 ∨ k = 1 ∨ k = 2 ∨ k = 3 ∨ k = 4 ∨ k = 5 ∨ k = 6 ∨ k = 7 := by omega
 rcases hc with rfl | rfl | rfl | rfl | rfl | rfl | rfl | rfl <;> exact cellB h
theorem cellU {w : World} {C k : Nat} (hk : k < 8) (h : w.heap[C]? = some (.cells #[.int .i64 8, .int .i64 8, .int .i64 0, .int .i64 0, .int .i64 1, .int .i64 7, .int .i64 1, .int .i64 9] 3 (0, 0))) : w.cell? ⟨C, k, none⟩ = some (.int .i64 (uR k)) := by
 have hc : k = 0 ∨ k = 1 ∨ k = 2 ∨ k = 3 ∨ k = 4 ∨ k = 5 ∨ k = 6 ∨ k = 7 := by omega
 rcases hc with rfl | rfl | rfl | rfl | rfl | rfl | rfl | rfl <;> exact cellB h
theorem cellM {w : World} {C k : Nat} (hk : k < 8) (h : w.heap[C]? = some (.cells #[.int .i64 3, .int .i64 0, .int .i64 7, .int .i64 7, .int .i64 1, .int .i64 7, .int .i64 1, .int .i64 9] 3 (0, 0))) : w.cell? ⟨C, k, none⟩ = some (.int .i64 (mR k)) := by
 have hc : k = 0 ∨ k = 1 ∨ k = 2 ∨ k = 3 ∨ k = 4 ∨ k = 5 ∨ k = 6 ∨ k = 7 := by omega
 rcases hc with rfl | rfl | rfl | rfl | rfl | rfl | rfl | rfl <;> exact cellB h
theorem mp1 : (0 : Int) < ((mS1 7).made.length : Int) := by decide
theorem sr5 {w w' : World} {A Z P k : Nat} {a b c d e : Value} (h : w.cell? ⟨A, 0, none⟩ = some a ∧ w.cell? ⟨Z, 0, none⟩ = some b ∧ w.cell? ⟨Z, 1, none⟩ = some c ∧ w.cell? ⟨Z, 2, none⟩ = some d ∧ w.cell? ⟨P, k, none⟩ = some e) (q : Kept [] w w') : w'.cell? ⟨A, 0, none⟩ = some a ∧ w'.cell? ⟨Z, 0, none⟩ = some b ∧ w'.cell? ⟨Z, 1, none⟩ = some c ∧ w'.cell? ⟨Z, 2, none⟩ = some d ∧ w'.cell? ⟨P, k, none⟩ = some e :=
 ⟨q.cell h.1 (by simp), q.cell h.2.1 (by simp), q.cell h.2.2.1 (by simp), q.cell h.2.2.2.1 (by simp), q.cell h.2.2.2.2 (by simp)⟩
theorem rem_ug {w : World} (hT0 : Tab w) (a : Int) {k : Nat} (hk : k < 8) (hm : wrap64 ((IntKind.u64.wrap a).tmod 8) = (k : Int)) {S' : Sta} (hp : playR (mS1 7) ⟨9, 0, 0, 0, 0, pR k, ⟨#[]⟩, ⟨#[]⟩⟩ headI = (S', ansC (uR k))) (hw : uR k = 0) (hm' : mayB S' = true) (hb' : Bd S') (h1' : (0 : Int) < (S'.made.length : Int)) (hst : (playR S' ⟨13, 0, 0, 0, 0, pR k, ⟨#[]⟩, ⟨#[]⟩⟩ headI).2.code = 1) :
  Calls Tryz.prog 5 #[.int .i64 a, .bool false] w fun e w' => e = .returned (.bool true) ∧ Kept [] w w' := by
 have k0 : (k : Int) < 8 := by omega
 have k1 : (0 : Int) ≤ (k : Int) := by omega
 have HW0 : Hid (_) := hw
 clear hw
 have hT : Hid (Tab w) := hT0
 clear hT0
 go_enter Tryz.func5, Tryz.ntmps5
 go_wp2_with fail
 refine (awake_k hT.out).mono ?_
 rintro e U1 ⟨rfl, kk1⟩
 have HK_2 : Hid (Kept [] w U1) := kk1
 clear kk1
 go_wp2_with fail
 refine (l_made1).mono ?_
 rintro e U3 ⟨a3, b3, d3, eu3, rfl, ho3, kk3⟩
 obtain ⟨p3, m3, q3, n3, r3, t3, rfl, rfl, rfl⟩ := formsL ho3 5 1 1 rfl rfl rfl
 have HOs_3 : Hid (_) := ho3.less HK_2.out.size
 have HK_4 : Hid (_) := kt HK_2.out kk3
 clear HK_2
 clear ho3 kk3
 obtain ⟨V5, X5, HX5, HXk5, HXb5⟩ := boxR U3 #[.slice p3 5 m3, .slice q3 1 n3, .slice r3 1 t3] 27
 go_upto_region 4 with fail
 rw [HX5.out.1, HX5.out.2]
 have HOs_6 : Hid (_) := HOs_3.out.kept HXk5.out
 have HK_6 : Hid (_) := kt HK_4.out HXk5.out
 clear HOs_3 HK_4
 clear HX5 HXk5
 obtain ⟨V7, X7, HX7, HXk7, HXb7⟩ := boxR V5 #[.string ⟨#[47, 100]⟩, .string ⟨#[47, 101]⟩, .string ⟨#[47, 102]⟩, .string ⟨#[47, 100, 47, 104]⟩, .string ⟨#[47, 122]⟩, .string ⟨#[47, 102, 47, 120]⟩, .string ⟨#[47, 122, 47, 120]⟩, .string ⟨#[47]⟩] 9
 go_upto_region 5 with fail
 rw [HX7.out.1, HX7.out.2]
 have HBX5_8 : Hid (_) := kb HXk7.out HXb5.out
 have HOs_8 : Hid (_) := HOs_6.out.kept HXk7.out
 have HK_8 : Hid (_) := kt HK_6.out HXk7.out
 clear HXb5 HOs_6 HK_6
 clear HX7 HXk7
 obtain ⟨V9, X9, HX9, HXk9, HXb9⟩ := boxR V7 #[.int .i64 8, .int .i64 8, .int .i64 0, .int .i64 0, .int .i64 1, .int .i64 7, .int .i64 1, .int .i64 9] 3
 go_upto_region 6 with fail
 rw [HX9.out.1, HX9.out.2]
 have HBX5_10 : Hid (_) := kb HXk9.out HBX5_8.out
 have HBX7_10 : Hid (_) := kb HXk9.out HXb7.out
 have HOs_10 : Hid (_) := HOs_8.out.kept HXk9.out
 have HK_10 : Hid (_) := kt HK_8.out HXk9.out
 clear HBX5_8 HXb7 HOs_8 HK_8
 clear HX9 HXk9
 obtain ⟨V11, X11, HX11, HXk11, HXb11⟩ := boxR V9 #[.int .i64 3, .int .i64 0, .int .i64 7, .int .i64 7, .int .i64 1, .int .i64 7, .int .i64 1, .int .i64 9] 3
 go_upto_region 7 with fail
 rw [HX11.out.1, HX11.out.2]
 have HBX5_12 : Hid (_) := kb HXk11.out HBX5_10.out
 have HBX7_12 : Hid (_) := kb HXk11.out HBX7_10.out
 have HBX9_12 : Hid (_) := kb HXk11.out HXb9.out
 have HOs_12 : Hid (_) := HOs_10.out.kept HXk11.out
 have HK_12 : Hid (_) := kt HK_10.out HXk11.out
 clear HBX5_10 HBX7_10 HXb9 HOs_10 HK_10
 clear HX11 HXk11
 go_upto_region 8 with fail
 rw [hm]
 have hP := cellP hk HBX7_12.out
 obtain ⟨V13, X13, HX13, HXk13, HXb13⟩ := boxR V11 #[.int .i64 9, .int .i64 0, .int .i64 0, .int .i64 0, .int .i64 0, .string (pR k), .string ⟨#[]⟩, .string ⟨#[]⟩] 35
 go_upto_region 9 with fail
 rw [HX13.out.1, HX13.out.2]
 have HBX5_14 : Hid (_) := kb HXk13.out HBX5_12.out
 have HBX7_14 : Hid (_) := kb HXk13.out HBX7_12.out
 have HBX9_14 : Hid (_) := kb HXk13.out HBX9_12.out
 have HBX11_14 : Hid (_) := kb HXk13.out HXb11.out
 have HOs_14 : Hid (_) := HOs_12.out.kept HXk13.out
 have HK_14 : Hid (_) := kt HK_12.out HXk13.out
 clear HBX5_12 HBX7_12 HBX9_12 HXb11 HOs_12 HK_12
 clear HX13 HXk13
 clear hP
 have hU := cellU hk HBX9_14.out
 go_upto_region 13 with fail
 clear hU
 obtain ⟨cX5_0, cX5_1, cX5_2, -⟩ := zs3 HBX5_14.out
 obtain ⟨cX13_0, cX13_1, cX13_2, cX13_3, cX13_4, cX13_5, cX13_6, cX13_7⟩ := ys8 HXb13.out
 go_wp2_with fail
 refine (l_DoK HOs_14.out md1_7 (hT.out.kept HK_14.out) ⟨9, 0, 0, 0, 0, pR k, ⟨#[]⟩, ⟨#[]⟩⟩ (dl9 mb1_7 (Int.le_refl _) mp1 rfl) hp).mono ?_
 rintro e U15 ⟨a15, b15, d15, eu15, z15, l15, k15, rfl, ho15, hsr15, -, kk15, -⟩
 dsimp only at ho15 ⊢
 obtain ⟨p15, m15, q15, n15, r15, t15, rfl, rfl, rfl⟩ := formsL ho15 S'.ino.length S'.opn.length S'.made.length rfl rfl rfl
 have HOt_15 : Hid (_) := ho15.less HK_14.out.size
 clear cX5_0 cX5_1 cX5_2
 clear cX13_0 cX13_1 cX13_2 cX13_3 cX13_4 cX13_5 cX13_6 cX13_7
 have HBX5_16 : Hid (_) := kb kk15 HBX5_14.out
 have HBX7_16 : Hid (_) := kb kk15 HBX7_14.out
 have HBX9_16 : Hid (_) := kb kk15 HBX9_14.out
 have HBX11_16 : Hid (_) := kb kk15 HBX11_14.out
 have HBX13_16 : Hid (_) := kb kk15 HXb13.out
 have HOs_16 : Hid (_) := HOs_14.out.kept kk15
 have HK_16 : Hid (_) := kt HK_14.out kk15
 clear HBX5_14 HBX7_14 HBX9_14 HBX11_14 HXb13 HOs_14 HK_14
 clear ho15 hsr15 kk15
 obtain ⟨V17, X17, HX17, HXk17, HXb17⟩ := boxes2 U15 #[.slice p15 S'.ino.length m15, .slice q15 S'.opn.length n15, .slice r15 S'.made.length t15] #[.int .i64 (uR k), .int .i64 0, .int .i64 0, .bool false, .string ⟨#[]⟩, .slice z15 l15 k15] 27 31
 go_upto_region 14 with fail
 rw [HX17.out.1, HX17.out.2]
 obtain ⟨Y17, hY17⟩ : ∃ Y17, X17 + 1 = Y17 := ⟨_, rfl⟩
 rw [hY17] at HXb17 ⊢
 have HA17 : Hid (_) := HXb17.out.1
 have HB17 : Hid (_) := HXb17.out.2.1
 have HBX5_18 : Hid (_) := kb HXk17.out HBX5_16.out
 have HBX7_18 : Hid (_) := kb HXk17.out HBX7_16.out
 have HBX9_18 : Hid (_) := kb HXk17.out HBX9_16.out
 have HBX11_18 : Hid (_) := kb HXk17.out HBX11_16.out
 have HBX13_18 : Hid (_) := kb HXk17.out HBX13_16.out
 have HOs_18 : Hid (_) := HOs_16.out.kept HXk17.out
 have HOt_18 : Hid (_) := HOt_15.out.kept HXk17.out
 have HK_18 : Hid (_) := kt HK_16.out HXk17.out
 clear HBX5_16 HBX7_16 HBX9_16 HBX11_16 HBX13_16 HOs_16 HOt_15 HK_16
 clear HX17 HXk17 HXb17 hY17
 have HS : Hid (V17.cell? ⟨Y17, 0, none⟩ = some (.int .i64 (uR k)) ∧ V17.cell? ⟨X17, 0, none⟩ = some (.slice p15 S'.ino.length m15) ∧ V17.cell? ⟨X17, 1, none⟩ = some (.slice q15 S'.opn.length n15) ∧ V17.cell? ⟨X17, 2, none⟩ = some (.slice r15 S'.made.length t15) ∧ V17.cell? ⟨X7, k, none⟩ = some (.string (pR k))) := ⟨cellB HB17.out, cellB HA17.out, cellB HA17.out, cellB HA17.out, cellP hk HBX7_18.out⟩
 have e1 : ((uR k) == (uR k)) = true := by simp
 have e2 : ((uR k) != 0) = false := by simp [HW0.out]
 refine wp_region_held_drew (S := fun w' => w'.cell? ⟨Y17, 0, none⟩ = some (.int .i64 (uR k)) ∧ w'.cell? ⟨X17, 0, none⟩ = some (.slice p15 S'.ino.length m15) ∧ w'.cell? ⟨X17, 1, none⟩ = some (.slice q15 S'.opn.length n15) ∧ w'.cell? ⟨X17, 2, none⟩ = some (.slice r15 S'.made.length t15) ∧ w'.cell? ⟨X7, k, none⟩ = some (.string (pR k))) (by kernel_rfl) ?_ (fun hHeld => ?_)
 · exact HS.out
 refine tkA 0 rfl ?_
 refine tkA 1 rfl ?_
 refine tkA 2 rfl ?_
 refine tkA 3 rfl ?_
 refine tkA 4 rfl ?_
 refine tkA 5 rfl ?_
 refine tkA 6 rfl ?_
 refine tkA 7 rfl ?_
 refine tkA 8 rfl ?_
 refine tkA 9 rfl ?_
 refine tkA 10 rfl ?_
 refine tkA 11 rfl ?_
 refine tkA 12 rfl ?_
 refine tkA 13 rfl ?_
 refine wpAnyH_ready (rs := [14]) (by kernel_rfl) (by simp) ?_
 refine AllReadyH.cons rfl (fun K hK => ?_) AllReadyH.nil
 go_simp
 refine (l_codeK (HOt_18.out.kept (Kept.refl _ _).drew) hb' (hT.out.kept HK_18.out.drew) ⟨13, 0, 0, 0, 0, pR k, ⟨#[]⟩, ⟨#[]⟩⟩ (dl13 hm' (Int.le_refl _) h1' rfl) rfl).mono ?_
 rintro e w9 ⟨rfl, k9⟩
 rw [hst]
 have z9 := sr5 (by assumption) k9
 have HK9 : Hid (Kept [] w w9) := kt HK_18.out.drew k9
 go_wp2_with fail
 refine hK.out _ _ ?_ (fun hHeld => ?_)
 · exact z9
 clear hK K
 try simp only [Act.put, List.setIfInBounds_toArray, List.set_cons_zero, List.set_cons_succ, List.getElem_toArray, List.getElem_cons_zero, List.getElem_cons_succ]
 refine tkA 15 rfl ?_
 refine tkA 16 rfl ?_
 refine tkA 17 rfl ?_
 refine tkA 18 rfl ?_
 refine wpAnyH_done (by kernel_rfl) ?_ _
 clear hHeld
 go_wp2_with fail
 go_ret
 exact ⟨rfl, HK9.out⟩
theorem rem_ub {w : World} (hT0 : Tab w) (a : Int) {k : Nat} (hk : k < 8) (hm : wrap64 ((IntKind.u64.wrap a).tmod 8) = (k : Int)) {S' : Sta} (hp : playR (mS1 7) ⟨9, 0, 0, 0, 0, pR k, ⟨#[]⟩, ⟨#[]⟩⟩ headI = (S', ansC (uR k))) (hw : ¬ uR k = 0) :
  Calls Tryz.prog 5 #[.int .i64 a, .bool false] w fun e w' => e = .returned (.bool true) ∧ Kept [] w w' := by
 have k0 : (k : Int) < 8 := by omega
 have k1 : (0 : Int) ≤ (k : Int) := by omega
 have HW0 : Hid (_) := hw
 clear hw
 have hT : Hid (Tab w) := hT0
 clear hT0
 go_enter Tryz.func5, Tryz.ntmps5
 go_wp2_with fail
 refine (awake_k hT.out).mono ?_
 rintro e U1 ⟨rfl, kk1⟩
 have HK_2 : Hid (Kept [] w U1) := kk1
 clear kk1
 go_wp2_with fail
 refine (l_made1).mono ?_
 rintro e U3 ⟨a3, b3, d3, eu3, rfl, ho3, kk3⟩
 obtain ⟨p3, m3, q3, n3, r3, t3, rfl, rfl, rfl⟩ := formsL ho3 5 1 1 rfl rfl rfl
 have HOs_3 : Hid (_) := ho3.less HK_2.out.size
 have HK_4 : Hid (_) := kt HK_2.out kk3
 clear HK_2
 clear ho3 kk3
 obtain ⟨V5, X5, HX5, HXk5, HXb5⟩ := boxR U3 #[.slice p3 5 m3, .slice q3 1 n3, .slice r3 1 t3] 27
 go_upto_region 4 with fail
 rw [HX5.out.1, HX5.out.2]
 have HOs_6 : Hid (_) := HOs_3.out.kept HXk5.out
 have HK_6 : Hid (_) := kt HK_4.out HXk5.out
 clear HOs_3 HK_4
 clear HX5 HXk5
 obtain ⟨V7, X7, HX7, HXk7, HXb7⟩ := boxR V5 #[.string ⟨#[47, 100]⟩, .string ⟨#[47, 101]⟩, .string ⟨#[47, 102]⟩, .string ⟨#[47, 100, 47, 104]⟩, .string ⟨#[47, 122]⟩, .string ⟨#[47, 102, 47, 120]⟩, .string ⟨#[47, 122, 47, 120]⟩, .string ⟨#[47]⟩] 9
 go_upto_region 5 with fail
 rw [HX7.out.1, HX7.out.2]
 have HBX5_8 : Hid (_) := kb HXk7.out HXb5.out
 have HOs_8 : Hid (_) := HOs_6.out.kept HXk7.out
 have HK_8 : Hid (_) := kt HK_6.out HXk7.out
 clear HXb5 HOs_6 HK_6
 clear HX7 HXk7
 obtain ⟨V9, X9, HX9, HXk9, HXb9⟩ := boxR V7 #[.int .i64 8, .int .i64 8, .int .i64 0, .int .i64 0, .int .i64 1, .int .i64 7, .int .i64 1, .int .i64 9] 3
 go_upto_region 6 with fail
 rw [HX9.out.1, HX9.out.2]
 have HBX5_10 : Hid (_) := kb HXk9.out HBX5_8.out
 have HBX7_10 : Hid (_) := kb HXk9.out HXb7.out
 have HOs_10 : Hid (_) := HOs_8.out.kept HXk9.out
 have HK_10 : Hid (_) := kt HK_8.out HXk9.out
 clear HBX5_8 HXb7 HOs_8 HK_8
 clear HX9 HXk9
 obtain ⟨V11, X11, HX11, HXk11, HXb11⟩ := boxR V9 #[.int .i64 3, .int .i64 0, .int .i64 7, .int .i64 7, .int .i64 1, .int .i64 7, .int .i64 1, .int .i64 9] 3
 go_upto_region 7 with fail
 rw [HX11.out.1, HX11.out.2]
 have HBX5_12 : Hid (_) := kb HXk11.out HBX5_10.out
 have HBX7_12 : Hid (_) := kb HXk11.out HBX7_10.out
 have HBX9_12 : Hid (_) := kb HXk11.out HXb9.out
 have HOs_12 : Hid (_) := HOs_10.out.kept HXk11.out
 have HK_12 : Hid (_) := kt HK_10.out HXk11.out
 clear HBX5_10 HBX7_10 HXb9 HOs_10 HK_10
 clear HX11 HXk11
 go_upto_region 8 with fail
 rw [hm]
 have hP := cellP hk HBX7_12.out
 obtain ⟨V13, X13, HX13, HXk13, HXb13⟩ := boxR V11 #[.int .i64 9, .int .i64 0, .int .i64 0, .int .i64 0, .int .i64 0, .string (pR k), .string ⟨#[]⟩, .string ⟨#[]⟩] 35
 go_upto_region 9 with fail
 rw [HX13.out.1, HX13.out.2]
 have HBX5_14 : Hid (_) := kb HXk13.out HBX5_12.out
 have HBX7_14 : Hid (_) := kb HXk13.out HBX7_12.out
 have HBX9_14 : Hid (_) := kb HXk13.out HBX9_12.out
 have HBX11_14 : Hid (_) := kb HXk13.out HXb11.out
 have HOs_14 : Hid (_) := HOs_12.out.kept HXk13.out
 have HK_14 : Hid (_) := kt HK_12.out HXk13.out
 clear HBX5_12 HBX7_12 HBX9_12 HXb11 HOs_12 HK_12
 clear HX13 HXk13
 clear hP
 have hU := cellU hk HBX9_14.out
 go_upto_region 13 with fail
 clear hU
 obtain ⟨cX5_0, cX5_1, cX5_2, -⟩ := zs3 HBX5_14.out
 obtain ⟨cX13_0, cX13_1, cX13_2, cX13_3, cX13_4, cX13_5, cX13_6, cX13_7⟩ := ys8 HXb13.out
 go_wp2_with fail
 refine (l_DoK HOs_14.out md1_7 (hT.out.kept HK_14.out) ⟨9, 0, 0, 0, 0, pR k, ⟨#[]⟩, ⟨#[]⟩⟩ (dl9 mb1_7 (Int.le_refl _) mp1 rfl) hp).mono ?_
 rintro e U15 ⟨a15, b15, d15, eu15, z15, l15, k15, rfl, ho15, hsr15, -, kk15, -⟩
 dsimp only at ho15 ⊢
 obtain ⟨p15, m15, q15, n15, r15, t15, rfl, rfl, rfl⟩ := formsL ho15 S'.ino.length S'.opn.length S'.made.length rfl rfl rfl
 have HOt_15 : Hid (_) := ho15.less HK_14.out.size
 clear cX5_0 cX5_1 cX5_2
 clear cX13_0 cX13_1 cX13_2 cX13_3 cX13_4 cX13_5 cX13_6 cX13_7
 have HBX5_16 : Hid (_) := kb kk15 HBX5_14.out
 have HBX7_16 : Hid (_) := kb kk15 HBX7_14.out
 have HBX9_16 : Hid (_) := kb kk15 HBX9_14.out
 have HBX11_16 : Hid (_) := kb kk15 HBX11_14.out
 have HBX13_16 : Hid (_) := kb kk15 HXb13.out
 have HOs_16 : Hid (_) := HOs_14.out.kept kk15
 have HK_16 : Hid (_) := kt HK_14.out kk15
 clear HBX5_14 HBX7_14 HBX9_14 HBX11_14 HXb13 HOs_14 HK_14
 clear ho15 hsr15 kk15
 obtain ⟨V17, X17, HX17, HXk17, HXb17⟩ := boxes2 U15 #[.slice p15 S'.ino.length m15, .slice q15 S'.opn.length n15, .slice r15 S'.made.length t15] #[.int .i64 (uR k), .int .i64 0, .int .i64 0, .bool false, .string ⟨#[]⟩, .slice z15 l15 k15] 27 31
 go_upto_region 14 with fail
 rw [HX17.out.1, HX17.out.2]
 obtain ⟨Y17, hY17⟩ : ∃ Y17, X17 + 1 = Y17 := ⟨_, rfl⟩
 rw [hY17] at HXb17 ⊢
 have HA17 : Hid (_) := HXb17.out.1
 have HB17 : Hid (_) := HXb17.out.2.1
 have HBX5_18 : Hid (_) := kb HXk17.out HBX5_16.out
 have HBX7_18 : Hid (_) := kb HXk17.out HBX7_16.out
 have HBX9_18 : Hid (_) := kb HXk17.out HBX9_16.out
 have HBX11_18 : Hid (_) := kb HXk17.out HBX11_16.out
 have HBX13_18 : Hid (_) := kb HXk17.out HBX13_16.out
 have HOs_18 : Hid (_) := HOs_16.out.kept HXk17.out
 have HOt_18 : Hid (_) := HOt_15.out.kept HXk17.out
 have HK_18 : Hid (_) := kt HK_16.out HXk17.out
 clear HBX5_16 HBX7_16 HBX9_16 HBX11_16 HBX13_16 HOs_16 HOt_15 HK_16
 clear HX17 HXk17 HXb17 hY17
 have HS : Hid (V17.cell? ⟨Y17, 0, none⟩ = some (.int .i64 (uR k)) ∧ V17.cell? ⟨X17, 0, none⟩ = some (.slice p15 S'.ino.length m15) ∧ V17.cell? ⟨X17, 1, none⟩ = some (.slice q15 S'.opn.length n15) ∧ V17.cell? ⟨X17, 2, none⟩ = some (.slice r15 S'.made.length t15) ∧ V17.cell? ⟨X7, k, none⟩ = some (.string (pR k))) := ⟨cellB HB17.out, cellB HA17.out, cellB HA17.out, cellB HA17.out, cellP hk HBX7_18.out⟩
 have e1 : ((uR k) == (uR k)) = true := by simp
 have e2 : ((uR k) != 0) = true := by have h9 : ¬ (uR k) = 0 := HW0.out; simp [h9]
 refine wp_region_held_drew (S := fun w' => w'.cell? ⟨Y17, 0, none⟩ = some (.int .i64 (uR k)) ∧ w'.cell? ⟨X17, 0, none⟩ = some (.slice p15 S'.ino.length m15) ∧ w'.cell? ⟨X17, 1, none⟩ = some (.slice q15 S'.opn.length n15) ∧ w'.cell? ⟨X17, 2, none⟩ = some (.slice r15 S'.made.length t15) ∧ w'.cell? ⟨X7, k, none⟩ = some (.string (pR k))) (by kernel_rfl) ?_ (fun hHeld => ?_)
 · exact HS.out
 refine tkA 0 rfl ?_
 refine tkA 1 rfl ?_
 refine tkA 2 rfl ?_
 refine tkA 3 rfl ?_
 refine tkA 4 rfl ?_
 refine tkA 5 rfl ?_
 refine tkA 6 rfl ?_
 refine tkA 7 rfl ?_
 refine skA 8 rfl ?_
 refine skA 9 rfl ?_
 refine skA 10 rfl ?_
 refine skA 11 rfl ?_
 refine skA 12 rfl ?_
 refine skA 13 rfl ?_
 refine skA 14 rfl ?_
 refine skA 15 rfl ?_
 refine tkA 16 rfl ?_
 refine tkA 17 rfl ?_
 refine tkA 18 rfl ?_
 refine wpAnyH_done (by kernel_rfl) ?_ _
 clear hHeld
 go_wp2_with fail
 go_ret
 exact ⟨rfl, HK_18.out.drew⟩
theorem rem_rg {w : World} (hT0 : Tab w) (a : Int) {k : Nat} (hk : k < 8) (hm : wrap64 ((IntKind.u64.wrap a).tmod 8) = (k : Int)) {S' : Sta} (hp : playR (mS1 7) ⟨10, 0, 0, 0, 0, pR k, ⟨#[]⟩, ⟨#[]⟩⟩ headI = (S', ansC (mR k))) (hw : mR k = 0) (hm' : mayB S' = true) (hb' : Bd S') (h1' : (0 : Int) < (S'.made.length : Int)) (hst : (playR S' ⟨13, 0, 0, 0, 0, pR k, ⟨#[]⟩, ⟨#[]⟩⟩ headI).2.code = 1) :
  Calls Tryz.prog 5 #[.int .i64 a, .bool true] w fun e w' => e = .returned (.bool true) ∧ Kept [] w w' := by
 have k0 : (k : Int) < 8 := by omega
 have k1 : (0 : Int) ≤ (k : Int) := by omega
 have HW0 : Hid (_) := hw
 clear hw
 have hT : Hid (Tab w) := hT0
 clear hT0
 go_enter Tryz.func5, Tryz.ntmps5
 go_wp2_with fail
 refine (awake_k hT.out).mono ?_
 rintro e U1 ⟨rfl, kk1⟩
 have HK_2 : Hid (Kept [] w U1) := kk1
 clear kk1
 go_wp2_with fail
 refine (l_made1).mono ?_
 rintro e U3 ⟨a3, b3, d3, eu3, rfl, ho3, kk3⟩
 obtain ⟨p3, m3, q3, n3, r3, t3, rfl, rfl, rfl⟩ := formsL ho3 5 1 1 rfl rfl rfl
 have HOs_3 : Hid (_) := ho3.less HK_2.out.size
 have HK_4 : Hid (_) := kt HK_2.out kk3
 clear HK_2
 clear ho3 kk3
 obtain ⟨V5, X5, HX5, HXk5, HXb5⟩ := boxR U3 #[.slice p3 5 m3, .slice q3 1 n3, .slice r3 1 t3] 27
 go_upto_region 4 with fail
 rw [HX5.out.1, HX5.out.2]
 have HOs_6 : Hid (_) := HOs_3.out.kept HXk5.out
 have HK_6 : Hid (_) := kt HK_4.out HXk5.out
 clear HOs_3 HK_4
 clear HX5 HXk5
 obtain ⟨V7, X7, HX7, HXk7, HXb7⟩ := boxR V5 #[.string ⟨#[47, 100]⟩, .string ⟨#[47, 101]⟩, .string ⟨#[47, 102]⟩, .string ⟨#[47, 100, 47, 104]⟩, .string ⟨#[47, 122]⟩, .string ⟨#[47, 102, 47, 120]⟩, .string ⟨#[47, 122, 47, 120]⟩, .string ⟨#[47]⟩] 9
 go_upto_region 5 with fail
 rw [HX7.out.1, HX7.out.2]
 have HBX5_8 : Hid (_) := kb HXk7.out HXb5.out
 have HOs_8 : Hid (_) := HOs_6.out.kept HXk7.out
 have HK_8 : Hid (_) := kt HK_6.out HXk7.out
 clear HXb5 HOs_6 HK_6
 clear HX7 HXk7
 obtain ⟨V9, X9, HX9, HXk9, HXb9⟩ := boxR V7 #[.int .i64 8, .int .i64 8, .int .i64 0, .int .i64 0, .int .i64 1, .int .i64 7, .int .i64 1, .int .i64 9] 3
 go_upto_region 6 with fail
 rw [HX9.out.1, HX9.out.2]
 have HBX5_10 : Hid (_) := kb HXk9.out HBX5_8.out
 have HBX7_10 : Hid (_) := kb HXk9.out HXb7.out
 have HOs_10 : Hid (_) := HOs_8.out.kept HXk9.out
 have HK_10 : Hid (_) := kt HK_8.out HXk9.out
 clear HBX5_8 HXb7 HOs_8 HK_8
 clear HX9 HXk9
 obtain ⟨V11, X11, HX11, HXk11, HXb11⟩ := boxR V9 #[.int .i64 3, .int .i64 0, .int .i64 7, .int .i64 7, .int .i64 1, .int .i64 7, .int .i64 1, .int .i64 9] 3
 go_upto_region 7 with fail
 rw [HX11.out.1, HX11.out.2]
 have HBX5_12 : Hid (_) := kb HXk11.out HBX5_10.out
 have HBX7_12 : Hid (_) := kb HXk11.out HBX7_10.out
 have HBX9_12 : Hid (_) := kb HXk11.out HXb9.out
 have HOs_12 : Hid (_) := HOs_10.out.kept HXk11.out
 have HK_12 : Hid (_) := kt HK_10.out HXk11.out
 clear HBX5_10 HBX7_10 HXb9 HOs_10 HK_10
 clear HX11 HXk11
 go_upto_region 8 with fail
 rw [hm]
 have hP := cellP hk HBX7_12.out
 obtain ⟨V13, X13, HX13, HXk13, HXb13⟩ := boxR V11 #[.int .i64 9, .int .i64 0, .int .i64 0, .int .i64 0, .int .i64 0, .string (pR k), .string ⟨#[]⟩, .string ⟨#[]⟩] 35
 go_upto_region 9 with fail
 rw [HX13.out.1, HX13.out.2]
 have HLw : Hid (w.heap.size ≤ X13) := by have h1 := HK_12.out.size; have h2 := HX13.out.2; show _ ≤ _; omega
 have HLX5X13 : Hid (X5 < X13) := by have h1 := lt_of_heap HBX5_12.out; have h2 := HX13.out.2; show _ < _; omega
 have HLX7X13 : Hid (X7 < X13) := by have h1 := lt_of_heap HBX7_12.out; have h2 := HX13.out.2; show _ < _; omega
 have HLX9X13 : Hid (X9 < X13) := by have h1 := lt_of_heap HBX9_12.out; have h2 := HX13.out.2; show _ < _; omega
 have HLX11X13 : Hid (X11 < X13) := by have h1 := lt_of_heap HXb11.out; have h2 := HX13.out.2; show _ < _; omega
 have HBX5_14 : Hid (_) := kb HXk13.out HBX5_12.out
 have HBX7_14 : Hid (_) := kb HXk13.out HBX7_12.out
 have HBX9_14 : Hid (_) := kb HXk13.out HBX9_12.out
 have HBX11_14 : Hid (_) := kb HXk13.out HXb11.out
 have HOs_14 : Hid (_) := HOs_12.out.kept HXk13.out
 have HK_14 : Hid (_) := kt HK_12.out HXk13.out
 clear HBX5_12 HBX7_12 HBX9_12 HXb11 HOs_12 HK_12
 clear HX13 HXk13
 clear hP
 have hU := cellU hk HBX9_14.out
 go_upto_region 11 with fail
 clear hU
 have c9 : V13.cell? ⟨X13, 0, none⟩ = some (.int .i64 9) := cellB HXb13.out
 have z9 := frozen_of HXb13.out 0
 obtain ⟨V15, hV15⟩ : ∃ V15, V13.setCell ⟨X13, 0, none⟩ (.int .i64 10) = V15 := ⟨_, rfl⟩
 have HBX5_15 : Hid (_) := (block_other (w := V13) (g := X13) (i := 0) (v := .int .i64 10) (by have h9 := HLX5X13.out; omega)).trans HBX5_14.out
 rw [hV15] at HBX5_15
 have HBX7_15 : Hid (_) := (block_other (w := V13) (g := X13) (i := 0) (v := .int .i64 10) (by have h9 := HLX7X13.out; omega)).trans HBX7_14.out
 rw [hV15] at HBX7_15
 have HBX9_15 : Hid (_) := (block_other (w := V13) (g := X13) (i := 0) (v := .int .i64 10) (by have h9 := HLX9X13.out; omega)).trans HBX9_14.out
 rw [hV15] at HBX9_15
 have HBX11_15 : Hid (_) := (block_other (w := V13) (g := X13) (i := 0) (v := .int .i64 10) (by have h9 := HLX11X13.out; omega)).trans HBX11_14.out
 rw [hV15] at HBX11_15
 have HBX13_15 : Hid (V15.heap[X13]? = some (.cells #[.int .i64 10, .int .i64 0, .int .i64 0, .int .i64 0, .int .i64 0, .string (pR k), .string ⟨#[]⟩, .string ⟨#[]⟩] 35 (0, 0))) := by
  show _ = _
  rw [← hV15]
  exact block_set HXb13.out 0 _
 have HOs_15 : Hid (_) := HOs_14.out.keep (kept_set (i := 0) (v := .int .i64 10)) (off_type HOs_14.out HXb13.out (by decide))
 rw [hV15] at HOs_15
 have HK_15 : Hid (_) := HK_14.out.setCell (p := ⟨X13, 0, none⟩) (Or.inr (by have h9 := HLw.out; omega)) (.int .i64 10)
 rw [hV15] at HK_15
 have HV15 : Hid (_) := hV15
 clear hV15
 go_upto_region 12 with fail
 rw [HV15.out]
 clear HBX5_14 HBX7_14 HBX9_14 HBX11_14 HXb13 HOs_14 HK_14 HV15 c9 z9
 have hM := cellM hk HBX11_15.out
 go_upto_region 13 with fail
 clear hM
 obtain ⟨cX5_0, cX5_1, cX5_2, -⟩ := zs3 HBX5_15.out
 obtain ⟨cX13_0, cX13_1, cX13_2, cX13_3, cX13_4, cX13_5, cX13_6, cX13_7⟩ := ys8 HBX13_15.out
 go_wp2_with fail
 refine (l_DoK HOs_15.out md1_7 (hT.out.kept HK_15.out) ⟨10, 0, 0, 0, 0, pR k, ⟨#[]⟩, ⟨#[]⟩⟩ (dl10 mb1_7 (Int.le_refl _) mp1 rfl) hp).mono ?_
 rintro e U16 ⟨a16, b16, d16, eu16, z16, l16, k16, rfl, ho16, hsr16, -, kk16, -⟩
 dsimp only at ho16 ⊢
 obtain ⟨p16, m16, q16, n16, r16, t16, rfl, rfl, rfl⟩ := formsL ho16 S'.ino.length S'.opn.length S'.made.length rfl rfl rfl
 have HOt_16 : Hid (_) := ho16.less HK_15.out.size
 clear cX5_0 cX5_1 cX5_2
 clear cX13_0 cX13_1 cX13_2 cX13_3 cX13_4 cX13_5 cX13_6 cX13_7
 have HBX5_17 : Hid (_) := kb kk16 HBX5_15.out
 have HBX7_17 : Hid (_) := kb kk16 HBX7_15.out
 have HBX9_17 : Hid (_) := kb kk16 HBX9_15.out
 have HBX11_17 : Hid (_) := kb kk16 HBX11_15.out
 have HBX13_17 : Hid (_) := kb kk16 HBX13_15.out
 have HOs_17 : Hid (_) := HOs_15.out.kept kk16
 have HK_17 : Hid (_) := kt HK_15.out kk16
 clear HBX5_15 HBX7_15 HBX9_15 HBX11_15 HBX13_15 HOs_15 HK_15
 clear ho16 hsr16 kk16
 obtain ⟨V18, X18, HX18, HXk18, HXb18⟩ := boxes2 U16 #[.slice p16 S'.ino.length m16, .slice q16 S'.opn.length n16, .slice r16 S'.made.length t16] #[.int .i64 (mR k), .int .i64 0, .int .i64 0, .bool false, .string ⟨#[]⟩, .slice z16 l16 k16] 27 31
 go_upto_region 14 with fail
 rw [HX18.out.1, HX18.out.2]
 obtain ⟨Y18, hY18⟩ : ∃ Y18, X18 + 1 = Y18 := ⟨_, rfl⟩
 rw [hY18] at HXb18 ⊢
 have HA18 : Hid (_) := HXb18.out.1
 have HB18 : Hid (_) := HXb18.out.2.1
 have HLX13X18 : Hid (X13 < X18) := by have h1 := lt_of_heap HBX13_17.out; have h2 := HX18.out.2; have h4 := hY18; show _ < _; omega
 have HLX13Y18 : Hid (X13 < Y18) := by have h1 := lt_of_heap HBX13_17.out; have h2 := HX18.out.2; have h4 := hY18; show _ < _; omega
 have HBX5_19 : Hid (_) := kb HXk18.out HBX5_17.out
 have HBX7_19 : Hid (_) := kb HXk18.out HBX7_17.out
 have HBX9_19 : Hid (_) := kb HXk18.out HBX9_17.out
 have HBX11_19 : Hid (_) := kb HXk18.out HBX11_17.out
 have HBX13_19 : Hid (_) := kb HXk18.out HBX13_17.out
 have HOs_19 : Hid (_) := HOs_17.out.kept HXk18.out
 have HOt_19 : Hid (_) := HOt_16.out.kept HXk18.out
 have HK_19 : Hid (_) := kt HK_17.out HXk18.out
 clear HBX5_17 HBX7_17 HBX9_17 HBX11_17 HBX13_17 HOs_17 HOt_16 HK_17
 clear HX18 HXk18 HXb18 hY18
 have HS : Hid (V18.cell? ⟨Y18, 0, none⟩ = some (.int .i64 (mR k)) ∧ V18.cell? ⟨X18, 0, none⟩ = some (.slice p16 S'.ino.length m16) ∧ V18.cell? ⟨X18, 1, none⟩ = some (.slice q16 S'.opn.length n16) ∧ V18.cell? ⟨X18, 2, none⟩ = some (.slice r16 S'.made.length t16) ∧ V18.cell? ⟨X7, k, none⟩ = some (.string (pR k))) := ⟨cellB HB18.out, cellB HA18.out, cellB HA18.out, cellB HA18.out, cellP hk HBX7_19.out⟩
 have e1 : ((mR k) == (mR k)) = true := by simp
 have e2 : ((mR k) != 0) = false := by simp [HW0.out]
 refine wp_region_held_drew (S := fun w' => w'.cell? ⟨Y18, 0, none⟩ = some (.int .i64 (mR k)) ∧ w'.cell? ⟨X18, 0, none⟩ = some (.slice p16 S'.ino.length m16) ∧ w'.cell? ⟨X18, 1, none⟩ = some (.slice q16 S'.opn.length n16) ∧ w'.cell? ⟨X18, 2, none⟩ = some (.slice r16 S'.made.length t16) ∧ w'.cell? ⟨X7, k, none⟩ = some (.string (pR k))) (by kernel_rfl) ?_ (fun hHeld => ?_)
 · exact HS.out
 refine tkA 0 rfl ?_
 refine tkA 1 rfl ?_
 refine tkA 2 rfl ?_
 refine tkA 3 rfl ?_
 refine tkA 4 rfl ?_
 refine tkA 5 rfl ?_
 refine tkA 6 rfl ?_
 refine tkA 7 rfl ?_
 refine tkA 8 rfl ?_
 refine tkA 9 rfl ?_
 refine tkA 10 rfl ?_
 refine tkA 11 rfl ?_
 refine tkA 12 rfl ?_
 refine tkA 13 rfl ?_
 refine wpAnyH_ready (rs := [14]) (by kernel_rfl) (by simp) ?_
 refine AllReadyH.cons rfl (fun K hK => ?_) AllReadyH.nil
 go_simp
 refine (l_codeK (HOt_19.out.kept (Kept.refl _ _).drew) hb' (hT.out.kept HK_19.out.drew) ⟨13, 0, 0, 0, 0, pR k, ⟨#[]⟩, ⟨#[]⟩⟩ (dl13 hm' (Int.le_refl _) h1' rfl) rfl).mono ?_
 rintro e w9 ⟨rfl, k9⟩
 rw [hst]
 have z9 := sr5 (by assumption) k9
 have HK9 : Hid (Kept [] w w9) := kt HK_19.out.drew k9
 go_wp2_with fail
 refine hK.out _ _ ?_ (fun hHeld => ?_)
 · exact z9
 clear hK K
 try simp only [Act.put, List.setIfInBounds_toArray, List.set_cons_zero, List.set_cons_succ, List.getElem_toArray, List.getElem_cons_zero, List.getElem_cons_succ]
 refine tkA 15 rfl ?_
 refine tkA 16 rfl ?_
 refine tkA 17 rfl ?_
 refine tkA 18 rfl ?_
 refine wpAnyH_done (by kernel_rfl) ?_ _
 clear hHeld
 go_wp2_with fail
 go_ret
 exact ⟨rfl, HK9.out⟩
theorem rem_rb {w : World} (hT0 : Tab w) (a : Int) {k : Nat} (hk : k < 8) (hm : wrap64 ((IntKind.u64.wrap a).tmod 8) = (k : Int)) {S' : Sta} (hp : playR (mS1 7) ⟨10, 0, 0, 0, 0, pR k, ⟨#[]⟩, ⟨#[]⟩⟩ headI = (S', ansC (mR k))) (hw : ¬ mR k = 0) :
  Calls Tryz.prog 5 #[.int .i64 a, .bool true] w fun e w' => e = .returned (.bool true) ∧ Kept [] w w' := by
 have k0 : (k : Int) < 8 := by omega
 have k1 : (0 : Int) ≤ (k : Int) := by omega
 have HW0 : Hid (_) := hw
 clear hw
 have hT : Hid (Tab w) := hT0
 clear hT0
 go_enter Tryz.func5, Tryz.ntmps5
 go_wp2_with fail
 refine (awake_k hT.out).mono ?_
 rintro e U1 ⟨rfl, kk1⟩
 have HK_2 : Hid (Kept [] w U1) := kk1
 clear kk1
 go_wp2_with fail
 refine (l_made1).mono ?_
 rintro e U3 ⟨a3, b3, d3, eu3, rfl, ho3, kk3⟩
 obtain ⟨p3, m3, q3, n3, r3, t3, rfl, rfl, rfl⟩ := formsL ho3 5 1 1 rfl rfl rfl
 have HOs_3 : Hid (_) := ho3.less HK_2.out.size
 have HK_4 : Hid (_) := kt HK_2.out kk3
 clear HK_2
 clear ho3 kk3
 obtain ⟨V5, X5, HX5, HXk5, HXb5⟩ := boxR U3 #[.slice p3 5 m3, .slice q3 1 n3, .slice r3 1 t3] 27
 go_upto_region 4 with fail
 rw [HX5.out.1, HX5.out.2]
 have HOs_6 : Hid (_) := HOs_3.out.kept HXk5.out
 have HK_6 : Hid (_) := kt HK_4.out HXk5.out
 clear HOs_3 HK_4
 clear HX5 HXk5
 obtain ⟨V7, X7, HX7, HXk7, HXb7⟩ := boxR V5 #[.string ⟨#[47, 100]⟩, .string ⟨#[47, 101]⟩, .string ⟨#[47, 102]⟩, .string ⟨#[47, 100, 47, 104]⟩, .string ⟨#[47, 122]⟩, .string ⟨#[47, 102, 47, 120]⟩, .string ⟨#[47, 122, 47, 120]⟩, .string ⟨#[47]⟩] 9
 go_upto_region 5 with fail
 rw [HX7.out.1, HX7.out.2]
 have HBX5_8 : Hid (_) := kb HXk7.out HXb5.out
 have HOs_8 : Hid (_) := HOs_6.out.kept HXk7.out
 have HK_8 : Hid (_) := kt HK_6.out HXk7.out
 clear HXb5 HOs_6 HK_6
 clear HX7 HXk7
 obtain ⟨V9, X9, HX9, HXk9, HXb9⟩ := boxR V7 #[.int .i64 8, .int .i64 8, .int .i64 0, .int .i64 0, .int .i64 1, .int .i64 7, .int .i64 1, .int .i64 9] 3
 go_upto_region 6 with fail
 rw [HX9.out.1, HX9.out.2]
 have HBX5_10 : Hid (_) := kb HXk9.out HBX5_8.out
 have HBX7_10 : Hid (_) := kb HXk9.out HXb7.out
 have HOs_10 : Hid (_) := HOs_8.out.kept HXk9.out
 have HK_10 : Hid (_) := kt HK_8.out HXk9.out
 clear HBX5_8 HXb7 HOs_8 HK_8
 clear HX9 HXk9
 obtain ⟨V11, X11, HX11, HXk11, HXb11⟩ := boxR V9 #[.int .i64 3, .int .i64 0, .int .i64 7, .int .i64 7, .int .i64 1, .int .i64 7, .int .i64 1, .int .i64 9] 3
 go_upto_region 7 with fail
 rw [HX11.out.1, HX11.out.2]
 have HBX5_12 : Hid (_) := kb HXk11.out HBX5_10.out
 have HBX7_12 : Hid (_) := kb HXk11.out HBX7_10.out
 have HBX9_12 : Hid (_) := kb HXk11.out HXb9.out
 have HOs_12 : Hid (_) := HOs_10.out.kept HXk11.out
 have HK_12 : Hid (_) := kt HK_10.out HXk11.out
 clear HBX5_10 HBX7_10 HXb9 HOs_10 HK_10
 clear HX11 HXk11
 go_upto_region 8 with fail
 rw [hm]
 have hP := cellP hk HBX7_12.out
 obtain ⟨V13, X13, HX13, HXk13, HXb13⟩ := boxR V11 #[.int .i64 9, .int .i64 0, .int .i64 0, .int .i64 0, .int .i64 0, .string (pR k), .string ⟨#[]⟩, .string ⟨#[]⟩] 35
 go_upto_region 9 with fail
 rw [HX13.out.1, HX13.out.2]
 have HLw : Hid (w.heap.size ≤ X13) := by have h1 := HK_12.out.size; have h2 := HX13.out.2; show _ ≤ _; omega
 have HLX5X13 : Hid (X5 < X13) := by have h1 := lt_of_heap HBX5_12.out; have h2 := HX13.out.2; show _ < _; omega
 have HLX7X13 : Hid (X7 < X13) := by have h1 := lt_of_heap HBX7_12.out; have h2 := HX13.out.2; show _ < _; omega
 have HLX9X13 : Hid (X9 < X13) := by have h1 := lt_of_heap HBX9_12.out; have h2 := HX13.out.2; show _ < _; omega
 have HLX11X13 : Hid (X11 < X13) := by have h1 := lt_of_heap HXb11.out; have h2 := HX13.out.2; show _ < _; omega
 have HBX5_14 : Hid (_) := kb HXk13.out HBX5_12.out
 have HBX7_14 : Hid (_) := kb HXk13.out HBX7_12.out
 have HBX9_14 : Hid (_) := kb HXk13.out HBX9_12.out
 have HBX11_14 : Hid (_) := kb HXk13.out HXb11.out
 have HOs_14 : Hid (_) := HOs_12.out.kept HXk13.out
 have HK_14 : Hid (_) := kt HK_12.out HXk13.out
 clear HBX5_12 HBX7_12 HBX9_12 HXb11 HOs_12 HK_12
 clear HX13 HXk13
 clear hP
 have hU := cellU hk HBX9_14.out
 go_upto_region 11 with fail
 clear hU
 have c9 : V13.cell? ⟨X13, 0, none⟩ = some (.int .i64 9) := cellB HXb13.out
 have z9 := frozen_of HXb13.out 0
 obtain ⟨V15, hV15⟩ : ∃ V15, V13.setCell ⟨X13, 0, none⟩ (.int .i64 10) = V15 := ⟨_, rfl⟩
 have HBX5_15 : Hid (_) := (block_other (w := V13) (g := X13) (i := 0) (v := .int .i64 10) (by have h9 := HLX5X13.out; omega)).trans HBX5_14.out
 rw [hV15] at HBX5_15
 have HBX7_15 : Hid (_) := (block_other (w := V13) (g := X13) (i := 0) (v := .int .i64 10) (by have h9 := HLX7X13.out; omega)).trans HBX7_14.out
 rw [hV15] at HBX7_15
 have HBX9_15 : Hid (_) := (block_other (w := V13) (g := X13) (i := 0) (v := .int .i64 10) (by have h9 := HLX9X13.out; omega)).trans HBX9_14.out
 rw [hV15] at HBX9_15
 have HBX11_15 : Hid (_) := (block_other (w := V13) (g := X13) (i := 0) (v := .int .i64 10) (by have h9 := HLX11X13.out; omega)).trans HBX11_14.out
 rw [hV15] at HBX11_15
 have HBX13_15 : Hid (V15.heap[X13]? = some (.cells #[.int .i64 10, .int .i64 0, .int .i64 0, .int .i64 0, .int .i64 0, .string (pR k), .string ⟨#[]⟩, .string ⟨#[]⟩] 35 (0, 0))) := by
  show _ = _
  rw [← hV15]
  exact block_set HXb13.out 0 _
 have HOs_15 : Hid (_) := HOs_14.out.keep (kept_set (i := 0) (v := .int .i64 10)) (off_type HOs_14.out HXb13.out (by decide))
 rw [hV15] at HOs_15
 have HK_15 : Hid (_) := HK_14.out.setCell (p := ⟨X13, 0, none⟩) (Or.inr (by have h9 := HLw.out; omega)) (.int .i64 10)
 rw [hV15] at HK_15
 have HV15 : Hid (_) := hV15
 clear hV15
 go_upto_region 12 with fail
 rw [HV15.out]
 clear HBX5_14 HBX7_14 HBX9_14 HBX11_14 HXb13 HOs_14 HK_14 HV15 c9 z9
 have hM := cellM hk HBX11_15.out
 go_upto_region 13 with fail
 clear hM
 obtain ⟨cX5_0, cX5_1, cX5_2, -⟩ := zs3 HBX5_15.out
 obtain ⟨cX13_0, cX13_1, cX13_2, cX13_3, cX13_4, cX13_5, cX13_6, cX13_7⟩ := ys8 HBX13_15.out
 go_wp2_with fail
 refine (l_DoK HOs_15.out md1_7 (hT.out.kept HK_15.out) ⟨10, 0, 0, 0, 0, pR k, ⟨#[]⟩, ⟨#[]⟩⟩ (dl10 mb1_7 (Int.le_refl _) mp1 rfl) hp).mono ?_
 rintro e U16 ⟨a16, b16, d16, eu16, z16, l16, k16, rfl, ho16, hsr16, -, kk16, -⟩
 dsimp only at ho16 ⊢
 obtain ⟨p16, m16, q16, n16, r16, t16, rfl, rfl, rfl⟩ := formsL ho16 S'.ino.length S'.opn.length S'.made.length rfl rfl rfl
 have HOt_16 : Hid (_) := ho16.less HK_15.out.size
 clear cX5_0 cX5_1 cX5_2
 clear cX13_0 cX13_1 cX13_2 cX13_3 cX13_4 cX13_5 cX13_6 cX13_7
 have HBX5_17 : Hid (_) := kb kk16 HBX5_15.out
 have HBX7_17 : Hid (_) := kb kk16 HBX7_15.out
 have HBX9_17 : Hid (_) := kb kk16 HBX9_15.out
 have HBX11_17 : Hid (_) := kb kk16 HBX11_15.out
 have HBX13_17 : Hid (_) := kb kk16 HBX13_15.out
 have HOs_17 : Hid (_) := HOs_15.out.kept kk16
 have HK_17 : Hid (_) := kt HK_15.out kk16
 clear HBX5_15 HBX7_15 HBX9_15 HBX11_15 HBX13_15 HOs_15 HK_15
 clear ho16 hsr16 kk16
 obtain ⟨V18, X18, HX18, HXk18, HXb18⟩ := boxes2 U16 #[.slice p16 S'.ino.length m16, .slice q16 S'.opn.length n16, .slice r16 S'.made.length t16] #[.int .i64 (mR k), .int .i64 0, .int .i64 0, .bool false, .string ⟨#[]⟩, .slice z16 l16 k16] 27 31
 go_upto_region 14 with fail
 rw [HX18.out.1, HX18.out.2]
 obtain ⟨Y18, hY18⟩ : ∃ Y18, X18 + 1 = Y18 := ⟨_, rfl⟩
 rw [hY18] at HXb18 ⊢
 have HA18 : Hid (_) := HXb18.out.1
 have HB18 : Hid (_) := HXb18.out.2.1
 have HLX13X18 : Hid (X13 < X18) := by have h1 := lt_of_heap HBX13_17.out; have h2 := HX18.out.2; have h4 := hY18; show _ < _; omega
 have HLX13Y18 : Hid (X13 < Y18) := by have h1 := lt_of_heap HBX13_17.out; have h2 := HX18.out.2; have h4 := hY18; show _ < _; omega
 have HBX5_19 : Hid (_) := kb HXk18.out HBX5_17.out
 have HBX7_19 : Hid (_) := kb HXk18.out HBX7_17.out
 have HBX9_19 : Hid (_) := kb HXk18.out HBX9_17.out
 have HBX11_19 : Hid (_) := kb HXk18.out HBX11_17.out
 have HBX13_19 : Hid (_) := kb HXk18.out HBX13_17.out
 have HOs_19 : Hid (_) := HOs_17.out.kept HXk18.out
 have HOt_19 : Hid (_) := HOt_16.out.kept HXk18.out
 have HK_19 : Hid (_) := kt HK_17.out HXk18.out
 clear HBX5_17 HBX7_17 HBX9_17 HBX11_17 HBX13_17 HOs_17 HOt_16 HK_17
 clear HX18 HXk18 HXb18 hY18
 have HS : Hid (V18.cell? ⟨Y18, 0, none⟩ = some (.int .i64 (mR k)) ∧ V18.cell? ⟨X18, 0, none⟩ = some (.slice p16 S'.ino.length m16) ∧ V18.cell? ⟨X18, 1, none⟩ = some (.slice q16 S'.opn.length n16) ∧ V18.cell? ⟨X18, 2, none⟩ = some (.slice r16 S'.made.length t16) ∧ V18.cell? ⟨X7, k, none⟩ = some (.string (pR k))) := ⟨cellB HB18.out, cellB HA18.out, cellB HA18.out, cellB HA18.out, cellP hk HBX7_19.out⟩
 have e1 : ((mR k) == (mR k)) = true := by simp
 have e2 : ((mR k) != 0) = true := by have h9 : ¬ (mR k) = 0 := HW0.out; simp [h9]
 refine wp_region_held_drew (S := fun w' => w'.cell? ⟨Y18, 0, none⟩ = some (.int .i64 (mR k)) ∧ w'.cell? ⟨X18, 0, none⟩ = some (.slice p16 S'.ino.length m16) ∧ w'.cell? ⟨X18, 1, none⟩ = some (.slice q16 S'.opn.length n16) ∧ w'.cell? ⟨X18, 2, none⟩ = some (.slice r16 S'.made.length t16) ∧ w'.cell? ⟨X7, k, none⟩ = some (.string (pR k))) (by kernel_rfl) ?_ (fun hHeld => ?_)
 · exact HS.out
 refine tkA 0 rfl ?_
 refine tkA 1 rfl ?_
 refine tkA 2 rfl ?_
 refine tkA 3 rfl ?_
 refine tkA 4 rfl ?_
 refine tkA 5 rfl ?_
 refine tkA 6 rfl ?_
 refine tkA 7 rfl ?_
 refine skA 8 rfl ?_
 refine skA 9 rfl ?_
 refine skA 10 rfl ?_
 refine skA 11 rfl ?_
 refine skA 12 rfl ?_
 refine skA 13 rfl ?_
 refine skA 14 rfl ?_
 refine skA 15 rfl ?_
 refine tkA 16 rfl ?_
 refine tkA 17 rfl ?_
 refine tkA 18 rfl ?_
 refine wpAnyH_done (by kernel_rfl) ?_ _
 clear hHeld
 go_wp2_with fail
 go_ret
 exact ⟨rfl, HK_19.out.drew⟩
theorem rk0false {w : World} (hT : Tab w) (a : Int) (hm : wrap64 ((IntKind.u64.wrap a).tmod 8) = ((0 : Nat) : Int)) : Calls Tryz.prog 5 #[.int .i64 a, .bool false] w fun e w' => e = .returned (.bool true) ∧ Kept [] w w' :=
 rem_ub hT a (by decide) hm (S' := (playR (mS1 7) ⟨9, 0, 0, 0, 0, pR 0, ⟨#[]⟩, ⟨#[]⟩⟩ headI).1) (by kernel_rfl) (by decide)
theorem rk0true {w : World} (hT : Tab w) (a : Int) (hm : wrap64 ((IntKind.u64.wrap a).tmod 8) = ((0 : Nat) : Int)) : Calls Tryz.prog 5 #[.int .i64 a, .bool true] w fun e w' => e = .returned (.bool true) ∧ Kept [] w w' :=
 rem_rb hT a (by decide) hm (S' := (playR (mS1 7) ⟨10, 0, 0, 0, 0, pR 0, ⟨#[]⟩, ⟨#[]⟩⟩ headI).1) (by kernel_rfl) (by decide)
theorem rk1false {w : World} (hT : Tab w) (a : Int) (hm : wrap64 ((IntKind.u64.wrap a).tmod 8) = ((1 : Nat) : Int)) : Calls Tryz.prog 5 #[.int .i64 a, .bool false] w fun e w' => e = .returned (.bool true) ∧ Kept [] w w' :=
 rem_ub hT a (by decide) hm (S' := (playR (mS1 7) ⟨9, 0, 0, 0, 0, pR 1, ⟨#[]⟩, ⟨#[]⟩⟩ headI).1) (by kernel_rfl) (by decide)
theorem rk1true {w : World} (hT : Tab w) (a : Int) (hm : wrap64 ((IntKind.u64.wrap a).tmod 8) = ((1 : Nat) : Int)) : Calls Tryz.prog 5 #[.int .i64 a, .bool true] w fun e w' => e = .returned (.bool true) ∧ Kept [] w w' :=
 rem_rg hT a (by decide) hm (S' := (playR (mS1 7) ⟨10, 0, 0, 0, 0, pR 1, ⟨#[]⟩, ⟨#[]⟩⟩ headI).1) (by kernel_rfl) rfl (by kernel_rfl) (bd_of (by kernel_rfl)) (by decide +kernel) (by kernel_rfl)
theorem rk2false {w : World} (hT : Tab w) (a : Int) (hm : wrap64 ((IntKind.u64.wrap a).tmod 8) = ((2 : Nat) : Int)) : Calls Tryz.prog 5 #[.int .i64 a, .bool false] w fun e w' => e = .returned (.bool true) ∧ Kept [] w w' :=
 rem_ug hT a (by decide) hm (S' := (playR (mS1 7) ⟨9, 0, 0, 0, 0, pR 2, ⟨#[]⟩, ⟨#[]⟩⟩ headI).1) (by kernel_rfl) rfl (by kernel_rfl) (bd_of (by kernel_rfl)) (by decide +kernel) (by kernel_rfl)
theorem rk2true {w : World} (hT : Tab w) (a : Int) (hm : wrap64 ((IntKind.u64.wrap a).tmod 8) = ((2 : Nat) : Int)) : Calls Tryz.prog 5 #[.int .i64 a, .bool true] w fun e w' => e = .returned (.bool true) ∧ Kept [] w w' :=
 rem_rb hT a (by decide) hm (S' := (playR (mS1 7) ⟨10, 0, 0, 0, 0, pR 2, ⟨#[]⟩, ⟨#[]⟩⟩ headI).1) (by kernel_rfl) (by decide)
theorem rk3false {w : World} (hT : Tab w) (a : Int) (hm : wrap64 ((IntKind.u64.wrap a).tmod 8) = ((3 : Nat) : Int)) : Calls Tryz.prog 5 #[.int .i64 a, .bool false] w fun e w' => e = .returned (.bool true) ∧ Kept [] w w' :=
 rem_ug hT a (by decide) hm (S' := (playR (mS1 7) ⟨9, 0, 0, 0, 0, pR 3, ⟨#[]⟩, ⟨#[]⟩⟩ headI).1) (by kernel_rfl) rfl (by kernel_rfl) (bd_of (by kernel_rfl)) (by decide +kernel) (by kernel_rfl)
theorem rk3true {w : World} (hT : Tab w) (a : Int) (hm : wrap64 ((IntKind.u64.wrap a).tmod 8) = ((3 : Nat) : Int)) : Calls Tryz.prog 5 #[.int .i64 a, .bool true] w fun e w' => e = .returned (.bool true) ∧ Kept [] w w' :=
 rem_rb hT a (by decide) hm (S' := (playR (mS1 7) ⟨10, 0, 0, 0, 0, pR 3, ⟨#[]⟩, ⟨#[]⟩⟩ headI).1) (by kernel_rfl) (by decide)
theorem rk4false {w : World} (hT : Tab w) (a : Int) (hm : wrap64 ((IntKind.u64.wrap a).tmod 8) = ((4 : Nat) : Int)) : Calls Tryz.prog 5 #[.int .i64 a, .bool false] w fun e w' => e = .returned (.bool true) ∧ Kept [] w w' :=
 rem_ub hT a (by decide) hm (S' := (playR (mS1 7) ⟨9, 0, 0, 0, 0, pR 4, ⟨#[]⟩, ⟨#[]⟩⟩ headI).1) (by kernel_rfl) (by decide)
theorem rk4true {w : World} (hT : Tab w) (a : Int) (hm : wrap64 ((IntKind.u64.wrap a).tmod 8) = ((4 : Nat) : Int)) : Calls Tryz.prog 5 #[.int .i64 a, .bool true] w fun e w' => e = .returned (.bool true) ∧ Kept [] w w' :=
 rem_rb hT a (by decide) hm (S' := (playR (mS1 7) ⟨10, 0, 0, 0, 0, pR 4, ⟨#[]⟩, ⟨#[]⟩⟩ headI).1) (by kernel_rfl) (by decide)
theorem rk5false {w : World} (hT : Tab w) (a : Int) (hm : wrap64 ((IntKind.u64.wrap a).tmod 8) = ((5 : Nat) : Int)) : Calls Tryz.prog 5 #[.int .i64 a, .bool false] w fun e w' => e = .returned (.bool true) ∧ Kept [] w w' :=
 rem_ub hT a (by decide) hm (S' := (playR (mS1 7) ⟨9, 0, 0, 0, 0, pR 5, ⟨#[]⟩, ⟨#[]⟩⟩ headI).1) (by kernel_rfl) (by decide)
theorem rk5true {w : World} (hT : Tab w) (a : Int) (hm : wrap64 ((IntKind.u64.wrap a).tmod 8) = ((5 : Nat) : Int)) : Calls Tryz.prog 5 #[.int .i64 a, .bool true] w fun e w' => e = .returned (.bool true) ∧ Kept [] w w' :=
 rem_rb hT a (by decide) hm (S' := (playR (mS1 7) ⟨10, 0, 0, 0, 0, pR 5, ⟨#[]⟩, ⟨#[]⟩⟩ headI).1) (by kernel_rfl) (by decide)
theorem rk6false {w : World} (hT : Tab w) (a : Int) (hm : wrap64 ((IntKind.u64.wrap a).tmod 8) = ((6 : Nat) : Int)) : Calls Tryz.prog 5 #[.int .i64 a, .bool false] w fun e w' => e = .returned (.bool true) ∧ Kept [] w w' :=
 rem_ub hT a (by decide) hm (S' := (playR (mS1 7) ⟨9, 0, 0, 0, 0, pR 6, ⟨#[]⟩, ⟨#[]⟩⟩ headI).1) (by kernel_rfl) (by decide)
theorem rk6true {w : World} (hT : Tab w) (a : Int) (hm : wrap64 ((IntKind.u64.wrap a).tmod 8) = ((6 : Nat) : Int)) : Calls Tryz.prog 5 #[.int .i64 a, .bool true] w fun e w' => e = .returned (.bool true) ∧ Kept [] w w' :=
 rem_rb hT a (by decide) hm (S' := (playR (mS1 7) ⟨10, 0, 0, 0, 0, pR 6, ⟨#[]⟩, ⟨#[]⟩⟩ headI).1) (by kernel_rfl) (by decide)
theorem rk7false {w : World} (hT : Tab w) (a : Int) (hm : wrap64 ((IntKind.u64.wrap a).tmod 8) = ((7 : Nat) : Int)) : Calls Tryz.prog 5 #[.int .i64 a, .bool false] w fun e w' => e = .returned (.bool true) ∧ Kept [] w w' :=
 rem_ub hT a (by decide) hm (S' := (playR (mS1 7) ⟨9, 0, 0, 0, 0, pR 7, ⟨#[]⟩, ⟨#[]⟩⟩ headI).1) (by kernel_rfl) (by decide)
theorem rk7true {w : World} (hT : Tab w) (a : Int) (hm : wrap64 ((IntKind.u64.wrap a).tmod 8) = ((7 : Nat) : Int)) : Calls Tryz.prog 5 #[.int .i64 a, .bool true] w fun e w' => e = .returned (.bool true) ∧ Kept [] w w' :=
 rem_rb hT a (by decide) hm (S' := (playR (mS1 7) ⟨10, 0, 0, 0, 0, pR 7, ⟨#[]⟩, ⟨#[]⟩⟩ headI).1) (by kernel_rfl) (by decide)
theorem mod_lt (a : Int) (n : Int) (hn : 0 < n) (h9 : n ≤ 1000) : ∃ k : Nat, (k : Int) < n ∧ wrap64 ((IntKind.u64.wrap a).tmod n) = (k : Int) := by
 have h0 : 0 ≤ IntKind.u64.wrap a := by simp only [IntKind.wrap, IntKind.signed, IntKind.bits]; simp; omega
 have h1 := Int.tmod_nonneg n h0
 have h2 := Int.tmod_lt_of_pos (IntKind.u64.wrap a) hn
 refine ⟨((IntKind.u64.wrap a).tmod n).toNat, by omega, ?_⟩
 unfold wrap64
 omega
theorem rem_any {w : World} (hT : Tab w) (a : Int) (b : Bool) : Calls Tryz.prog 5 #[.int .i64 a, .bool b] w fun e w' => e = .returned (.bool true) ∧ Kept [] w w' := by
 obtain ⟨k, hk, hm⟩ := mod_lt a 8 (by decide) (by decide)
 have hc : k = 0 ∨ k = 1 ∨ k = 2 ∨ k = 3 ∨ k = 4 ∨ k = 5 ∨ k = 6 ∨ k = 7 := by omega
 rcases b with _ | _ <;> rcases hc with rfl | rfl | rfl | rfl | rfl | rfl | rfl | rfl
 · exact rk0false hT a hm
 · exact rk1false hT a hm
 · exact rk2false hT a hm
 · exact rk3false hT a hm
 · exact rk4false hT a hm
 · exact rk5false hT a hm
 · exact rk6false hT a hm
 · exact rk7false hT a hm
 · exact rk0true hT a hm
 · exact rk1true hT a hm
 · exact rk2true hT a hm
 · exact rk3true hT a hm
 · exact rk4true hT a hm
 · exact rk5true hT a hm
 · exact rk6true hT a hm
 · exact rk7true hT a hm
end Go.Proofs.YtjneoegbknclgaaGreatDoor
