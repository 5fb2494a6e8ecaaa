/-
  Joined of my texts On Laid.
-/
import Derived.Test.YtjneoegbknclgaaGreatDoorJo47
import Derived.Test.YtjneoegbknclgaaGreatDoorJo3
import Derived.ProofKit
import Derived.LaidMore
import Derived.OpenShut
import Derived.Lay
import Derived.Stop.Joined
set_option linter.unusedVariables false
set_option linter.unusedSimpArgs false
set_option maxRecDepth 100000
set_option maxHeartbeats 8000000
namespace Go.Proofs.YtjneoegbknclgaaGreatDoor
open Go.RowKit
def oS (c : Int) : Nat → Sta
 | 0 => mS3 7
 | i + 1 => (playR (oS c i) ⟨2, c, 0, 0, 0, ⟨#[47, 103]⟩, ⟨#[]⟩, ⟨#[]⟩⟩ headI).1
def oC (c : Int) (k g : Nat) : Sta := (playR (oS c k) ⟨3, c, (g : Int), 0, 0, ⟨#[]⟩, ⟨#[]⟩, ⟨#[]⟩⟩ headI).1
theorem o_play {c : Int} (hc : c = 1 ∨ c = 2) {i : Nat} (hi : i < 8) : playR (oS c i) ⟨2, c, 0, 0, 0, ⟨#[47, 103]⟩, ⟨#[]⟩, ⟨#[]⟩⟩ headI = (oS c (i + 1), ⟨if i < 4 then 0 else 10, if i < 4 then (i : Int) else 0, 0, false, ⟨#[]⟩, []⟩) := by
 have h8 : i = 0 ∨ i = 1 ∨ i = 2 ∨ i = 3 ∨ i = 4 ∨ i = 5 ∨ i = 6 ∨ i = 7 := by omega
 rcases hc with rfl | rfl <;> rcases h8 with rfl | rfl | rfl | rfl | rfl | rfl | rfl | rfl <;> (show _ = _; kernel_rfl)
theorem o_may {c : Int} (hc : c = 1 ∨ c = 2) {i : Nat} (hi : i < 8) : (mayB (oS c i) && bdB (oS c i) && decide ((oS c i).made.length = 3) && decide ((playR (oS c i) ⟨2, c, 0, 0, 0, ⟨#[47, 100]⟩, ⟨#[]⟩, ⟨#[]⟩⟩ headI).2.code = 8) && decide ((playR (oS c i) ⟨7, 3 - c, 0, 0, 0, ⟨#[]⟩, ⟨#[]⟩, ⟨#[]⟩⟩ headI).2.code = 4)) = true := by
 have h8 : i = 0 ∨ i = 1 ∨ i = 2 ∨ i = 3 ∨ i = 4 ∨ i = 5 ∨ i = 6 ∨ i = 7 := by omega
 rcases hc with rfl | rfl <;> rcases h8 with rfl | rfl | rfl | rfl | rfl | rfl | rfl | rfl <;> (show _ = _; kernel_rfl)
theorem o_close {c : Int} (hc : c = 1 ∨ c = 2) {i : Nat} (hi : i < 8) {g : Nat} (hg : g < 4) : playR (oS c i) ⟨3, c, (g : Int), 0, 0, ⟨#[]⟩, ⟨#[]⟩, ⟨#[]⟩⟩ headI = (oC c i g, ansC (if g < i then 0 else 4)) := by
 have h8 : i = 0 ∨ i = 1 ∨ i = 2 ∨ i = 3 ∨ i = 4 ∨ i = 5 ∨ i = 6 ∨ i = 7 := by omega
 have h4 : g = 0 ∨ g = 1 ∨ g = 2 ∨ g = 3 := by omega
 rcases hc with rfl | rfl <;> rcases h8 with rfl | rfl | rfl | rfl | rfl | rfl | rfl | rfl <;> rcases h4 with rfl | rfl | rfl | rfl <;> (show _ = _; kernel_rfl)
theorem o_gone {c : Int} (hc : c = 1 ∨ c = 2) {i : Nat} (hi : i < 8) {g : Nat} (hg : g < 4) : (mayB (oC c i g) && bdB (oC c i g) && decide ((oC c i g).made.length = 3) && decide ((playR (oC c i g) ⟨7, c, (g : Int), 0, 0, ⟨#[]⟩, ⟨#[]⟩, ⟨#[]⟩⟩ headI).2.code = 4) && decide ((playR (oC c i g) ⟨7, 0, 0, 0, 0, ⟨#[]⟩, ⟨#[]⟩, ⟨#[]⟩⟩ headI).2.code = 0)) = true := by
 have h8 : i = 0 ∨ i = 1 ∨ i = 2 ∨ i = 3 ∨ i = 4 ∨ i = 5 ∨ i = 6 ∨ i = 7 := by omega
 have h4 : g = 0 ∨ g = 1 ∨ g = 2 ∨ g = 3 := by omega
 rcases hc with rfl | rfl <;> rcases h8 with rfl | rfl | rfl | rfl | rfl | rfl | rfl | rfl <;> rcases h4 with rfl | rfl | rfl | rfl <;> (show _ = _; kernel_rfl)
theorem o_facts {c : Int} (hc : c = 1 ∨ c = 2) {i : Nat} (hi : i < 8) : DoL (oS c i) ⟨2, c, 0, 0, 0, ⟨#[47, 103]⟩, ⟨#[]⟩, ⟨#[]⟩⟩ ∧ Bd (oS c i) ∧ DoL (oS c i) ⟨2, c, 0, 0, 0, ⟨#[47, 100]⟩, ⟨#[]⟩, ⟨#[]⟩⟩ ∧ DoL (oS c i) ⟨7, 3 - c, 0, 0, 0, ⟨#[]⟩, ⟨#[]⟩, ⟨#[]⟩⟩ ∧ (playR (oS c i) ⟨2, c, 0, 0, 0, ⟨#[47, 100]⟩, ⟨#[]⟩, ⟨#[]⟩⟩ headI).2.code = 8 ∧ (playR (oS c i) ⟨7, 3 - c, 0, 0, 0, ⟨#[]⟩, ⟨#[]⟩, ⟨#[]⟩⟩ headI).2.code = 4 ∧ ∀ g : Nat, DoL (oS c i) ⟨3, c, (g : Int), 0, 0, ⟨#[]⟩, ⟨#[]⟩, ⟨#[]⟩⟩ := by
 have h := o_may hc hi
 simp only [Bool.and_eq_true, decide_eq_true_eq] at h
 obtain ⟨⟨⟨⟨h1, h2⟩, h3⟩, h4⟩, h5⟩ := h
 refine ⟨dl2 h1 ?_ ?_ rfl, bd_of h2, dl2 h1 ?_ ?_ rfl, dl7 h1 ?_ ?_ rfl, h4, h5, fun g => dl3 h1 ?_ ?_ rfl⟩ <;> (dsimp only; first | omega | (rw [h3]; omega))
theorem o_facts2 {c : Int} (hc : c = 1 ∨ c = 2) {i : Nat} (hi : i < 8) {g : Nat} (hg : g < 4) : Bd (oC c i g) ∧ DoL (oC c i g) ⟨7, c, (g : Int), 0, 0, ⟨#[]⟩, ⟨#[]⟩, ⟨#[]⟩⟩ ∧ DoL (oC c i g) ⟨7, 0, 0, 0, 0, ⟨#[]⟩, ⟨#[]⟩, ⟨#[]⟩⟩ ∧ (playR (oC c i g) ⟨7, c, (g : Int), 0, 0, ⟨#[]⟩, ⟨#[]⟩, ⟨#[]⟩⟩ headI).2.code = 4 ∧ (playR (oC c i g) ⟨7, 0, 0, 0, 0, ⟨#[]⟩, ⟨#[]⟩, ⟨#[]⟩⟩ headI).2.code = 0 := by
 have h := o_gone hc hi hg
 simp only [Bool.and_eq_true, decide_eq_true_eq] at h
 obtain ⟨⟨⟨⟨h1, h2⟩, h3⟩, h4⟩, h5⟩ := h
 refine ⟨bd_of h2, dl7 h1 ?_ ?_ rfl, dl7 h1 ?_ ?_ rfl, h4, h5⟩ <;> (dsimp only; first | omega | (rw [h3]; omega))
theorem opens_w {w : World} (hT0 : Tab w) (a b gg : Int) {c : Int} {k g : Nat} (ha : wrap64 (1 + bits .and .i64 a 1) = c) (hb : bits .and .i64 b 7 = (k : Int)) (hgg : bits .and .i64 gg 3 = (g : Int)) (hc : c = 1 ∨ c = 2) (hk : k < 8) (hg : g < 4) :
  Calls Tryz.prog 7 #[.int .i64 a, .int .i64 b, .int .i64 gg] w fun e w' => e = .returned (.bool true) ∧ Kept [] w w' := by
 have hT : Hid (Tab w) := hT0
 clear hT0
 go_enter Tryz.func7, Tryz.ntmps7
 go_wp2_with fail
 refine (awake_k hT.out).mono ?_
 rintro e U1 ⟨rfl, kk1⟩
 have HK_2 : Hid (Kept [] w U1) := kk1
 clear kk1
 go_wp2_with fail
 refine (l_made3).mono ?_
 rintro e U3 ⟨a3, b3, d3, eu3, rfl, ho3, kk3⟩
 obtain ⟨p3, m3, q3, n3, r3, t3, rfl, rfl, rfl⟩ := formsL ho3 5 1 3 rfl rfl rfl
 have HOs_3 : Hid (_) := ho3.less HK_2.out.size
 have HK_4 : Hid (_) := kt HK_2.out kk3
 clear HK_2
 clear ho3 kk3
 obtain ⟨V5, X5, HX5, HXk5, HXb5⟩ := boxR U3 #[.slice p3 5 m3, .slice q3 1 n3, .slice r3 3 t3] 27
 go_upto_region 4 with fail
 rw [HX5.out.1, HX5.out.2]
 have HLw : Hid (w.heap.size ≤ X5) := by have h1 := HK_4.out.size; have h2 := HX5.out.2; show _ ≤ _; omega
 have HOs_6 : Hid (_) := HOs_3.out.kept HXk5.out
 have HK_6 : Hid (_) := kt HK_4.out HXk5.out
 clear HOs_3 HK_4
 clear HX5 HXk5
 go_upto_region 6 with fail
 rw [ha]
 have HC0 : Hid (Hc w V5 X5 (.slice p3 5 m3) (.slice q3 1 n3) (.slice r3 3 t3) eu3 (oS c 0)) := ⟨HXb5.out, HOs_6.out, off_type HOs_6.out HXb5.out (by decide), HLw.out, HK_6.out⟩
 clear HOs_6 HXb5 HK_6
 go_wp2_with fail
 go_loopw [10] (fun i wr => ∃ (j : Nat) (v1 v2 v3 : Value) (ev : List Value), i = .int .i64 (j : Int) ∧ j ≤ k ∧ Hid (Hc w wr X5 v1 v2 v3 ev (oS c j))) (fun i _ => ((k : Int) - intOf i).toNat)
 case atStart => exact ⟨0, _, _, _, _, rfl, by omega, HC0.out⟩
 case round =>
  obtain ⟨j, v1, v2, v3, ev, rfl, hj, HJ⟩ := hrel
  clear HC0
  obtain ⟨a1, c1, a2, c2, a3, c3, rfl, rfl, rfl⟩ := formsL HJ.out.os _ _ _ rfl rfl rfl
  obtain ⟨x0, x1, x2, -⟩ := zs3 HJ.out.box
  by_cases hlt : j < k
  ·
   have i0 : (j : Int) < (k : Int) := by omega
   have hF := o_facts hc (i := j) (by omega)
   go_wp2_with fail
   refine (l_DoK HJ.out.os hF.2.1 (hT.out.kept HJ.out.k) ⟨2, c, 0, 0, 0, ⟨#[47, 103]⟩, ⟨#[]⟩, ⟨#[]⟩⟩ hF.1 (o_play hc (i := j) (by omega))).mono ?_
   rintro e U ⟨p1, p2, p3, eu, z, l, kk, rfl, ho, -, -, k1, -⟩
   dsimp only at ho ⊢
   obtain ⟨a1', c1', a2', c2', a3', c3', rfl, rfl, rfl⟩ := formsL ho _ _ _ rfl rfl rfl
   clear x0 x1 x2 hF
   obtain ⟨V, T, HX, HXk, HXb⟩ := boxes2 U #[.slice a1' (oS c (j + 1)).ino.length c1', .slice a2' (oS c (j + 1)).opn.length c2', .slice a3' (oS c (j + 1)).made.length c3'] #[.int .i64 (if j < 4 then 0 else 10), .int .i64 (if j < 4 then (j : Int) else 0), .int .i64 0, .bool false, .string ⟨#[]⟩, .slice z l kk] 27 31
   have HJ2 : Hid (_) := (HJ.out.kept k1).kept HXk.out
   have HO2 : Hid (_) := (ho.kept HXk.out).less HJ.out.k.size
   go_upto_region 10 with fail
   rw [HX.out.1, HX.out.2]
   have HC2 : Hid (_) := HJ2.out.putZ HO2.out
   obtain ⟨r0, r1, -⟩ := rs6 HXb.out.2.1
   obtain ⟨y0, y1, y2, -⟩ := zs3 HXb.out.1
   obtain ⟨x0, x1, x2, s0, s1, s2⟩ := zs3 HJ2.out.box
   clear ho k1 HX HXk HXb
   obtain ⟨W5, hW5⟩ : ∃ W5, laidZ V X5 (.slice a1' (oS c (j + 1)).ino.length c1') (.slice a2' (oS c (j + 1)).opn.length c2') (.slice a3' (oS c (j + 1)).made.length c3') = W5 := ⟨_, rfl⟩
   rw [hW5] at HC2
   unfold Go.Proofs.YtjneoegbknclgaaGreatDoor.laidZ at hW5
   have HW5 : Hid (_) := hW5
   have hj1 : ((j + 1 : Nat) : Int) = (j : Int) + 1 := by omega
   clear hW5
   by_cases h4 : j < 4
   ·
    have e0 : (if j < 4 then (0 : Int) else 10) = 0 := if_pos h4
    have e1 : (if j < 4 then (j : Int) else 0) = (j : Int) := if_pos h4
    rw [e0] at r0
    rw [e1] at r1
    have q0 : decide ((j : Int) < 4) = true := decide_eq_true (by omega)
    have q1 : ((j : Int) != (j : Int)) = false := by simp
    have q2 : (j : Int) < 4 := by omega
    have q3 : decide ((4 : Int) ≤ (j : Int)) = false := decide_eq_false (by omega)
    have q4 : ¬ (4 : Int) ≤ (j : Int) := by omega
    clear e0 e1
    go_upto_region 8 with fail
    rw [HW5.out]
    clear r0 r1 y0 y1 y2 x0 x1 x2 s0 s1 s2 HW5
    go_wp2_with fail
    go_roundw
    case rel => exact ⟨j + 1, _, _, _, _, by rw [hj1], by omega, HC2.out⟩
    case measure => simp [intOf]; omega
   ·
    have e0 : (if j < 4 then (0 : Int) else 10) = 10 := if_neg h4
    have e1 : (if j < 4 then (j : Int) else 0) = 0 := if_neg h4
    rw [e0] at r0
    rw [e1] at r1
    have q0 : decide ((j : Int) < 4) = false := decide_eq_false (by omega)
    have q2 : ¬ (j : Int) < 4 := by omega
    have q3 : decide ((4 : Int) ≤ (j : Int)) = true := decide_eq_true (by omega)
    have q4 : (4 : Int) ≤ (j : Int) := by omega
    clear e0 e1
    go_upto_region 8 with fail
    rw [HW5.out]
    clear r0 r1 y0 y1 y2 x0 x1 x2 s0 s1 s2 HW5
    go_wp2_with fail
    go_roundw
    case rel => exact ⟨j + 1, _, _, _, _, by rw [hj1], by omega, HC2.out⟩
    case measure => simp [intOf]; omega
  ·
   have hjk : j = k := by omega
   subst hjk
   have hF := o_facts hc (i := j) (by omega)
   have hG := o_facts2 hc (i := j) (by omega) hg
   go_upto_region 14 with fail
   (try rw [hgg])
   go_wp2_with fail
   refine (l_DoK HJ.out.os hF.2.1 (hT.out.kept HJ.out.k) ⟨3, c, (g : Int), 0, 0, ⟨#[]⟩, ⟨#[]⟩, ⟨#[]⟩⟩ (hF.2.2.2.2.2.2 g) (o_close hc (i := j) (by omega) hg)).mono ?_
   rintro e U ⟨p1, p2, p3, eu, z, l, kk, rfl, ho, -, -, k1, -⟩
   dsimp only [ansC] at ho ⊢
   obtain ⟨a1', c1', a2', c2', a3', c3', rfl, rfl, rfl⟩ := formsL ho _ _ _ rfl rfl rfl
   clear x0 x1 x2
   obtain ⟨V, T, HX, HXk, HXb⟩ := boxes2 U #[.slice a1' (oC c j g).ino.length c1', .slice a2' (oC c j g).opn.length c2', .slice a3' (oC c j g).made.length c3'] #[.int .i64 (if g < j then 0 else 4), .int .i64 0, .int .i64 0, .bool false, .string ⟨#[]⟩, .slice z l kk] 27 31
   have HJ2 : Hid (_) := (HJ.out.kept k1).kept HXk.out
   have HO2 : Hid (_) := (ho.kept HXk.out).less HJ.out.k.size
   go_upto_region 15 with fail
   rw [HX.out.1, HX.out.2]
   obtain ⟨r0, -⟩ := rs6 HXb.out.2.1
   have HT2 : Hid (_) := HXb.out.1
   obtain ⟨y0, y1, y2, -⟩ := zs3 HT2.out
   clear ho k1 HX HXk HXb
   have HF : Hid (_ ∧ _) := hF
   have HG : Hid (_ ∧ _) := hG
   have h3c : wrap64 (3 - c) = 3 - c := by unfold wrap64; omega
   clear hF hG
   by_cases h5 : g < j
   ·
    have e0 : (if g < j then (0 : Int) else 4) = 0 := if_pos h5
    rw [e0] at r0
    have q0 : (g : Int) < (j : Int) := by omega
    have q1 : decide ((g : Int) < (j : Int)) = true := decide_eq_true q0
    clear e0
    go_wp2_with fail
    refine (l_codeK HO2.out HG.out.1 (hT.out.kept HJ2.out.k) ⟨7, c, (g : Int), 0, 0, ⟨#[]⟩, ⟨#[]⟩, ⟨#[]⟩⟩ HG.out.2.1 rfl).mono ?_
    rintro e U3 ⟨rfl, k3⟩
    dsimp only
    have HJ3 : Hid (_) := HJ2.out.kept k3
    have HO3 : Hid (_) := HO2.out.kept k3
    have HT3 : Hid (_) := kb k3 HT2.out
    clear k3 HJ2 HO2 HT2
    rw [HG.out.2.2.2.1]
    clear y0 y1 y2 r0
    obtain ⟨x0, x1, x2, -⟩ := zs3 HJ3.out.box
    go_wp2_with fail
    refine (l_codeK HJ3.out.os HF.out.2.1 (hT.out.kept HJ3.out.k) ⟨2, c, 0, 0, 0, ⟨#[47, 100]⟩, ⟨#[]⟩, ⟨#[]⟩⟩ HF.out.2.2.1 rfl).mono ?_
    rintro e U4 ⟨rfl, k4⟩
    dsimp only
    have HJ4 : Hid (_) := HJ3.out.kept k4
    have HO4 : Hid (_) := HO3.out.kept k4
    have HT4 : Hid (_) := kb k4 HT3.out
    clear k4 HJ3 HO3 HT3
    rw [HF.out.2.2.2.2.1]
    clear x0 x1 x2
    obtain ⟨x0, x1, x2, -⟩ := zs3 HJ4.out.box
    go_wp2_with fail
    (try rw [h3c])
    refine (l_codeK HJ4.out.os HF.out.2.1 (hT.out.kept HJ4.out.k) ⟨7, 3 - c, 0, 0, 0, ⟨#[]⟩, ⟨#[]⟩, ⟨#[]⟩⟩ HF.out.2.2.2.1 rfl).mono ?_
    rintro e U5 ⟨rfl, k5⟩
    dsimp only
    have HJ5 : Hid (_) := HJ4.out.kept k5
    have HO5 : Hid (_) := HO4.out.kept k5
    have HT5 : Hid (_) := kb k5 HT4.out
    clear k5 HJ4 HO4 HT4
    rw [HF.out.2.2.2.2.2.1]
    clear x0 x1 x2
    obtain ⟨y0, y1, y2, -⟩ := zs3 HT5.out
    go_wp2_with fail
    refine (l_codeK HO5.out HG.out.1 (hT.out.kept HJ5.out.k) ⟨7, 0, 0, 0, 0, ⟨#[]⟩, ⟨#[]⟩, ⟨#[]⟩⟩ HG.out.2.2.1 rfl).mono ?_
    rintro e U6 ⟨rfl, k6⟩
    dsimp only
    have HJ6 : Hid (_) := HJ5.out.kept k6
    have HO6 : Hid (_) := HO5.out.kept k6
    have HT6 : Hid (_) := kb k6 HT5.out
    clear k6 HJ5 HO5 HT5
    rw [HG.out.2.2.2.2]
    clear y0 y1 y2
    go_wp2_with fail
    go_ret
    exact ⟨rfl, HJ6.out.k⟩
   ·
    have e0 : (if g < j then (0 : Int) else 4) = 4 := if_neg h5
    rw [e0] at r0
    have q0 : ¬ (g : Int) < (j : Int) := by omega
    have q1 : decide ((g : Int) < (j : Int)) = false := decide_eq_false q0
    clear e0
    go_wp2_with fail
    refine (l_codeK HO2.out HG.out.1 (hT.out.kept HJ2.out.k) ⟨7, c, (g : Int), 0, 0, ⟨#[]⟩, ⟨#[]⟩, ⟨#[]⟩⟩ HG.out.2.1 rfl).mono ?_
    rintro e U3 ⟨rfl, k3⟩
    dsimp only
    have HJ3 : Hid (_) := HJ2.out.kept k3
    have HO3 : Hid (_) := HO2.out.kept k3
    have HT3 : Hid (_) := kb k3 HT2.out
    clear k3 HJ2 HO2 HT2
    rw [HG.out.2.2.2.1]
    clear y0 y1 y2 r0
    obtain ⟨x0, x1, x2, -⟩ := zs3 HJ3.out.box
    go_wp2_with fail
    refine (l_codeK HJ3.out.os HF.out.2.1 (hT.out.kept HJ3.out.k) ⟨2, c, 0, 0, 0, ⟨#[47, 100]⟩, ⟨#[]⟩, ⟨#[]⟩⟩ HF.out.2.2.1 rfl).mono ?_
    rintro e U4 ⟨rfl, k4⟩
    dsimp only
    have HJ4 : Hid (_) := HJ3.out.kept k4
    have HO4 : Hid (_) := HO3.out.kept k4
    have HT4 : Hid (_) := kb k4 HT3.out
    clear k4 HJ3 HO3 HT3
    rw [HF.out.2.2.2.2.1]
    clear x0 x1 x2
    obtain ⟨x0, x1, x2, -⟩ := zs3 HJ4.out.box
    go_wp2_with fail
    (try rw [h3c])
    refine (l_codeK HJ4.out.os HF.out.2.1 (hT.out.kept HJ4.out.k) ⟨7, 3 - c, 0, 0, 0, ⟨#[]⟩, ⟨#[]⟩, ⟨#[]⟩⟩ HF.out.2.2.2.1 rfl).mono ?_
    rintro e U5 ⟨rfl, k5⟩
    dsimp only
    have HJ5 : Hid (_) := HJ4.out.kept k5
    have HO5 : Hid (_) := HO4.out.kept k5
    have HT5 : Hid (_) := kb k5 HT4.out
    clear k5 HJ4 HO4 HT4
    rw [HF.out.2.2.2.2.2.1]
    clear x0 x1 x2
    obtain ⟨y0, y1, y2, -⟩ := zs3 HT5.out
    go_wp2_with fail
    refine (l_codeK HO5.out HG.out.1 (hT.out.kept HJ5.out.k) ⟨7, 0, 0, 0, 0, ⟨#[]⟩, ⟨#[]⟩, ⟨#[]⟩⟩ HG.out.2.2.1 rfl).mono ?_
    rintro e U6 ⟨rfl, k6⟩
    dsimp only
    have HJ6 : Hid (_) := HJ5.out.kept k6
    have HO6 : Hid (_) := HO5.out.kept k6
    have HT6 : Hid (_) := kb k6 HT5.out
    clear k6 HJ5 HO5 HT5
    rw [HG.out.2.2.2.2]
    clear y0 y1 y2
    go_wp2_with fail
    go_ret
    exact ⟨rfl, HJ6.out.k⟩
theorem i64_and1 (n : Int) : bits .and .i64 n 1 = n % 2 := by
 have h1 : (BitVec.ofInt 64 1).toNat = 2 ^ 1 - 1 := by decide
 have key : (BitVec.ofInt 64 n &&& BitVec.ofInt 64 1).toNat = (n % ((2 ^ 64 : Nat) : Int)).toNat % 2 ^ 1 := by
  rw [BitVec.toNat_and, BitVec.toNat_ofInt, h1, Nat.and_two_pow_sub_one_eq_mod]
 show IntKind.i64.wrap ((BitVec.ofInt 64 n &&& BitVec.ofInt 64 1).toNat : Nat) = n % 2
 rw [key, IntKind.wrap_i64]
 omega
theorem and_low (a : Int) (m : Nat) (hm : m = 1 ∨ m = 3 ∨ m = 7) : ∃ k : Nat, k ≤ m ∧ bits .and .i64 a (m : Int) = (k : Int) := by
 rcases hm with rfl | rfl | rfl
 · exact ⟨(a % 2).toNat, by omega, by rw [show ((1 : Nat) : Int) = 1 from rfl, i64_and1]; omega⟩
 · exact ⟨(a % 4).toNat, by omega, by rw [show ((3 : Nat) : Int) = 3 from rfl, i64_and3]; omega⟩
 · exact ⟨(a % 8).toNat, by omega, by rw [show ((7 : Nat) : Int) = 7 from rfl, i64_and7]; omega⟩
theorem opens_any {w : World} (hT : Tab w) (a b g : Int) : Calls Tryz.prog 7 #[.int .i64 a, .int .i64 b, .int .i64 g] w fun e w' => e = .returned (.bool true) ∧ Kept [] w w' := by
 obtain ⟨c, hc, ha⟩ := and_low a 1 (Or.inl rfl)
 obtain ⟨k, hk, hb⟩ := and_low b 7 (Or.inr (Or.inr rfl))
 obtain ⟨q, hq, hg⟩ := and_low g 3 (Or.inr (Or.inl rfl))
 have ha' : wrap64 (1 + bits .and .i64 a 1) = 1 + (c : Int) := by
  rw [show bits .and .i64 a 1 = (c : Int) from ha]
  unfold wrap64
  omega
 exact opens_w hT a b g ha' hb hg (by omega) (by omega) (by omega)
end Go.Proofs.YtjneoegbknclgaaGreatDoor
namespace Go.Proofs.YtjneoegbknclgaaGreatDoor
open Go.ChangeShapes Go.WideShapes Go.ChangeAt Go.WideMaps Go.WideElems Go.RowKit Go.Lib
def laid2 : List (String × DataW Unit) := [("unicode/utf8.acceptRanges", Rows.laid_unicode_utf8_acceptRanges), ("unicode/utf8.first", Rows.laid_unicode_utf8_first)]
theorem own : ownKnob Tryz.prog.godebug = none := by kernel_rfl
theorem gFirst : Tryz.prog.globalNamed "unicode/utf8.first" = some 0 := by kernel_rfl
theorem tFirst : (Tryz.prog.globals[0]?).map (·.type) = some 182 := by kernel_rfl
theorem gAcc : Tryz.prog.globalNamed "unicode/utf8.acceptRanges" = some 1 := by kernel_rfl
theorem tAcc : (Tryz.prog.globals[1]?).map (·.type) = some 185 := by kernel_rfl
theorem first_listed : Rows.laid_unicode_utf8_first = .agg ((List.range 256).map fun i => .lit (.int .u8 (firstT i))) := by kernel_rfl
theorem acc_listed : (Rows.laid_unicode_utf8_acceptRanges : DataW Unit) = .agg ((List.range 16).map fun i => .agg [.lit (.int .u8 (accLo i)), .lit (.int .u8 (accHi i))]) := by kernel_rfl
theorem met_laid (os : Go.Os) (args : Array Value) : laidMetH Tryz.prog laid2 ((World.laidAll Tryz.prog os laid2).forCall (fun _ _ => 0) ⟨#[], args, []⟩).memory := by
 rw [MakeChecks.laidMetH_plain _ _ _ (by kernel_rfl)]
 exact laidMet_laidAll _ (by kernel_rfl) (by kernel_rfl)
theorem head_of_take {cs : List Value} {i : Nat} {v : Value} (h : (cs.drop i).take 1 = [v]) : cs[i]? = some v := by
 have := congrArg List.head? h
 simpa [List.head?_take] using this
theorem of_laid {W : World} (h : laidMetH Tryz.prog laid2 W) : Tab W := by
 rw [MakeChecks.laidMetH_plain _ _ _ (by kernel_rfl)] at h
 obtain ⟨ps, ⟨g0, t0, cs0, f0, p0, q0, hg0, ht0, hv0, hd0, ⟨g1, t1, cs1, f1, p1, q1, hg1, ht1, hv1, hd1, _, _⟩, _⟩, _, _⟩ := h
 obtain rfl := Option.some.inj (gAcc.symm.trans hg0)
 obtain rfl := Option.some.inj (tAcc.symm.trans ht0)
 obtain rfl := Option.some.inj (gFirst.symm.trans hg1)
 obtain rfl := Option.some.inj (tFirst.symm.trans ht1)
 have c5 : Tryz.prog.cellsOf 5 = 1 := by kernel_rfl
 have c43 : Tryz.prog.cellsOf 184 = 2 := by kernel_rfl
 refine ⟨fun i hi => ?_, fun i hi => ?_⟩
 ·
  obtain ⟨xs, m1, rfl, hx1, hlen, hn3, hel⟩ := DataW.trod_array Tryz.underlying182 hd1
  have hc := World.var?_cell hg1 hv1 i
  have h0 := hel i (by omega)
  have hix : i < xs.length := by omega
  rw [List.getElem?_eq_getElem hix] at h0
  obtain ⟨k, e1, e2, _⟩ := DataW.trod_int Tryz.underlying5 h0
  rw [c5, Nat.mul_one] at e1
  have hcs := head_of_take e1
  have hL := congrArg (fun x => x.1) hx1
  simp only [first_listed, DataW.agg.injEq] at hL
  have hLi := congrArg (fun l => l[i]?) hL
  simp only [List.getElem?_map, List.getElem?_range hi, Option.map_some, List.getElem?_eq_getElem hix, e2] at hLi
  have hk : (firstT i : Int) = k := by simpa using hLi
  rw [hc, ← Array.getElem?_toList, hcs, hk]
 ·
  obtain ⟨xs, m1, rfl, hx1, hlen, hn3, hel⟩ := DataW.trod_array Tryz.underlying185 hd0
  have hca := World.var?_cell hg0 hv0 (2 * i)
  have hcb := World.var?_cell hg0 hv0 (2 * i + 1)
  have h0 := hel i (by omega)
  have hix : i < xs.length := by omega
  rw [List.getElem?_eq_getElem hix, c43] at h0
  obtain ⟨y0, y1, n, e0, _, d0, d1⟩ := trod_struct2 Tryz.underlying184 h0
  simp only [c5, List.drop_zero] at d0 d1
  obtain ⟨k0, e1, e2, _⟩ := DataW.trod_int Tryz.underlying5 d0
  obtain ⟨k1, e3, e4, _⟩ := DataW.trod_int Tryz.underlying5 d1
  have hL := congrArg (fun x => x.1) hx1
  simp only [acc_listed, DataW.agg.injEq] at hL
  have hLi := congrArg (fun l => l[i]?) hL
  simp only [List.getElem?_map, List.getElem?_range hi, Option.map_some, List.getElem?_eq_getElem hix, e0, e2, e4] at hLi
  have hk : (accLo i : Int) = k0 ∧ (accHi i : Int) = k1 := by simpa using hLi
  have ea : cs0.toList[2 * i]? = some (.int .u8 k0) := by
   have := congrArg (fun l => l[0]?) e1
   simp only [List.getElem?_take, List.getElem?_drop] at this
   simpa [Nat.mul_comm] using this
  have eb : cs0.toList[2 * i + 1]? = some (.int .u8 k1) := by
   have := congrArg (fun l => l[0]?) e3
   simp only [List.getElem?_take, List.getElem?_drop] at this
   simpa [Nat.mul_comm] using this
  exact ⟨by rw [hca, ← Array.getElem?_toList, ea, hk.1], by rw [hcb, ← Array.getElem?_toList, eb, hk.2]⟩
end Go.Proofs.YtjneoegbknclgaaGreatDoor
