/-
  Joined of my texts Rq Laid.
-/
import Derived.Test.YtjneoegbknclgaaGreatDoorJn48
import Derived.Test.YtjneoegbknclgaaGreatDoorJn49
import Derived.Deep.CutBlock
import Derived.Deep.CutRange
import Derived.Test.YtjneoegbknclgaaGreatDoorJn3
import Derived.ProofKit
import Derived.LaidMore
import Derived.OpenShut
import Derived.Lay
import Derived.Stop.Joined
set_option linter.unusedVariables false
set_option linter.unusedSimpArgs false
set_option maxRecDepth 100000
set_option maxHeartbeats 8000000
namespace Go.Proofs.YtjneoegbknclgaaGreatDoor
open Go.RowKit
def fR : Nat → ByteArray
 | 0 => ⟨#[47, 100]⟩
 | 1 => ⟨#[47, 101]⟩
 | 2 => ⟨#[47, 102]⟩
 | 3 => ⟨#[47, 100, 47, 104]⟩
 | 4 => ⟨#[47, 122]⟩
 | _ => ⟨#[47]⟩
def dR : Nat → ByteArray
 | 0 => ⟨#[47, 110]⟩
 | 1 => ⟨#[47, 101, 47, 110]⟩
 | 2 => ⟨#[47, 100, 47, 110]⟩
 | 3 => ⟨#[47, 102]⟩
 | 4 => ⟨#[47, 122, 47, 110]⟩
 | 5 => ⟨#[47, 102, 47, 110]⟩
 | _ => ⟨#[47]⟩
def wR (i j : Nat) : Int := ([[0, 0, 9, 2, 1, 7, 9], [0, 9, 0, 2, 1, 7, 9], [0, 0, 0, 2, 1, 7, 9], [0, 0, 0, 2, 1, 7, 9], [1, 1, 1, 1, 1, 1, 1], [9, 9, 9, 9, 9, 9, 9]].getD i []).getD j 0
theorem cellFr {w : World} {C k : Nat} (hk : k < 6) (h : w.heap[C]? = some (.cells #[.string ⟨#[47, 100]⟩, .string ⟨#[47, 101]⟩, .string ⟨#[47, 102]⟩, .string ⟨#[47, 100, 47, 104]⟩, .string ⟨#[47, 122]⟩, .string ⟨#[47]⟩] 9 (0, 0))) : w.cell? ⟨C, k, none⟩ = some (.string (fR k)) := by
 have hc : k = 0 ∨ k = 1 ∨ k = 2 ∨ k = 3 ∨ k = 4 ∨ k = 5 := by omega
 rcases hc with rfl | rfl | rfl | rfl | rfl | rfl <;> exact cellB h
theorem cellDe {w : World} {C k : Nat} (hk : k < 7) (h : w.heap[C]? = some (.cells #[.string ⟨#[47, 110]⟩, .string ⟨#[47, 101, 47, 110]⟩, .string ⟨#[47, 100, 47, 110]⟩, .string ⟨#[47, 102]⟩, .string ⟨#[47, 122, 47, 110]⟩, .string ⟨#[47, 102, 47, 110]⟩, .string ⟨#[47]⟩] 9 (0, 0))) : w.cell? ⟨C, k, none⟩ = some (.string (dR k)) := by
 have hc : k = 0 ∨ k = 1 ∨ k = 2 ∨ k = 3 ∨ k = 4 ∨ k = 5 ∨ k = 6 := by omega
 rcases hc with rfl | rfl | rfl | rfl | rfl | rfl | rfl <;> exact cellB h
def rS (i j : Nat) : Sta := (playR (mS1 7) ⟨11, 0, 0, 0, 0, fR i, dR j, ⟨#[]⟩⟩ headI).1
theorem rq_play {i j : Nat} (hi : i < 6) (hj : j < 7) : playR (mS1 7) ⟨11, 0, 0, 0, 0, fR i, dR j, ⟨#[]⟩⟩ headI = (rS i j, ansC (wR i j)) := by
 have h1 : i = 0 ∨ i = 1 ∨ i = 2 ∨ i = 3 ∨ i = 4 ∨ i = 5 := by omega
 have h2 : j = 0 ∨ j = 1 ∨ j = 2 ∨ j = 3 ∨ j = 4 ∨ j = 5 ∨ j = 6 := by omega
 rcases h1 with rfl | rfl | rfl | rfl | rfl | rfl <;> rcases h2 with rfl | rfl | rfl | rfl | rfl | rfl | rfl <;> (show _ = _; kernel_rfl)
def rB (i j : Nat) : Bool := wR i j != 0 || (mayB (rS i j) && bdB (rS i j) && decide ((rS i j).made.length = 1) && decide ((findR (mS1 7).ino (fR i)).1 = (findR (rS i j).ino (dR j)).1) && decide ((findR (rS i j).ino (dR j)).2 = 0) && decide ((playR (rS i j) ⟨13, 0, 0, 0, 0, fR i, ⟨#[]⟩, ⟨#[]⟩⟩ headI).2.code = 1) && (i != 0 || decide ((playR (rS i j) ⟨13, 0, 0, 0, 0, dR j ++ ⟨#[47, 104]⟩, ⟨#[]⟩, ⟨#[]⟩⟩ headI).2.code = 0)))
theorem rq_good {i j : Nat} (hi : i < 6) (hj : j < 7) : rB i j = true := by
 have h1 : i = 0 ∨ i = 1 ∨ i = 2 ∨ i = 3 ∨ i = 4 ∨ i = 5 := by omega
 have h2 : j = 0 ∨ j = 1 ∨ j = 2 ∨ j = 3 ∨ j = 4 ∨ j = 5 ∨ j = 6 := by omega
 rcases h1 with rfl | rfl | rfl | rfl | rfl | rfl <;> rcases h2 with rfl | rfl | rfl | rfl | rfl | rfl | rfl <;> (show _ = _; kernel_rfl)
theorem rq_bad {i j : Nat} (hi : i < 6) (hj : j < 7) (h : ¬ wR i j = 0) : rS i j = mS1 7 := by
 have h1 : i = 0 ∨ i = 1 ∨ i = 2 ∨ i = 3 ∨ i = 4 ∨ i = 5 := by omega
 have h2 : j = 0 ∨ j = 1 ∨ j = 2 ∨ j = 3 ∨ j = 4 ∨ j = 5 ∨ j = 6 := by omega
 rcases h1 with rfl | rfl | rfl | rfl | rfl | rfl <;> rcases h2 with rfl | rfl | rfl | rfl | rfl | rfl | rfl <;> first | exact absurd (by decide) h | (show _ = _; kernel_rfl)
theorem rq_facts {i j : Nat} (hi : i < 6) (hj : j < 7) (h : wR i j = 0) : Bd (rS i j) ∧ DoL (rS i j) ⟨13, 0, 0, 0, 0, fR i, ⟨#[]⟩, ⟨#[]⟩⟩ ∧ DoL (rS i j) ⟨13, 0, 0, 0, 0, dR j ++ ⟨#[47, 104]⟩, ⟨#[]⟩, ⟨#[]⟩⟩ ∧ (playR (rS i j) ⟨13, 0, 0, 0, 0, fR i, ⟨#[]⟩, ⟨#[]⟩⟩ headI).2.code = 1 ∧ (i = 0 → (playR (rS i j) ⟨13, 0, 0, 0, 0, dR j ++ ⟨#[47, 104]⟩, ⟨#[]⟩, ⟨#[]⟩⟩ headI).2.code = 0) ∧ ∃ a b, findR (mS1 7).ino (fR i) = (a, b) ∧ findR (rS i j).ino (dR j) = (a, 0) := by
 have g := rq_good hi hj
 unfold rB at g
 rw [show (wR i j != 0) = false by simp [h], Bool.false_or] at g
 simp only [Bool.and_eq_true, decide_eq_true_eq, Bool.or_eq_true] at g
 obtain ⟨⟨⟨⟨⟨⟨g1, g2⟩, g3⟩, g4⟩, g5⟩, g6⟩, g7⟩ := g
 refine ⟨bd_of g2, dl13 g1 ?_ ?_ rfl, dl13 g1 ?_ ?_ rfl, g6, fun e => ?_, _, _, rfl, Prod.ext g4.symm g5⟩
 · dsimp only; omega
 · dsimp only; rw [g3]; decide
 · dsimp only; omega
 · dsimp only; rw [g3]; decide
 ·
  rcases g7 with g7 | g7
  · rw [e] at g7; simp at g7
  · exact g7
theorem rq_d : (fR 0).toList = [47, 100] := by kernel_rfl
theorem rq_size {j : Nat} (hj : j < 7) : (dR j).size ≤ 4 := by
 have h2 : j = 0 ∨ j = 1 ∨ j = 2 ∨ j = 3 ∨ j = 4 ∨ j = 5 ∨ j = 6 := by omega
 rcases h2 with rfl | rfl | rfl | rfl | rfl | rfl | rfl <;> decide
theorem l_codeV {w : World} {H : Nat} {v1 v2 v3 : Value} {ev : List Value} {S : Sta} (h : Os w H v1 v2 v3 ev S) (hb : Bd S) (hT : Tab w) (c : Cal) (hd : DoL S c) {n : Int} (hn : (playR S c headI).2.code = n) :
  Calls Tryz.prog 13 #[.agg #[v1, v2, v3], calV c] w fun e w' => e = .returned (.int .i64 n) ∧ Kept [] w w' := by
 have := l_codeK h hb hT c hd rfl
 rw [hn] at this
 exact this
theorem mq1 : (0 : Int) < ((mS1 7).made.length : Int) := by decide
theorem ren_b {w : World} (hT0 : Tab w) (a b : Int) {i j : Nat} (ha : (IntKind.u64.wrap a).tmod 6 = (i : Int)) (hb : (IntKind.u64.wrap b).tmod 7 = (j : Int)) (hi : i < 6) (hj : j < 7) (hw : ¬ wR i j = 0) :
  Calls Tryz.prog 6 #[.int .i64 a, .int .i64 b] w fun e w' => e = .returned (.bool true) ∧ Kept [] w w' := by
 have i0 : (i : Int) < 6 := by omega
 have i1 : (0 : Int) ≤ (i : Int) := by omega
 have j0 : (j : Int) < 7 := by omega
 have j1 : (0 : Int) ≤ (j : Int) := by omega
 have HW0 : Hid (¬ wR i j = 0) := hw
 clear hw
 have hT : Hid (Tab w) := hT0
 clear hT0
 go_enter Tryz.func6, Tryz.ntmps6
 go_wp2_with fail
 refine (awake_k hT.out).mono ?_
 rintro e U1 ⟨rfl, kk1⟩
 have HK_2 : Hid (Kept [] w U1) := kk1
 clear kk1
 go_wp2_with fail
 refine (l_made1).mono ?_
 rintro e U3 ⟨a3, b3, d3, eu3, rfl, ho3, kk3⟩
 obtain ⟨p3, m3, q3, n3, r3, t3, rfl, rfl, rfl⟩ := formsL ho3 5 1 1 rfl rfl rfl
 have HOs_3 : Hid (_) := ho3.less HK_2.out.size
 have HK_4 : Hid (_) := kt HK_2.out kk3
 clear HK_2
 clear ho3 kk3
 obtain ⟨V5, X5, HX5, HXk5, HXb5⟩ := boxR U3 #[.slice p3 5 m3, .slice q3 1 n3, .slice r3 1 t3] 27
 go_upto_region 4 with fail
 rw [HX5.out.1, HX5.out.2]
 have HOs_6 : Hid (_) := HOs_3.out.kept HXk5.out
 have HK_6 : Hid (_) := kt HK_4.out HXk5.out
 clear HOs_3 HK_4
 clear HX5 HXk5
 obtain ⟨V7, X7, HX7, HXk7, HXb7⟩ := boxR V5 #[.string ⟨#[47, 100]⟩, .string ⟨#[47, 101]⟩, .string ⟨#[47, 102]⟩, .string ⟨#[47, 100, 47, 104]⟩, .string ⟨#[47, 122]⟩, .string ⟨#[47]⟩] 9
 have hal := HX7.out.1
 have hsz := HX7.out.2
 have hP := cellFr hi HXb7.out
 go_upto_region 5 with fail
 clear hal hsz hP
 have HBX5_8 : Hid (_) := kb HXk7.out HXb5.out
 have HOs_8 : Hid (_) := HOs_6.out.kept HXk7.out
 have HK_8 : Hid (_) := kt HK_6.out HXk7.out
 clear HXb5 HOs_6 HK_6
 clear HX7 HXk7 HXb7
 obtain ⟨V9, X9, HX9, HXk9, HXb9⟩ := boxR V7 #[.string ⟨#[47, 110]⟩, .string ⟨#[47, 101, 47, 110]⟩, .string ⟨#[47, 100, 47, 110]⟩, .string ⟨#[47, 102]⟩, .string ⟨#[47, 122, 47, 110]⟩, .string ⟨#[47, 102, 47, 110]⟩, .string ⟨#[47]⟩] 9
 have hal := HX9.out.1
 have hsz := HX9.out.2
 have hP := cellDe hj HXb9.out
 go_upto_region 6 with fail
 clear hal hsz hP
 have HBX5_10 : Hid (_) := kb HXk9.out HBX5_8.out
 have HOs_10 : Hid (_) := HOs_8.out.kept HXk9.out
 have HK_10 : Hid (_) := kt HK_8.out HXk9.out
 clear HBX5_8 HOs_8 HK_8
 clear HX9 HXk9 HXb9
 obtain ⟨cX5_0, cX5_1, cX5_2, -⟩ := zs3 HBX5_10.out
 go_wp2_with fail
 refine (l_DoK HOs_10.out md1_7 (hT.out.kept HK_10.out) ⟨11, 0, 0, 0, 0, fR i, dR j, ⟨#[]⟩⟩ (dl11 mb1_7 (Int.le_refl _) mq1 rfl) (rq_play hi hj)).mono ?_
 rintro e U11 ⟨a11, b11, d11, eu11, z11, l11, k11, rfl, ho11, hsr11, -, kk11, -⟩
 dsimp only at ho11 ⊢
 obtain ⟨p11, m11, q11, n11, r11, t11, rfl, rfl, rfl⟩ := formsL ho11 (rS i j).ino.length (rS i j).opn.length (rS i j).made.length rfl rfl rfl
 have HOt_11 : Hid (_) := ho11.less HK_10.out.size
 clear cX5_0 cX5_1 cX5_2
 have HBX5_12 : Hid (_) := kb kk11 HBX5_10.out
 have HOs_12 : Hid (_) := HOs_10.out.kept kk11
 have HK_12 : Hid (_) := kt HK_10.out kk11
 clear HBX5_10 HOs_10 HK_10
 clear ho11 hsr11 kk11
 obtain ⟨V13, X13, HX13, HXk13, HXb13⟩ := boxes2 U11 #[.slice p11 (rS i j).ino.length m11, .slice q11 (rS i j).opn.length n11, .slice r11 (rS i j).made.length t11] #[.int .i64 (wR i j), .int .i64 0, .int .i64 0, .bool false, .string ⟨#[]⟩, .slice z11 l11 k11] 27 31
 go_upto_region 7 with fail
 rw [HX13.out.1, HX13.out.2]
 obtain ⟨Y13, hY13⟩ : ∃ Y13, X13 + 1 = Y13 := ⟨_, rfl⟩
 rw [hY13] at HXb13 ⊢
 have HA13 : Hid (_) := HXb13.out.1
 have HB13 : Hid (_) := HXb13.out.2.1
 have HBX5_14 : Hid (_) := kb HXk13.out HBX5_12.out
 have HOs_14 : Hid (_) := HOs_12.out.kept HXk13.out
 have HOt_14 : Hid (_) := HOt_11.out.kept HXk13.out
 have HK_14 : Hid (_) := kt HK_12.out HXk13.out
 clear HBX5_12 HOs_12 HOt_11 HK_12
 clear HX13 HXk13 HXb13 hY13
 go_upto_block 0 with fail
 go_cut [10] from 39 to 72 (fun v wx => v = .int .i64 (wR i j) ∧ wx = V13)
 case first =>
  have h1 : i = 0 ∨ i = 1 ∨ i = 2 ∨ i = 3 ∨ i = 4 ∨ i = 5 := by omega
  have h2 : j = 0 ∨ j = 1 ∨ j = 2 ∨ j = 3 ∨ j = 4 ∨ j = 5 ∨ j = 6 := by omega
  clear HK_14 HBX5_14 HA13 HB13 HOs_14 HOt_14 hT ha hb
  rcases h1 with rfl | rfl | rfl | rfl | rfl | rfl <;> rcases h2 with rfl | rfl | rfl | rfl | rfl | rfl | rfl <;> (simp only [fR, dR]; go_wp2_with fail; go_meet; case rel => exact ⟨rfl, rfl⟩)
 case rest =>
  obtain ⟨rfl, hwc⟩ := hcut
  have hwc2 := hwc.symm
  subst hwc2
  obtain ⟨cY13_0, -, -, -, -, -, -⟩ := rs6 HB13.out
  have e1 : ((wR i j) != (wR i j)) = false := by simp
  have e2 : ((wR i j) != 0) = true := by have h9 : ¬ wR i j = 0 := HW0.out; simp [h9]
  have e3 : ((wR i j) == (wR i j)) = true := by simp
  obtain ⟨cX5_0, cX5_1, cX5_2, -⟩ := zs3 HBX5_14.out
  obtain ⟨cX13_0, cX13_1, cX13_2, -⟩ := zs3 HA13.out
  have HPl : Hid (Calls Tryz.prog 12 #[.agg #[.slice p3 5 m3, .slice q3 1 n3, .slice r3 1 t3], .agg #[.slice p11 (rS i j).ino.length m11, .slice q11 (rS i j).opn.length n11, .slice r11 (rS i j).made.length t11]] V13 fun e w' => e = .returned (.bool true) ∧ Kept [] V13 w') := by
   have h9 := HOt_14.out
   have hS := rq_bad hi hj HW0.out
   obtain ⟨p, e1, e2, e3, hs, -⟩ := (HOs_14.out).sv md1_7
   rw [hS] at h9 ⊢
   obtain ⟨q, g1, g2, g3, hq, -⟩ := h9.sv md1_7
   have h8 := r_plain hs hq
   unfold sval at h8
   rw [← e1, ← e2, ← e3, ← g1, ← g2, ← g3] at h8
   exact h8
  go_wp2_with fail
  refine HPl.out.mono ?_
  rintro e U90 ⟨rfl, k90⟩
  have HK90 : Hid (_) := kt HK_14.out k90
  clear k90 HPl
  go_wp2_with fail
  go_ret
  exact ⟨rfl, HK90.out⟩
theorem ren_z {w : World} (hT0 : Tab w) (a b : Int) {i j : Nat} (ha : (IntKind.u64.wrap a).tmod 6 = (i : Int)) (hb : (IntKind.u64.wrap b).tmod 7 = (j : Int)) (hi : i < 6) (hj : j < 7) (hw : wR i j = 0) (hz : i = 0) :
  Calls Tryz.prog 6 #[.int .i64 a, .int .i64 b] w fun e w' => e = .returned (.bool true) ∧ Kept [] w w' := by
 have i0 : (i : Int) < 6 := by omega
 have i1 : (0 : Int) ≤ (i : Int) := by omega
 have j0 : (j : Int) < 7 := by omega
 have j1 : (0 : Int) ≤ (j : Int) := by omega
 have HW0 : Hid (wR i j = 0) := hw
 clear hw
 have HZ0 : Hid (i = 0) := hz
 clear hz
 have hT : Hid (Tab w) := hT0
 clear hT0
 go_enter Tryz.func6, Tryz.ntmps6
 go_wp2_with fail
 refine (awake_k hT.out).mono ?_
 rintro e U1 ⟨rfl, kk1⟩
 have HK_2 : Hid (Kept [] w U1) := kk1
 clear kk1
 go_wp2_with fail
 refine (l_made1).mono ?_
 rintro e U3 ⟨a3, b3, d3, eu3, rfl, ho3, kk3⟩
 obtain ⟨p3, m3, q3, n3, r3, t3, rfl, rfl, rfl⟩ := formsL ho3 5 1 1 rfl rfl rfl
 have HOs_3 : Hid (_) := ho3.less HK_2.out.size
 have HK_4 : Hid (_) := kt HK_2.out kk3
 clear HK_2
 clear ho3 kk3
 obtain ⟨V5, X5, HX5, HXk5, HXb5⟩ := boxR U3 #[.slice p3 5 m3, .slice q3 1 n3, .slice r3 1 t3] 27
 go_upto_region 4 with fail
 rw [HX5.out.1, HX5.out.2]
 have HOs_6 : Hid (_) := HOs_3.out.kept HXk5.out
 have HK_6 : Hid (_) := kt HK_4.out HXk5.out
 clear HOs_3 HK_4
 clear HX5 HXk5
 obtain ⟨V7, X7, HX7, HXk7, HXb7⟩ := boxR V5 #[.string ⟨#[47, 100]⟩, .string ⟨#[47, 101]⟩, .string ⟨#[47, 102]⟩, .string ⟨#[47, 100, 47, 104]⟩, .string ⟨#[47, 122]⟩, .string ⟨#[47]⟩] 9
 have hal := HX7.out.1
 have hsz := HX7.out.2
 have hP := cellFr hi HXb7.out
 go_upto_region 5 with fail
 clear hal hsz hP
 have HBX5_8 : Hid (_) := kb HXk7.out HXb5.out
 have HOs_8 : Hid (_) := HOs_6.out.kept HXk7.out
 have HK_8 : Hid (_) := kt HK_6.out HXk7.out
 clear HXb5 HOs_6 HK_6
 clear HX7 HXk7 HXb7
 obtain ⟨V9, X9, HX9, HXk9, HXb9⟩ := boxR V7 #[.string ⟨#[47, 110]⟩, .string ⟨#[47, 101, 47, 110]⟩, .string ⟨#[47, 100, 47, 110]⟩, .string ⟨#[47, 102]⟩, .string ⟨#[47, 122, 47, 110]⟩, .string ⟨#[47, 102, 47, 110]⟩, .string ⟨#[47]⟩] 9
 have hal := HX9.out.1
 have hsz := HX9.out.2
 have hP := cellDe hj HXb9.out
 go_upto_region 6 with fail
 clear hal hsz hP
 have HBX5_10 : Hid (_) := kb HXk9.out HBX5_8.out
 have HOs_10 : Hid (_) := HOs_8.out.kept HXk9.out
 have HK_10 : Hid (_) := kt HK_8.out HXk9.out
 clear HBX5_8 HOs_8 HK_8
 clear HX9 HXk9 HXb9
 obtain ⟨cX5_0, cX5_1, cX5_2, -⟩ := zs3 HBX5_10.out
 go_wp2_with fail
 refine (l_DoK HOs_10.out md1_7 (hT.out.kept HK_10.out) ⟨11, 0, 0, 0, 0, fR i, dR j, ⟨#[]⟩⟩ (dl11 mb1_7 (Int.le_refl _) mq1 rfl) (rq_play hi hj)).mono ?_
 rintro e U11 ⟨a11, b11, d11, eu11, z11, l11, k11, rfl, ho11, hsr11, -, kk11, -⟩
 dsimp only at ho11 ⊢
 obtain ⟨p11, m11, q11, n11, r11, t11, rfl, rfl, rfl⟩ := formsL ho11 (rS i j).ino.length (rS i j).opn.length (rS i j).made.length rfl rfl rfl
 have HOt_11 : Hid (_) := ho11.less HK_10.out.size
 clear cX5_0 cX5_1 cX5_2
 have HBX5_12 : Hid (_) := kb kk11 HBX5_10.out
 have HOs_12 : Hid (_) := HOs_10.out.kept kk11
 have HK_12 : Hid (_) := kt HK_10.out kk11
 clear HBX5_10 HOs_10 HK_10
 clear ho11 hsr11 kk11
 obtain ⟨V13, X13, HX13, HXk13, HXb13⟩ := boxes2 U11 #[.slice p11 (rS i j).ino.length m11, .slice q11 (rS i j).opn.length n11, .slice r11 (rS i j).made.length t11] #[.int .i64 (wR i j), .int .i64 0, .int .i64 0, .bool false, .string ⟨#[]⟩, .slice z11 l11 k11] 27 31
 go_upto_region 7 with fail
 rw [HX13.out.1, HX13.out.2]
 obtain ⟨Y13, hY13⟩ : ∃ Y13, X13 + 1 = Y13 := ⟨_, rfl⟩
 rw [hY13] at HXb13 ⊢
 have HA13 : Hid (_) := HXb13.out.1
 have HB13 : Hid (_) := HXb13.out.2.1
 have HBX5_14 : Hid (_) := kb HXk13.out HBX5_12.out
 have HOs_14 : Hid (_) := HOs_12.out.kept HXk13.out
 have HOt_14 : Hid (_) := HOt_11.out.kept HXk13.out
 have HK_14 : Hid (_) := kt HK_12.out HXk13.out
 clear HBX5_12 HOs_12 HOt_11 HK_12
 clear HX13 HXk13 HXb13 hY13
 go_upto_block 0 with fail
 go_cut [10] from 39 to 72 (fun v wx => v = .int .i64 (wR i j) ∧ wx = V13)
 case first =>
  have h1 : i = 0 ∨ i = 1 ∨ i = 2 ∨ i = 3 ∨ i = 4 ∨ i = 5 := by omega
  have h2 : j = 0 ∨ j = 1 ∨ j = 2 ∨ j = 3 ∨ j = 4 ∨ j = 5 ∨ j = 6 := by omega
  clear HK_14 HBX5_14 HA13 HB13 HOs_14 HOt_14 hT ha hb
  rcases h1 with rfl | rfl | rfl | rfl | rfl | rfl <;> rcases h2 with rfl | rfl | rfl | rfl | rfl | rfl | rfl <;> (simp only [fR, dR]; go_wp2_with fail; go_meet; case rel => exact ⟨rfl, rfl⟩)
 case rest =>
  obtain ⟨rfl, hwc⟩ := hcut
  have hwc2 := hwc.symm
  subst hwc2
  obtain ⟨cY13_0, -, -, -, -, -, -⟩ := rs6 HB13.out
  have e1 : ((wR i j) != (wR i j)) = false := by simp
  have e2 : ((wR i j) != 0) = false := by simp [HW0.out]
  obtain ⟨fb, fs, fh, c1, c2, na, nb, n1, n2⟩ := rq_facts hi hj HW0.out
  have HN : Hid (_ ∧ _) := ⟨n1, n2⟩
  have HC1 : Hid (_) := c1
  have HC2 : Hid (_) := c2
  clear n1 n2 c1 c2
  obtain ⟨cX5_0, cX5_1, cX5_2, -⟩ := zs3 HBX5_14.out
  go_wp2_with fail
  refine (l_Find HOs_14.out md1_7 (hT.out.kept HK_14.out) (fR i) HN.out.1).mono ?_
  rintro e U15 ⟨rfl, kk15⟩
  have HBX5_16 : Hid (_) := kb kk15 HBX5_14.out
  have HBX13_16 : Hid (_) := kb kk15 HA13.out
  have HBY13_16 : Hid (_) := kb kk15 HB13.out
  have HOs_16 : Hid (_) := HOs_14.out.kept kk15
  have HOt_16 : Hid (_) := HOt_14.out.kept kk15
  have HK_16 : Hid (_) := kt HK_14.out kk15
  clear HBX5_14 HA13 HB13 HOs_14 HOt_14 HK_14
  clear kk15
  clear cX5_0 cX5_1 cX5_2 cY13_0
  obtain ⟨cX13_0, cX13_1, cX13_2, -⟩ := zs3 HBX13_16.out
  go_wp2_with fail
  refine (l_Find HOt_16.out fb (hT.out.kept HK_16.out) (dR j) HN.out.2).mono ?_
  rintro e U17 ⟨rfl, kk17⟩
  have HBX5_18 : Hid (_) := kb kk17 HBX5_16.out
  have HBX13_18 : Hid (_) := kb kk17 HBX13_16.out
  have HBY13_18 : Hid (_) := kb kk17 HBY13_16.out
  have HOs_18 : Hid (_) := HOs_16.out.kept kk17
  have HOt_18 : Hid (_) := HOt_16.out.kept kk17
  have HK_18 : Hid (_) := kt HK_16.out kk17
  clear HBX5_16 HBX13_16 HBY13_16 HOs_16 HOt_16 HK_16
  clear kk17
  clear cX13_0 cX13_1 cX13_2
  obtain ⟨cX13_0, cX13_1, cX13_2, -⟩ := zs3 HBX13_18.out
  go_upto_region 26 with fail
  have e5 : (fR i).toList = [47, 100] := by rw [HZ0.out]; exact rq_d
  have hs9 := rq_size hj
  have hs8 : (dR j).size + 2 ≤ 9223372036854775807 := by omega
  have c9 := HC2.out HZ0.out
  generalize hq : dR j ++ (⟨#[47, 104]⟩ : ByteArray) = pth at fh c9
  have HC9 : Hid (_) := c9
  clear c9
  go_wp2_with fail
  (try rw [hq])
  clear hq
  refine (l_codeV HOt_18.out fb (hT.out.kept HK_18.out) ⟨13, 0, 0, 0, 0, pth, ⟨#[]⟩, ⟨#[]⟩⟩ fh HC9.out).mono ?_
  rintro e U19 ⟨rfl, kk19⟩
  clear cX13_0 cX13_1 cX13_2
  have HBX5_20 : Hid (_) := kb kk19 HBX5_18.out
  have HBX13_20 : Hid (_) := kb kk19 HBX13_18.out
  have HBY13_20 : Hid (_) := kb kk19 HBY13_18.out
  have HOs_20 : Hid (_) := HOs_18.out.kept kk19
  have HOt_20 : Hid (_) := HOt_18.out.kept kk19
  have HK_20 : Hid (_) := kt HK_18.out kk19
  clear HBX5_18 HBX13_18 HBY13_18 HOs_18 HOt_18 HK_18
  clear kk19 e5 hs9 hs8
  obtain ⟨cX13_0, cX13_1, cX13_2, -⟩ := zs3 HBX13_20.out
  have e7 : (na == na) = true := by simp
  go_wp2_with fail
  refine (l_codeV HOt_20.out fb (hT.out.kept HK_20.out) ⟨13, 0, 0, 0, 0, fR i, ⟨#[]⟩, ⟨#[]⟩⟩ fs HC1.out).mono ?_
  rintro e U98 ⟨rfl, k98⟩
  have HK98 : Hid (_) := kt HK_20.out k98
  clear k98
  go_wp2_with fail
  go_ret
  exact ⟨rfl, HK98.out⟩
theorem ren_g {w : World} (hT0 : Tab w) (a b : Int) {i j : Nat} (ha : (IntKind.u64.wrap a).tmod 6 = (i : Int)) (hb : (IntKind.u64.wrap b).tmod 7 = (j : Int)) (hi : i < 6) (hj : j < 7) (hw : wR i j = 0) (hz : ¬ i = 0) :
  Calls Tryz.prog 6 #[.int .i64 a, .int .i64 b] w fun e w' => e = .returned (.bool true) ∧ Kept [] w w' := by
 have i0 : (i : Int) < 6 := by omega
 have i1 : (0 : Int) ≤ (i : Int) := by omega
 have j0 : (j : Int) < 7 := by omega
 have j1 : (0 : Int) ≤ (j : Int) := by omega
 have HW0 : Hid (wR i j = 0) := hw
 clear hw
 have HZ0 : Hid (¬ i = 0) := hz
 clear hz
 have hT : Hid (Tab w) := hT0
 clear hT0
 go_enter Tryz.func6, Tryz.ntmps6
 go_wp2_with fail
 refine (awake_k hT.out).mono ?_
 rintro e U1 ⟨rfl, kk1⟩
 have HK_2 : Hid (Kept [] w U1) := kk1
 clear kk1
 go_wp2_with fail
 refine (l_made1).mono ?_
 rintro e U3 ⟨a3, b3, d3, eu3, rfl, ho3, kk3⟩
 obtain ⟨p3, m3, q3, n3, r3, t3, rfl, rfl, rfl⟩ := formsL ho3 5 1 1 rfl rfl rfl
 have HOs_3 : Hid (_) := ho3.less HK_2.out.size
 have HK_4 : Hid (_) := kt HK_2.out kk3
 clear HK_2
 clear ho3 kk3
 obtain ⟨V5, X5, HX5, HXk5, HXb5⟩ := boxR U3 #[.slice p3 5 m3, .slice q3 1 n3, .slice r3 1 t3] 27
 go_upto_region 4 with fail
 rw [HX5.out.1, HX5.out.2]
 have HOs_6 : Hid (_) := HOs_3.out.kept HXk5.out
 have HK_6 : Hid (_) := kt HK_4.out HXk5.out
 clear HOs_3 HK_4
 clear HX5 HXk5
 obtain ⟨V7, X7, HX7, HXk7, HXb7⟩ := boxR V5 #[.string ⟨#[47, 100]⟩, .string ⟨#[47, 101]⟩, .string ⟨#[47, 102]⟩, .string ⟨#[47, 100, 47, 104]⟩, .string ⟨#[47, 122]⟩, .string ⟨#[47]⟩] 9
 have hal := HX7.out.1
 have hsz := HX7.out.2
 have hP := cellFr hi HXb7.out
 go_upto_region 5 with fail
 clear hal hsz hP
 have HBX5_8 : Hid (_) := kb HXk7.out HXb5.out
 have HOs_8 : Hid (_) := HOs_6.out.kept HXk7.out
 have HK_8 : Hid (_) := kt HK_6.out HXk7.out
 clear HXb5 HOs_6 HK_6
 clear HX7 HXk7 HXb7
 obtain ⟨V9, X9, HX9, HXk9, HXb9⟩ := boxR V7 #[.string ⟨#[47, 110]⟩, .string ⟨#[47, 101, 47, 110]⟩, .string ⟨#[47, 100, 47, 110]⟩, .string ⟨#[47, 102]⟩, .string ⟨#[47, 122, 47, 110]⟩, .string ⟨#[47, 102, 47, 110]⟩, .string ⟨#[47]⟩] 9
 have hal := HX9.out.1
 have hsz := HX9.out.2
 have hP := cellDe hj HXb9.out
 go_upto_region 6 with fail
 clear hal hsz hP
 have HBX5_10 : Hid (_) := kb HXk9.out HBX5_8.out
 have HOs_10 : Hid (_) := HOs_8.out.kept HXk9.out
 have HK_10 : Hid (_) := kt HK_8.out HXk9.out
 clear HBX5_8 HOs_8 HK_8
 clear HX9 HXk9 HXb9
 obtain ⟨cX5_0, cX5_1, cX5_2, -⟩ := zs3 HBX5_10.out
 go_wp2_with fail
 refine (l_DoK HOs_10.out md1_7 (hT.out.kept HK_10.out) ⟨11, 0, 0, 0, 0, fR i, dR j, ⟨#[]⟩⟩ (dl11 mb1_7 (Int.le_refl _) mq1 rfl) (rq_play hi hj)).mono ?_
 rintro e U11 ⟨a11, b11, d11, eu11, z11, l11, k11, rfl, ho11, hsr11, -, kk11, -⟩
 dsimp only at ho11 ⊢
 obtain ⟨p11, m11, q11, n11, r11, t11, rfl, rfl, rfl⟩ := formsL ho11 (rS i j).ino.length (rS i j).opn.length (rS i j).made.length rfl rfl rfl
 have HOt_11 : Hid (_) := ho11.less HK_10.out.size
 clear cX5_0 cX5_1 cX5_2
 have HBX5_12 : Hid (_) := kb kk11 HBX5_10.out
 have HOs_12 : Hid (_) := HOs_10.out.kept kk11
 have HK_12 : Hid (_) := kt HK_10.out kk11
 clear HBX5_10 HOs_10 HK_10
 clear ho11 hsr11 kk11
 obtain ⟨V13, X13, HX13, HXk13, HXb13⟩ := boxes2 U11 #[.slice p11 (rS i j).ino.length m11, .slice q11 (rS i j).opn.length n11, .slice r11 (rS i j).made.length t11] #[.int .i64 (wR i j), .int .i64 0, .int .i64 0, .bool false, .string ⟨#[]⟩, .slice z11 l11 k11] 27 31
 go_upto_region 7 with fail
 rw [HX13.out.1, HX13.out.2]
 obtain ⟨Y13, hY13⟩ : ∃ Y13, X13 + 1 = Y13 := ⟨_, rfl⟩
 rw [hY13] at HXb13 ⊢
 have HA13 : Hid (_) := HXb13.out.1
 have HB13 : Hid (_) := HXb13.out.2.1
 have HBX5_14 : Hid (_) := kb HXk13.out HBX5_12.out
 have HOs_14 : Hid (_) := HOs_12.out.kept HXk13.out
 have HOt_14 : Hid (_) := HOt_11.out.kept HXk13.out
 have HK_14 : Hid (_) := kt HK_12.out HXk13.out
 clear HBX5_12 HOs_12 HOt_11 HK_12
 clear HX13 HXk13 HXb13 hY13
 go_upto_block 0 with fail
 go_cut [10] from 39 to 72 (fun v wx => v = .int .i64 (wR i j) ∧ wx = V13)
 case first =>
  have h1 : i = 0 ∨ i = 1 ∨ i = 2 ∨ i = 3 ∨ i = 4 ∨ i = 5 := by omega
  have h2 : j = 0 ∨ j = 1 ∨ j = 2 ∨ j = 3 ∨ j = 4 ∨ j = 5 ∨ j = 6 := by omega
  clear HK_14 HBX5_14 HA13 HB13 HOs_14 HOt_14 hT ha hb
  rcases h1 with rfl | rfl | rfl | rfl | rfl | rfl <;> rcases h2 with rfl | rfl | rfl | rfl | rfl | rfl | rfl <;> (simp only [fR, dR]; go_wp2_with fail; go_meet; case rel => exact ⟨rfl, rfl⟩)
 case rest =>
  obtain ⟨rfl, hwc⟩ := hcut
  have hwc2 := hwc.symm
  subst hwc2
  obtain ⟨cY13_0, -, -, -, -, -, -⟩ := rs6 HB13.out
  have e1 : ((wR i j) != (wR i j)) = false := by simp
  have e2 : ((wR i j) != 0) = false := by simp [HW0.out]
  obtain ⟨fb, fs, fh, c1, c2, na, nb, n1, n2⟩ := rq_facts hi hj HW0.out
  have HN : Hid (_ ∧ _) := ⟨n1, n2⟩
  have HC1 : Hid (_) := c1
  have HC2 : Hid (_) := c2
  clear n1 n2 c1 c2
  obtain ⟨cX5_0, cX5_1, cX5_2, -⟩ := zs3 HBX5_14.out
  go_wp2_with fail
  refine (l_Find HOs_14.out md1_7 (hT.out.kept HK_14.out) (fR i) HN.out.1).mono ?_
  rintro e U15 ⟨rfl, kk15⟩
  have HBX5_16 : Hid (_) := kb kk15 HBX5_14.out
  have HBX13_16 : Hid (_) := kb kk15 HA13.out
  have HBY13_16 : Hid (_) := kb kk15 HB13.out
  have HOs_16 : Hid (_) := HOs_14.out.kept kk15
  have HOt_16 : Hid (_) := HOt_14.out.kept kk15
  have HK_16 : Hid (_) := kt HK_14.out kk15
  clear HBX5_14 HA13 HB13 HOs_14 HOt_14 HK_14
  clear kk15
  clear cX5_0 cX5_1 cX5_2 cY13_0
  obtain ⟨cX13_0, cX13_1, cX13_2, -⟩ := zs3 HBX13_16.out
  go_wp2_with fail
  refine (l_Find HOt_16.out fb (hT.out.kept HK_16.out) (dR j) HN.out.2).mono ?_
  rintro e U17 ⟨rfl, kk17⟩
  have HBX5_18 : Hid (_) := kb kk17 HBX5_16.out
  have HBX13_18 : Hid (_) := kb kk17 HBX13_16.out
  have HBY13_18 : Hid (_) := kb kk17 HBY13_16.out
  have HOs_18 : Hid (_) := HOs_16.out.kept kk17
  have HOt_18 : Hid (_) := HOt_16.out.kept kk17
  have HK_18 : Hid (_) := kt HK_16.out kk17
  clear HBX5_16 HBX13_16 HBY13_16 HOs_16 HOt_16 HK_16
  clear kk17
  clear cX13_0 cX13_1 cX13_2
  obtain ⟨cX13_0, cX13_1, cX13_2, -⟩ := zs3 HBX13_18.out
  go_upto_region 26 with fail
  go_cut [15] from 101 to 111 (fun v wx => v = .bool true ∧ wx = U17)
  case first =>
   have h1 : i = 1 ∨ i = 2 ∨ i = 3 ∨ i = 4 ∨ i = 5 := by have h9 : ¬ i = 0 := HZ0.out; omega
   rcases h1 with rfl | rfl | rfl | rfl | rfl <;> (simp only [fR]; go_wp2_with fail; go_meet; case rel => exact ⟨rfl, rfl⟩)
  case rest =>
   obtain ⟨rfl, hwc⟩ := hcut
   have hwc2 := hwc.symm
   subst hwc2
   have e7 : (na == na) = true := by simp
   go_wp2_with fail
   refine (l_codeV HOt_18.out fb (hT.out.kept HK_18.out) ⟨13, 0, 0, 0, 0, fR i, ⟨#[]⟩, ⟨#[]⟩⟩ fs HC1.out).mono ?_
   rintro e U98 ⟨rfl, k98⟩
   have HK98 : Hid (_) := kt HK_18.out k98
   clear k98
   go_wp2_with fail
   go_ret
   exact ⟨rfl, HK98.out⟩
theorem mod_nat (a : Int) (n : Int) (hn : 0 < n) : ∃ k : Nat, (k : Int) < n ∧ (IntKind.u64.wrap a).tmod n = (k : Int) := by
 have h0 : 0 ≤ IntKind.u64.wrap a := by simp only [IntKind.wrap, IntKind.signed, IntKind.bits]; simp; omega
 have h1 := Int.tmod_nonneg n h0
 have h2 := Int.tmod_lt_of_pos (IntKind.u64.wrap a) hn
 exact ⟨((IntKind.u64.wrap a).tmod n).toNat, by omega, by omega⟩
theorem ren_any {w : World} (hT : Tab w) (a b : Int) : Calls Tryz.prog 6 #[.int .i64 a, .int .i64 b] w fun e w' => e = .returned (.bool true) ∧ Kept [] w w' := by
 obtain ⟨i, hi, ha⟩ := mod_nat a 6 (by decide)
 obtain ⟨j, hj, hb⟩ := mod_nat b 7 (by decide)
 by_cases hw : wR i j = 0
 ·
  by_cases hz : i = 0
  · exact ren_z hT a b ha hb (by omega) (by omega) hw hz
  · exact ren_g hT a b ha hb (by omega) (by omega) hw hz
 · exact ren_b hT a b ha hb (by omega) (by omega) hw
end Go.Proofs.YtjneoegbknclgaaGreatDoor
namespace Go.Proofs.YtjneoegbknclgaaGreatDoor
open Go.ChangeShapes Go.WideShapes Go.ChangeAt Go.WideMaps Go.WideElems Go.RowKit Go.Lib
def laid2 : List (String × DataW Unit) := [("unicode/utf8.acceptRanges", Rows.laid_unicode_utf8_acceptRanges), ("unicode/utf8.first", Rows.laid_unicode_utf8_first)]
theorem own : ownKnob Tryz.prog.godebug = none := by kernel_rfl
theorem gFirst : Tryz.prog.globalNamed "unicode/utf8.first" = some 0 := by kernel_rfl
theorem tFirst : (Tryz.prog.globals[0]?).map (·.type) = some 182 := by kernel_rfl
theorem gAcc : Tryz.prog.globalNamed "unicode/utf8.acceptRanges" = some 1 := by kernel_rfl
theorem tAcc : (Tryz.prog.globals[1]?).map (·.type) = some 185 := by kernel_rfl
theorem first_listed : Rows.laid_unicode_utf8_first = .agg ((List.range 256).map fun i => .lit (.int .u8 (firstT i))) := by kernel_rfl
theorem acc_listed : (Rows.laid_unicode_utf8_acceptRanges : DataW Unit) = .agg ((List.range 16).map fun i => .agg [.lit (.int .u8 (accLo i)), .lit (.int .u8 (accHi i))]) := by kernel_rfl
theorem met_laid (os : Go.Os) (args : Array Value) : laidMetH Tryz.prog laid2 ((World.laidAll Tryz.prog os laid2).forCall (fun _ _ => 0) ⟨#[], args, []⟩).memory := by
 rw [MakeChecks.laidMetH_plain _ _ _ (by kernel_rfl)]
 exact laidMet_laidAll _ (by kernel_rfl) (by kernel_rfl)
theorem head_of_take {cs : List Value} {i : Nat} {v : Value} (h : (cs.drop i).take 1 = [v]) : cs[i]? = some v := by
 have := congrArg List.head? h
 simpa [List.head?_take] using this
theorem of_laid {W : World} (h : laidMetH Tryz.prog laid2 W) : Tab W := by
 rw [MakeChecks.laidMetH_plain _ _ _ (by kernel_rfl)] at h
 obtain ⟨ps, ⟨g0, t0, cs0, f0, p0, q0, hg0, ht0, hv0, hd0, ⟨g1, t1, cs1, f1, p1, q1, hg1, ht1, hv1, hd1, _, _⟩, _⟩, _, _⟩ := h
 obtain rfl := Option.some.inj (gAcc.symm.trans hg0)
 obtain rfl := Option.some.inj (tAcc.symm.trans ht0)
 obtain rfl := Option.some.inj (gFirst.symm.trans hg1)
 obtain rfl := Option.some.inj (tFirst.symm.trans ht1)
 have c5 : Tryz.prog.cellsOf 5 = 1 := by kernel_rfl
 have c43 : Tryz.prog.cellsOf 184 = 2 := by kernel_rfl
 refine ⟨fun i hi => ?_, fun i hi => ?_⟩
 ·
  obtain ⟨xs, m1, rfl, hx1, hlen, hn3, hel⟩ := DataW.trod_array Tryz.underlying182 hd1
  have hc := World.var?_cell hg1 hv1 i
  have h0 := hel i (by omega)
  have hix : i < xs.length := by omega
  rw [List.getElem?_eq_getElem hix] at h0
  obtain ⟨k, e1, e2, _⟩ := DataW.trod_int Tryz.underlying5 h0
  rw [c5, Nat.mul_one] at e1
  have hcs := head_of_take e1
  have hL := congrArg (fun x => x.1) hx1
  simp only [first_listed, DataW.agg.injEq] at hL
  have hLi := congrArg (fun l => l[i]?) hL
  simp only [List.getElem?_map, List.getElem?_range hi, Option.map_some, List.getElem?_eq_getElem hix, e2] at hLi
  have hk : (firstT i : Int) = k := by simpa using hLi
  rw [hc, ← Array.getElem?_toList, hcs, hk]
 ·
  obtain ⟨xs, m1, rfl, hx1, hlen, hn3, hel⟩ := DataW.trod_array Tryz.underlying185 hd0
  have hca := World.var?_cell hg0 hv0 (2 * i)
  have hcb := World.var?_cell hg0 hv0 (2 * i + 1)
  have h0 := hel i (by omega)
  have hix : i < xs.length := by omega
  rw [List.getElem?_eq_getElem hix, c43] at h0
  obtain ⟨y0, y1, n, e0, _, d0, d1⟩ := trod_struct2 Tryz.underlying184 h0
  simp only [c5, List.drop_zero] at d0 d1
  obtain ⟨k0, e1, e2, _⟩ := DataW.trod_int Tryz.underlying5 d0
  obtain ⟨k1, e3, e4, _⟩ := DataW.trod_int Tryz.underlying5 d1
  have hL := congrArg (fun x => x.1) hx1
  simp only [acc_listed, DataW.agg.injEq] at hL
  have hLi := congrArg (fun l => l[i]?) hL
  simp only [List.getElem?_map, List.getElem?_range hi, Option.map_some, List.getElem?_eq_getElem hix, e0, e2, e4] at hLi
  have hk : (accLo i : Int) = k0 ∧ (accHi i : Int) = k1 := by simpa using hLi
  have ea : cs0.toList[2 * i]? = some (.int .u8 k0) := by
   have := congrArg (fun l => l[0]?) e1
   simp only [List.getElem?_take, List.getElem?_drop] at this
   simpa [Nat.mul_comm] using this
  have eb : cs0.toList[2 * i + 1]? = some (.int .u8 k1) := by
   have := congrArg (fun l => l[0]?) e3
   simp only [List.getElem?_take, List.getElem?_drop] at this
   simpa [Nat.mul_comm] using this
  exact ⟨by rw [hca, ← Array.getElem?_toList, ea, hk.1], by rw [hcb, ← Array.getElem?_toList, eb, hk.2]⟩
end Go.Proofs.YtjneoegbknclgaaGreatDoor
