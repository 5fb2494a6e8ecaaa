/-
  Joined of my texts Wy.
-/
import Derived.Test.YtffncojcnbhblaaGreatDoorJa45
set_option linter.unusedVariables false
set_option linter.unusedSimpArgs false
set_option maxRecDepth 100000
set_option maxHeartbeats 8000000
namespace Go.Proofs.YtffncojcnbhblaaGreatDoor
open Go.RowKit
theorem w_do {a : Nat} {d : ByteArray} (h : a + d.size ≤ 256) : playR (mS1 7) ⟨5, 0, 0, (a : Int), 0, ⟨#[]⟩, ⟨#[]⟩, d⟩ headI = (wS a d, ⟨0, 0, (d.size : Int), false, ⟨#[]⟩, []⟩) := by
 by_cases hd : d.size = 0
 · rw [w_none (by omega) hd, w_same hd, hd]; rfl
 · exact w_some h hd
theorem ex_size (D : ByteArray) (p q : Nat) (hp : p ≤ q) (hq : q ≤ D.size) : (D.extract p q).size = q - p := by
 rw [ByteArray.size_extract]; omega
theorem ex_get (D : ByteArray) (p q j : Nat) (h : j < (D.extract p q).size) (h2 : p + j < D.size) : (D.extract p q)[j]'h = D[p + j]'h2 := by
 rw [ByteArray.getElem_extract]
theorem lit_at (p : Nat) (h : p < (⟨#[48, 49, 50, 51, 52, 53, 54, 55, 56, 57]⟩ : ByteArray).size) : (48 : Int) + (p : Int) = (((⟨#[48, 49, 50, 51, 52, 53, 54, 55, 56, 57]⟩ : ByteArray)[p]'h).toNat : Int) := by
 have h2 : p < 10 := h
 have hc : p = 0 ∨ p = 1 ∨ p = 2 ∨ p = 3 ∨ p = 4 ∨ p = 5 ∨ p = 6 ∨ p = 7 ∨ p = 8 ∨ p = 9 := by omega
 rcases hc with rfl | rfl | rfl | rfl | rfl | rfl | rfl | rfl | rfl | rfl <;> rfl
theorem empty_of {d : ByteArray} (h : d.size = 0) : d = ⟨#[]⟩ := ByteArray.ext (Array.eq_empty_of_size_eq_zero h)
theorem writes_b {w : World} (hT0 : Tab w) {o x y : Int} {d : ByteArray} (hr : ¬ (0 ≤ o ∧ o ≤ 256 ∧ d.size ≤ 256)) (hz : d.size ≤ 9223372036854775807) :
  Calls Tryz.prog 3 #[.int .i64 o, .string d, .int .i64 x, .int .i64 y] w fun e w' => e = .returned (.bool true) ∧ Kept [] w w' := by
 have hT : Hid (Tab w) := hT0
 clear hT0
 go_enter Tryz.func3, Tryz.ntmps3
 go_wp2_with fail
 refine (awake_k hT.out).mono ?_
 rintro e U1 ⟨rfl, kk1⟩
 have HK_2 : Hid (Kept [] w U1) := kk1
 clear kk1
 go_wp2_with fail
 refine (l_made1).mono ?_
 rintro e U3 ⟨a3, b3, d3, eu3, rfl, ho3, kk3⟩
 obtain ⟨p3, m3, q3, n3, r3, t3, rfl, rfl, rfl⟩ := formsL ho3 5 1 1 rfl rfl rfl
 have HOs_3 : Hid (_) := ho3.less HK_2.out.size
 have HK_4 : Hid (_) := kt HK_2.out kk3
 clear HK_2
 clear ho3 kk3
 obtain ⟨V5, X5, HX5, HXk5, HXb5⟩ := boxR U3 #[.slice p3 5 m3, .slice q3 1 n3, .slice r3 1 t3] 27
 go_upto_region 5 with fail
 rw [HX5.out.1, HX5.out.2]
 have HOs_6 : Hid (_) := HOs_3.out.kept HXk5.out
 have HK_6 : Hid (_) := kt HK_4.out HXk5.out
 clear HOs_3 HK_4
 clear HX5 HXk5
 obtain ⟨cX5_0, cX5_1, cX5_2, -⟩ := zs3 HXb5.out
 go_wp2_with fail
 refine (l_DoK HOs_6.out md1_7 (hT.out.kept HK_6.out) ⟨5, 0, 0, o, 0, ⟨#[]⟩, ⟨#[]⟩, d⟩ (dl5 mb1_7 (Int.le_refl _) mt1 rfl hz) (w_bad hr)).mono ?_
 rintro e U7 ⟨a7, b7, d7, eu7, z7, l7, k7, rfl, ho7, hsr7, -, kk7, -⟩
 dsimp only at ho7 ⊢
 obtain ⟨p7, m7, q7, n7, r7, t7, rfl, rfl, rfl⟩ := formsL ho7 (mS1 7).ino.length (mS1 7).opn.length (mS1 7).made.length rfl rfl rfl
 have HOt_7 : Hid (_) := ho7.less HK_6.out.size
 clear cX5_0 cX5_1 cX5_2
 have HBX5_8 : Hid (_) := kb kk7 HXb5.out
 have HOs_8 : Hid (_) := HOs_6.out.kept kk7
 have HK_8 : Hid (_) := kt HK_6.out kk7
 clear HXb5 HOs_6 HK_6
 clear ho7 hsr7 kk7
 obtain ⟨V9, X9, HX9, HXk9, HXb9⟩ := boxes2 U7 #[.slice p7 (mS1 7).ino.length m7, .slice q7 (mS1 7).opn.length n7, .slice r7 (mS1 7).made.length t7] #[.int .i64 9, .int .i64 0, .int .i64 0, .bool false, .string ⟨#[]⟩, .slice z7 l7 k7] 27 31
 go_upto_region 6 with fail
 rw [HX9.out.1, HX9.out.2]
 obtain ⟨Y9, hY9⟩ : ∃ Y9, X9 + 1 = Y9 := ⟨_, rfl⟩
 rw [hY9] at HXb9 ⊢
 have HA9 : Hid (_) := HXb9.out.1
 have HB9 : Hid (_) := HXb9.out.2.1
 have HBX5_10 : Hid (_) := kb HXk9.out HBX5_8.out
 have HOs_10 : Hid (_) := HOs_8.out.kept HXk9.out
 have HOt_10 : Hid (_) := HOt_7.out.kept HXk9.out
 have HK_10 : Hid (_) := kt HK_8.out HXk9.out
 clear HBX5_8 HOs_8 HOt_7 HK_8
 clear HX9 HXk9 HXb9 hY9
 obtain ⟨cY9_0, -, -, -, -, -, -⟩ := rs6 HB9.out
 by_cases h0 : o < 0
 ·
  have b0 : decide (o < 0) = true := decide_eq_true h0
  go_wp2_with fail
  go_ret
  exact ⟨rfl, HK_10.out⟩
 ·
  have b0 : decide (o < 0) = false := decide_eq_false h0
  by_cases h1 : (256 : Int) < o
  ·
   have b1 : decide ((256 : Int) < o) = true := decide_eq_true h1
   go_wp2_with fail
   go_ret
   exact ⟨rfl, HK_10.out⟩
  ·
   have b1 : decide ((256 : Int) < o) = false := decide_eq_false h1
   have h2 : (256 : Int) < (d.size : Int) := by omega
   have b2 : decide ((256 : Int) < (d.size : Int)) = true := decide_eq_true h2
   go_wp2_with fail
   go_ret
   exact ⟨rfl, HK_10.out⟩
theorem writes_f {w : World} (hT0 : Tab w) {a : Nat} {x y : Int} {d : ByteArray} (ha : a ≤ 256) (hd : d.size ≤ 256) (hr : 256 < a + d.size) (hz : d.size ≤ 9223372036854775807) :
  Calls Tryz.prog 3 #[.int .i64 (a : Int), .string d, .int .i64 x, .int .i64 y] w fun e w' => e = .returned (.bool true) ∧ Kept [] w w' := by
 have hT : Hid (Tab w) := hT0
 clear hT0
 go_enter Tryz.func3, Tryz.ntmps3
 go_wp2_with fail
 refine (awake_k hT.out).mono ?_
 rintro e U1 ⟨rfl, kk1⟩
 have HK_2 : Hid (Kept [] w U1) := kk1
 clear kk1
 go_wp2_with fail
 refine (l_made1).mono ?_
 rintro e U3 ⟨a3, b3, d3, eu3, rfl, ho3, kk3⟩
 obtain ⟨p3, m3, q3, n3, r3, t3, rfl, rfl, rfl⟩ := formsL ho3 5 1 1 rfl rfl rfl
 have HOs_3 : Hid (_) := ho3.less HK_2.out.size
 have HK_4 : Hid (_) := kt HK_2.out kk3
 clear HK_2
 clear ho3 kk3
 obtain ⟨V5, X5, HX5, HXk5, HXb5⟩ := boxR U3 #[.slice p3 5 m3, .slice q3 1 n3, .slice r3 1 t3] 27
 go_upto_region 5 with fail
 rw [HX5.out.1, HX5.out.2]
 have HOs_6 : Hid (_) := HOs_3.out.kept HXk5.out
 have HK_6 : Hid (_) := kt HK_4.out HXk5.out
 clear HOs_3 HK_4
 clear HX5 HXk5
 obtain ⟨cX5_0, cX5_1, cX5_2, -⟩ := zs3 HXb5.out
 go_wp2_with fail
 refine (l_DoK HOs_6.out md1_7 (hT.out.kept HK_6.out) ⟨5, 0, 0, (a : Int), 0, ⟨#[]⟩, ⟨#[]⟩, d⟩ (dl5 mb1_7 (Int.le_refl _) mt1 rfl hz) (w_full ha hd hr)).mono ?_
 rintro e U7 ⟨a7, b7, d7, eu7, z7, l7, k7, rfl, ho7, hsr7, -, kk7, -⟩
 dsimp only at ho7 ⊢
 obtain ⟨p7, m7, q7, n7, r7, t7, rfl, rfl, rfl⟩ := formsL ho7 (mS1 7).ino.length (mS1 7).opn.length (mS1 7).made.length rfl rfl rfl
 have HOt_7 : Hid (_) := ho7.less HK_6.out.size
 clear cX5_0 cX5_1 cX5_2
 have HBX5_8 : Hid (_) := kb kk7 HXb5.out
 have HOs_8 : Hid (_) := HOs_6.out.kept kk7
 have HK_8 : Hid (_) := kt HK_6.out kk7
 clear HXb5 HOs_6 HK_6
 clear ho7 hsr7 kk7
 obtain ⟨V9, X9, HX9, HXk9, HXb9⟩ := boxes2 U7 #[.slice p7 (mS1 7).ino.length m7, .slice q7 (mS1 7).opn.length n7, .slice r7 (mS1 7).made.length t7] #[.int .i64 5, .int .i64 0, .int .i64 0, .bool false, .string ⟨#[]⟩, .slice z7 l7 k7] 27 31
 go_upto_region 6 with fail
 rw [HX9.out.1, HX9.out.2]
 obtain ⟨Y9, hY9⟩ : ∃ Y9, X9 + 1 = Y9 := ⟨_, rfl⟩
 rw [hY9] at HXb9 ⊢
 have HA9 : Hid (_) := HXb9.out.1
 have HB9 : Hid (_) := HXb9.out.2.1
 have HBX5_10 : Hid (_) := kb HXk9.out HBX5_8.out
 have HOs_10 : Hid (_) := HOs_8.out.kept HXk9.out
 have HOt_10 : Hid (_) := HOt_7.out.kept HXk9.out
 have HK_10 : Hid (_) := kt HK_8.out HXk9.out
 clear HBX5_8 HOs_8 HOt_7 HK_8
 clear HX9 HXk9 HXb9 hY9
 obtain ⟨cY9_0, -, -, -, -, -, -⟩ := rs6 HB9.out
 have b0 : decide ((a : Int) < 0) = false := decide_eq_false (by omega)
 have b1 : decide ((256 : Int) < (a : Int)) = false := decide_eq_false (by omega)
 have b2 : decide ((256 : Int) < (d.size : Int)) = false := decide_eq_false (by omega)
 have c0 : ¬ (a : Int) < 0 := by omega
 have c1 : ¬ (256 : Int) < (a : Int) := by omega
 have c2 : ¬ (256 : Int) < (d.size : Int) := by omega
 have b3 : (256 : Int) < (a : Int) + (d.size : Int) := by omega
 have b4 : decide ((256 : Int) < (a : Int) + (d.size : Int)) = true := decide_eq_true b3
 go_wp2_with fail
 go_ret
 exact ⟨rfl, HK_10.out⟩
theorem writes_w {w : World} (hT0 : Tab w) {a f n : Nat} {x y fi ni : Int} {d : ByteArray} (h : a + d.size ≤ 256) (hfi : fi = (f : Int)) (hni : ni = (n : Int)) (hx : wrap64 ((IntKind.u64.wrap x).tmod 257) = fi) (hy : wrap64 ((IntKind.u64.wrap y).tmod 257) = ni) (hf : f ≤ 256) (hn : n ≤ 256) (hz : d.size ≤ 9223372036854775807) :
  Calls Tryz.prog 3 #[.int .i64 (a : Int), .string d, .int .i64 x, .int .i64 y] w fun e w' => e = .returned (.bool true) ∧ Kept [] w w' := by
 have HH : Hid (a + d.size ≤ 256 ∧ f ≤ 256 ∧ n ≤ 256) := ⟨h, hf, hn⟩
 have HFN : Hid (fi = (f : Int) ∧ ni = (n : Int)) := ⟨hfi, hni⟩
 clear hfi hni hf hn
 have HXY : Hid (_ ∧ _) := ⟨hx, hy⟩
 clear hx hy
 have hT : Hid (Tab w) := hT0
 clear hT0
 go_enter Tryz.func3, Tryz.ntmps3
 go_wp2_with fail
 refine (awake_k hT.out).mono ?_
 rintro e U1 ⟨rfl, kk1⟩
 have HK_2 : Hid (Kept [] w U1) := kk1
 clear kk1
 go_wp2_with fail
 refine (l_made1).mono ?_
 rintro e U3 ⟨a3, b3, d3, eu3, rfl, ho3, kk3⟩
 obtain ⟨p3, m3, q3, n3, r3, t3, rfl, rfl, rfl⟩ := formsL ho3 5 1 1 rfl rfl rfl
 have HOs_3 : Hid (_) := ho3.less HK_2.out.size
 have HK_4 : Hid (_) := kt HK_2.out kk3
 clear HK_2
 clear ho3 kk3
 obtain ⟨V5, X5, HX5, HXk5, HXb5⟩ := boxR U3 #[.slice p3 5 m3, .slice q3 1 n3, .slice r3 1 t3] 27
 go_upto_region 5 with fail
 rw [HX5.out.1, HX5.out.2]
 have HOs_6 : Hid (_) := HOs_3.out.kept HXk5.out
 have HK_6 : Hid (_) := kt HK_4.out HXk5.out
 clear HOs_3 HK_4
 clear HX5 HXk5
 have f2 := w_may h
 have f3 := w_bd h
 have hm1 : (0 : Int) < ((wS a d).made.length : Int) := by rw [w_set]; exact mt1
 obtain ⟨cX5_0, cX5_1, cX5_2, -⟩ := zs3 HXb5.out
 go_wp2_with fail
 refine (l_DoK HOs_6.out md1_7 (hT.out.kept HK_6.out) ⟨5, 0, 0, (a : Int), 0, ⟨#[]⟩, ⟨#[]⟩, d⟩ (dl5 mb1_7 (Int.le_refl _) mt1 rfl hz) (w_do h)).mono ?_
 rintro e U7 ⟨a7, b7, d7, eu7, z7, l7, k7, rfl, ho7, hsr7, -, kk7, -⟩
 dsimp only at ho7 ⊢
 obtain ⟨p7, m7, q7, n7, r7, t7, rfl, rfl, rfl⟩ := formsL ho7 (wS a d).ino.length (wS a d).opn.length (wS a d).made.length rfl rfl rfl
 have HOt_7 : Hid (_) := ho7.less HK_6.out.size
 clear cX5_0 cX5_1 cX5_2
 have HBX5_8 : Hid (_) := kb kk7 HXb5.out
 have HOs_8 : Hid (_) := HOs_6.out.kept kk7
 have HK_8 : Hid (_) := kt HK_6.out kk7
 clear HXb5 HOs_6 HK_6
 clear ho7 hsr7 kk7
 obtain ⟨V9, X9, HX9, HXk9, HXb9⟩ := boxes2 U7 #[.slice p7 (wS a d).ino.length m7, .slice q7 (wS a d).opn.length n7, .slice r7 (wS a d).made.length t7] #[.int .i64 0, .int .i64 0, .int .i64 (d.size : Int), .bool false, .string ⟨#[]⟩, .slice z7 l7 k7] 27 31
 go_upto_region 6 with fail
 rw [HX9.out.1, HX9.out.2]
 obtain ⟨Y9, hY9⟩ : ∃ Y9, X9 + 1 = Y9 := ⟨_, rfl⟩
 rw [hY9] at HXb9 ⊢
 have HA9 : Hid (_) := HXb9.out.1
 have HB9 : Hid (_) := HXb9.out.2.1
 have HBX5_10 : Hid (_) := kb HXk9.out HBX5_8.out
 have HOs_10 : Hid (_) := HOs_8.out.kept HXk9.out
 have HOt_10 : Hid (_) := HOt_7.out.kept HXk9.out
 have HK_10 : Hid (_) := kt HK_8.out HXk9.out
 clear HBX5_8 HOs_8 HOt_7 HK_8
 clear HX9 HXk9 HXb9 hY9
 have b0 : decide ((a : Int) < 0) = false := decide_eq_false (by have := HH.out; omega)
 have b1 : decide ((256 : Int) < (a : Int)) = false := decide_eq_false (by have := HH.out; omega)
 have b2 : decide ((256 : Int) < (d.size : Int)) = false := decide_eq_false (by have := HH.out; omega)
 have c0 : ¬ (a : Int) < 0 := by have := HH.out; omega
 have c1 : ¬ (256 : Int) < (a : Int) := by have := HH.out; omega
 have c2 : ¬ (256 : Int) < (d.size : Int) := by have := HH.out; omega
 have c3 : ¬ (256 : Int) < (a : Int) + (d.size : Int) := by have := HH.out; omega
 have b3 : decide ((256 : Int) < (a : Int) + (d.size : Int)) = false := decide_eq_false c3
 obtain ⟨SZ, hSZ⟩ : ∃ SZ, (wD a d).size = SZ := ⟨_, rfl⟩
 have HSZ : Hid ((wD a d).size = SZ ∧ SZ = (if d.size = 0 then 10 else max 10 (a + d.size))) := ⟨hSZ, by rw [← hSZ]; exact w_size a d⟩
 obtain ⟨si, hsi⟩ : ∃ si : Int, si = (SZ : Int) := ⟨_, rfl⟩
 have HSI : Hid (si = (SZ : Int)) := hsi
 have HLong : Hid (playR (wS a d) ⟨7, 0, 0, 0, 0, ⟨#[]⟩, ⟨#[]⟩, ⟨#[]⟩⟩ headI = (wS a d, ⟨0, 0, si, false, ⟨#[]⟩, []⟩)) := by show _ = _; rw [hsi, ← hSZ]; exact w_long HH.out.1
 obtain ⟨QD, hQD⟩ : ∃ QD, (wD a d).extract (min f (wD a d).size) (min (f + n) (wD a d).size) = QD := ⟨_, rfl⟩
 have HRead : Hid (playR (wS a d) ⟨4, 0, 0, fi, ni, ⟨#[]⟩, ⟨#[]⟩, ⟨#[]⟩⟩ headI = (wS a d, ⟨0, 0, 0, false, QD, []⟩)) := by show _ = _; rw [← hQD, HFN.out.1, HFN.out.2]; exact w_read HH.out.1 HH.out.2.1 HH.out.2.2
 have HQs : Hid (QD.size = min (f + n) SZ - min f SZ) := by show _ = _; rw [← hQD, ex_size _ _ _ (by omega) (by omega), hSZ]
 have HQb : Hid (∀ j (hj : j < QD.size), ((QD[j]'hj).toNat : Int) = wB a d (f + j)) := fun j hj => by
  have h1 := HQs.out
  have hfj : min f (wD a d).size = f := by rw [hSZ]; omega
  have h2 : f + j < (wD a d).size := by rw [hSZ]; omega
  subst hQD
  rw [ex_get _ _ _ _ hj (by rw [hfj]; exact h2)]
  simp only [hfj]
  exact w_byte h2
 have hSZb : SZ ≤ 256 := by
  have h1 := HSZ.out.2
  have h2 := HH.out
  split at h1 <;> omega
 clear hSZ hQD h hsi
 go_upto_if 61 with fail
 go_cut [13] from 60 to 67 (fun v wx => v = .int .i64 si ∧ wx = V9)
 case first =>
  by_cases hd0 : d.size = 0
  ·
   have HE : Hid (si = 10) := by have h9 := HSI.out; have := HSZ.out.2; rw [if_pos hd0] at this; show _ = _; omega
   have e0 := empty_of hd0
   have e1 : d.toList.isEmpty = true := by rw [ByteArray.toList_eq, e0]; rfl
   rw [e1]
   clear e0 hd0 e1
   go_wp2_with fail
   go_meet
   case rel => exact ⟨by rw [HE.out], rfl⟩
  ·
   have e1 : d.toList.isEmpty = false := by
    rw [ByteArray.toList_eq]
    cases hh : d.data.toList with
    | nil => exfalso; apply hd0; show d.data.size = 0; rw [← Array.length_toList, hh]; rfl
    | cons _ _ => rfl
   by_cases hm : 10 < a + d.size
   ·
    have HE : Hid (si = (a : Int) + (d.size : Int)) := by have h9 := HSI.out; have := HSZ.out.2; rw [if_neg hd0] at this; show _ = _; omega
    have g1 : (10 : Int) < (a : Int) + (d.size : Int) := by omega
    have g2 : (10 : Int) ≤ (a : Int) + (d.size : Int) := by omega
    have g3 : ¬ (a : Int) + (d.size : Int) ≤ 10 := by omega
    have g4 : ¬ (a : Int) + (d.size : Int) < 10 := by omega
    rw [e1]
    clear hd0 e1
    go_wp2_with fail
    go_meet
    case rel => exact ⟨by rw [HE.out], rfl⟩
   ·
    by_cases hm2 : a + d.size = 10
    ·
     have HE : Hid (si = 10) := by have h9 := HSI.out; have := HSZ.out.2; rw [if_neg hd0] at this; show _ = _; omega
     have HE2 : Hid (si = (a : Int) + (d.size : Int)) := by have h9 := HE.out; show _ = _; omega
     have g1 : ¬ (10 : Int) < (a : Int) + (d.size : Int) := by omega
     have g2 : (10 : Int) ≤ (a : Int) + (d.size : Int) := by omega
     have g3 : (a : Int) + (d.size : Int) ≤ 10 := by omega
     have g4 : ¬ (a : Int) + (d.size : Int) < 10 := by omega
     rw [e1]
     clear hd0 e1 hm2
     go_wp2_with fail
     go_meet
     case rel => first | exact ⟨by rw [HE.out], rfl⟩ | exact ⟨by rw [HE2.out], rfl⟩
    ·
     have HE : Hid (si = 10) := by have h9 := HSI.out; have := HSZ.out.2; rw [if_neg hd0] at this; show _ = _; omega
     have g1 : ¬ (10 : Int) < (a : Int) + (d.size : Int) := by omega
     have g2 : ¬ (10 : Int) ≤ (a : Int) + (d.size : Int) := by omega
     have g3 : (a : Int) + (d.size : Int) ≤ 10 := by omega
     have g4 : (a : Int) + (d.size : Int) < 10 := by omega
     rw [e1]
     clear hd0 e1
     go_wp2_with fail
     go_meet
     case rel => exact ⟨by rw [HE.out], rfl⟩
 case rest =>
  obtain ⟨rfl, hwc⟩ := hcut
  have hwc2 := hwc.symm
  subst hwc2
  go_upto_region 14 with fail
  rw [HXY.out.1, HXY.out.2]
  obtain ⟨cX9_0, cX9_1, cX9_2, -⟩ := zs3 HA9.out
  go_wp2_with fail
  refine (l_DoK HOt_10.out f3 (hT.out.kept HK_10.out) ⟨4, 0, 0, fi, ni, ⟨#[]⟩, ⟨#[]⟩, ⟨#[]⟩⟩ (dl4 f2 (Int.le_refl _) hm1 rfl) HRead.out).mono ?_
  rintro e U11 ⟨a11, b11, d11, eu11, z11, l11, k11, rfl, ho11, hsr11, -, kk11, -⟩
  dsimp only at ho11 ⊢
  obtain ⟨p11, m11, q11, n11, r11, t11, rfl, rfl, rfl⟩ := formsL ho11 (wS a d).ino.length (wS a d).opn.length (wS a d).made.length rfl rfl rfl
  have HOq_11 : Hid (_) := ho11.less HK_10.out.size
  clear cX9_0 cX9_1 cX9_2
  have HBX5_12 : Hid (_) := kb kk11 HBX5_10.out
  have HBX9_12 : Hid (_) := kb kk11 HA9.out
  have HBY9_12 : Hid (_) := kb kk11 HB9.out
  have HOs_12 : Hid (_) := HOs_10.out.kept kk11
  have HOt_12 : Hid (_) := HOt_10.out.kept kk11
  have HK_12 : Hid (_) := kt HK_10.out kk11
  clear HBX5_10 HA9 HB9 HOs_10 HOt_10 HK_10
  clear ho11 hsr11 kk11
  obtain ⟨V13, X13, HX13, HXk13, HXb13⟩ := boxes2 U11 #[.slice p11 (wS a d).ino.length m11, .slice q11 (wS a d).opn.length n11, .slice r11 (wS a d).made.length t11] #[.int .i64 0, .int .i64 0, .int .i64 0, .bool false, .string QD, .slice z11 l11 k11] 27 31
  go_upto_region 15 with fail
  rw [HX13.out.1, HX13.out.2]
  obtain ⟨Y13, hY13⟩ : ∃ Y13, X13 + 1 = Y13 := ⟨_, rfl⟩
  rw [hY13] at HXb13 ⊢
  have HA13 : Hid (_) := HXb13.out.1
  have HB13 : Hid (_) := HXb13.out.2.1
  have HBX5_14 : Hid (_) := kb HXk13.out HBX5_12.out
  have HBX9_14 : Hid (_) := kb HXk13.out HBX9_12.out
  have HBY9_14 : Hid (_) := kb HXk13.out HBY9_12.out
  have HOs_14 : Hid (_) := HOs_12.out.kept HXk13.out
  have HOt_14 : Hid (_) := HOt_12.out.kept HXk13.out
  have HOq_14 : Hid (_) := HOq_11.out.kept HXk13.out
  have HK_14 : Hid (_) := kt HK_12.out HXk13.out
  clear HBX5_12 HBX9_12 HBY9_12 HOs_12 HOt_12 HOq_11 HK_12
  clear HX13 HXk13 HXb13 hY13
  obtain ⟨cX9_0, cX9_1, cX9_2, -⟩ := zs3 HBX9_14.out
  go_wp2_with fail
  refine (l_DoK HOt_14.out f3 (hT.out.kept HK_14.out) ⟨7, 0, 0, 0, 0, ⟨#[]⟩, ⟨#[]⟩, ⟨#[]⟩⟩ (dl7 f2 (Int.le_refl _) hm1 rfl) HLong.out).mono ?_
  rintro e U15 ⟨a15, b15, d15, eu15, z15, l15, k15, rfl, ho15, hsr15, -, kk15, -⟩
  dsimp only at ho15 ⊢
  obtain ⟨p15, m15, q15, n15, r15, t15, rfl, rfl, rfl⟩ := formsL ho15 (wS a d).ino.length (wS a d).opn.length (wS a d).made.length rfl rfl rfl
  have HOz_15 : Hid (_) := ho15.less HK_14.out.size
  clear cX9_0 cX9_1 cX9_2
  have HBX5_16 : Hid (_) := kb kk15 HBX5_14.out
  have HBX9_16 : Hid (_) := kb kk15 HBX9_14.out
  have HBY9_16 : Hid (_) := kb kk15 HBY9_14.out
  have HBX13_16 : Hid (_) := kb kk15 HA13.out
  have HBY13_16 : Hid (_) := kb kk15 HB13.out
  have HOs_16 : Hid (_) := HOs_14.out.kept kk15
  have HOt_16 : Hid (_) := HOt_14.out.kept kk15
  have HOq_16 : Hid (_) := HOq_14.out.kept kk15
  have HK_16 : Hid (_) := kt HK_14.out kk15
  clear HBX5_14 HBX9_14 HBY9_14 HA13 HB13 HOs_14 HOt_14 HOq_14 HK_14
  clear ho15 hsr15 kk15
  obtain ⟨V17, X17, HX17, HXk17, HXb17⟩ := boxes2 U15 #[.slice p15 (wS a d).ino.length m15, .slice q15 (wS a d).opn.length n15, .slice r15 (wS a d).made.length t15] #[.int .i64 0, .int .i64 0, .int .i64 si, .bool false, .string ⟨#[]⟩, .slice z15 l15 k15] 27 31
  go_upto_region 16 with fail
  rw [HX17.out.1, HX17.out.2]
  obtain ⟨Y17, hY17⟩ : ∃ Y17, X17 + 1 = Y17 := ⟨_, rfl⟩
  rw [hY17] at HXb17 ⊢
  have HA17 : Hid (_) := HXb17.out.1
  have HB17 : Hid (_) := HXb17.out.2.1
  have HBX5_18 : Hid (_) := kb HXk17.out HBX5_16.out
  have HBX9_18 : Hid (_) := kb HXk17.out HBX9_16.out
  have HBY9_18 : Hid (_) := kb HXk17.out HBY9_16.out
  have HBX13_18 : Hid (_) := kb HXk17.out HBX13_16.out
  have HBY13_18 : Hid (_) := kb HXk17.out HBY13_16.out
  have HOs_18 : Hid (_) := HOs_16.out.kept HXk17.out
  have HOt_18 : Hid (_) := HOt_16.out.kept HXk17.out
  have HOq_18 : Hid (_) := HOq_16.out.kept HXk17.out
  have HOz_18 : Hid (_) := HOz_15.out.kept HXk17.out
  have HK_18 : Hid (_) := kt HK_16.out HXk17.out
  clear HBX5_16 HBX9_16 HBY9_16 HBX13_16 HBY13_16 HOs_16 HOt_16 HOq_16 HOz_15 HK_16
  clear HX17 HXk17 HXb17 hY17
  obtain ⟨cY9_0, -, cY9_2, -, -, -, -⟩ := rs6 HBY9_18.out
  obtain ⟨cY13_0, -, -, -, cY13_4, -, -⟩ := rs6 HBY13_18.out
  obtain ⟨-, -, cY17_2, -, -, -, -⟩ := rs6 HB17.out
  have HQl : Hid (QD.size ≤ 256) := by have := HQs.out; show _ ≤ _; omega
  have si0 : 0 ≤ si := by have := HSI.out; omega
  have si1 : si ≤ 256 := by have := HSI.out; omega
  have fi0 : 0 ≤ fi := by have := HFN.out; omega
  have fi1 : fi ≤ 256 := by have := HFN.out; have := HH.out; omega
  have ni0 : 0 ≤ ni := by have := HFN.out; omega
  have ni1 : ni ≤ 256 := by have := HFN.out; have := HH.out; omega
  go_upto_region 16 with fail
  go_cut [122] from 90 to 121 (fun v wx => v = .bool false ∧ wx = V17)
  case first =>
   have hqs := HQs.out
   have hfn := HH.out
   have hsi := HSI.out
   have hfi := HFN.out
   rcases Int.lt_trichotomy ni (si - fi) with k1 | k1 | k1
   ·
    rcases Int.lt_trichotomy 0 ni with k2 | k2 | k2
    ·
     skip
     have h9 : (QD.size : Int) = ni := by omega
     have e2 : ((QD.size : Int) != ni) = false := by rw [h9]; simp
     have g0 : ni < si - fi := by omega
     have g1 : ni ≤ si - fi := by omega
     have g2 : ¬ si - fi < ni := by omega
     have g3 : ¬ si - fi ≤ ni := by omega
     have g4 : 0 < ni := by omega
     have g5 : 0 ≤ ni := by omega
     have g6 : ¬ ni < 0 := by omega
     have g7 : ¬ ni ≤ 0 := by omega
     clear h9 hqs hfn hsi hfi k1 k2
     go_wp2_with fail
     go_meet
     case rel => exact ⟨rfl, rfl⟩
    ·
     skip
     have h9 : (QD.size : Int) = ni := by omega
     have e4 : ((QD.size : Int) != 0) = false := by rw [h9, ← k2]; simp
     have e2 : ((QD.size : Int) != ni) = false := by rw [h9]; simp
     have g0 : ni < si - fi := by omega
     have g1 : ni ≤ si - fi := by omega
     have g2 : ¬ si - fi < ni := by omega
     have g3 : ¬ si - fi ≤ ni := by omega
     have g4 : ¬ 0 < ni := by omega
     have g5 : 0 ≤ ni := by omega
     have g6 : ¬ ni < 0 := by omega
     have g7 : ni ≤ 0 := by omega
     clear h9 hqs hfn hsi hfi k1 k2
     go_wp2_with fail
     go_meet
     case rel => exact ⟨rfl, rfl⟩
    · omega
   ·
    rcases Int.lt_trichotomy 0 ni with k2 | k2 | k2
    ·
     skip
     have h9 : (QD.size : Int) = ni := by omega
     have e3 : ((QD.size : Int) != si - fi) = false := by rw [h9, k1]; simp
     have e2 : ((QD.size : Int) != ni) = false := by rw [h9]; simp
     have g0 : ¬ ni < si - fi := by omega
     have g1 : ni ≤ si - fi := by omega
     have g2 : ¬ si - fi < ni := by omega
     have g3 : si - fi ≤ ni := by omega
     have g4 : 0 < ni := by omega
     have g5 : 0 ≤ ni := by omega
     have g6 : ¬ ni < 0 := by omega
     have g7 : ¬ ni ≤ 0 := by omega
     have g8 : 0 < si - fi := by omega
     have g9 : 0 ≤ si - fi := by omega
     have g10 : ¬ si - fi < 0 := by omega
     have g11 : ¬ si - fi ≤ 0 := by omega
     clear h9 hqs hfn hsi hfi k1 k2
     go_wp2_with fail
     go_meet
     case rel => exact ⟨rfl, rfl⟩
    ·
     skip
     have h9 : (QD.size : Int) = ni := by omega
     have e3 : ((QD.size : Int) != si - fi) = false := by rw [h9, k1]; simp
     have e4 : ((QD.size : Int) != 0) = false := by rw [h9, ← k2]; simp
     have e2 : ((QD.size : Int) != ni) = false := by rw [h9]; simp
     have g0 : ¬ ni < si - fi := by omega
     have g1 : ni ≤ si - fi := by omega
     have g2 : ¬ si - fi < ni := by omega
     have g3 : si - fi ≤ ni := by omega
     have g4 : ¬ 0 < ni := by omega
     have g5 : 0 ≤ ni := by omega
     have g6 : ¬ ni < 0 := by omega
     have g7 : ni ≤ 0 := by omega
     have g8 : ¬ 0 < si - fi := by omega
     have g9 : 0 ≤ si - fi := by omega
     have g10 : ¬ si - fi < 0 := by omega
     have g11 : si - fi ≤ 0 := by omega
     clear h9 hqs hfn hsi hfi k1 k2
     go_wp2_with fail
     go_meet
     case rel => exact ⟨rfl, rfl⟩
    · omega
   ·
    rcases Int.lt_trichotomy 0 (si - fi) with k2 | k2 | k2
    ·
     skip
     have h9 : (QD.size : Int) = si - fi := by omega
     have e2 : ((QD.size : Int) != si - fi) = false := by rw [h9]; simp
     have g0 : ¬ ni < si - fi := by omega
     have g1 : ¬ ni ≤ si - fi := by omega
     have g2 : si - fi < ni := by omega
     have g3 : si - fi ≤ ni := by omega
     have g4 : 0 < si - fi := by omega
     have g5 : 0 ≤ si - fi := by omega
     have g6 : ¬ si - fi < 0 := by omega
     have g7 : ¬ si - fi ≤ 0 := by omega
     clear h9 hqs hfn hsi hfi k1 k2
     go_wp2_with fail
     go_meet
     case rel => exact ⟨rfl, rfl⟩
    ·
     skip
     have h9 : (QD.size : Int) = si - fi := by omega
     have e4 : ((QD.size : Int) != 0) = false := by rw [h9, ← k2]; simp
     have e2 : ((QD.size : Int) != si - fi) = false := by rw [h9]; simp
     have g0 : ¬ ni < si - fi := by omega
     have g1 : ¬ ni ≤ si - fi := by omega
     have g2 : si - fi < ni := by omega
     have g3 : si - fi ≤ ni := by omega
     have g4 : ¬ 0 < si - fi := by omega
     have g5 : 0 ≤ si - fi := by omega
     have g6 : ¬ si - fi < 0 := by omega
     have g7 : si - fi ≤ 0 := by omega
     clear h9 hqs hfn hsi hfi k1 k2
     go_wp2_with fail
     go_meet
     case rel => exact ⟨rfl, rfl⟩
    ·
     skip
     have h9 : (QD.size : Int) = 0 := by omega
     have e2 : ((QD.size : Int) != 0) = false := by rw [h9]; simp
     have g0 : ¬ ni < si - fi := by omega
     have g1 : ¬ ni ≤ si - fi := by omega
     have g2 : si - fi < ni := by omega
     have g3 : si - fi ≤ ni := by omega
     have g4 : ¬ 0 < si - fi := by omega
     have g5 : ¬ 0 ≤ si - fi := by omega
     have g6 : si - fi < 0 := by omega
     have g7 : si - fi ≤ 0 := by omega
     clear h9 hqs hfn hsi hfi k1 k2
     go_wp2_with fail
     go_meet
     case rel => exact ⟨rfl, rfl⟩
  case rest =>
   obtain ⟨rfl, hwc⟩ := hcut
   have hwc2 := hwc.symm
   subst hwc2
   go_wp2_with fail
   go_loopw [20] (fun i wr => ∃ j : Nat, i = .int .i64 (j : Int) ∧ j ≤ QD.size ∧ wr = V17) (fun i _ => ((QD.size : Int) - intOf i).toNat)
   case atStart => exact ⟨0, rfl, by omega, rfl⟩
   case round =>
    obtain ⟨j, rfl, hj, rfl⟩ := hrel
    have hq256 := HQl.out
    by_cases hlt : j < QD.size
    ·
     have hjq : j < QD.size := hlt
     have i0 : (j : Int) < (QD.size : Int) := by omega
     have i1 : (0 : Int) ≤ (j : Int) := by omega
     obtain ⟨p, hpp⟩ : ∃ p, f + j = p := ⟨_, rfl⟩
     have hpi : fi + (j : Int) = (p : Int) := by have := HFN.out; omega
     have HPI : Hid (fi + (j : Int) = (p : Int)) := hpi
     have hp512 : p ≤ 600 := by have := HH.out; omega
     have h256 : a + d.size ≤ 256 := HH.out.1
     have p0 : (0 : Int) ≤ (p : Int) := by omega
     clear hpi
     go_upto_region 23 with fail
     rw [HPI.out]
     by_cases hp10 : p < 10
     ·
      skip
      by_cases hc1 : a ≤ p
      ·
       by_cases hc2 : p < a + d.size
       ·
        skip
        have l1 : (p : Int) < 10 := by omega
        have l2 : p < (⟨#[48, 49, 50, 51, 52, 53, 54, 55, 56, 57]⟩ : ByteArray).size := hp10
        have l3 : decide ((p : Int) < 10) = true := decide_eq_true l1
        have d1 : (a : Int) ≤ (p : Int) := by omega
        have d2 : (p : Int) < (a : Int) + (d.size : Int) := by omega
        have d3 : decide ((a : Int) ≤ (p : Int)) = true := decide_eq_true d1
        have d4 : decide ((p : Int) < (a : Int) + (d.size : Int)) = true := decide_eq_true d2
        obtain ⟨r, hr⟩ : ∃ r, p - a = r := ⟨_, rfl⟩
        have hr1 : (p : Int) - (a : Int) = (r : Int) := by omega
        have hr2 : r < d.size := by omega
        have hr3 : (r : Int) < (d.size : Int) := by omega
        have hr4 : (0 : Int) ≤ (r : Int) := by omega
        have hv : ((QD[j]'hjq).toNat : Int) = ((d[r]'hr2).toNat : Int) := by
         rw [HQb.out j hjq, hpp]
         unfold wB
         rw [if_pos ⟨by omega, by omega⟩, hr]
         have h9 : d.data[r]? = some (d[r]'hr2) := by
          rw [Array.getElem?_eq_getElem (by exact hr2)]; rfl
         rw [h9]; rfl
        clear hpp hp10 hr
        go_wp2_with fail
        go_roundw
        case rel => exact ⟨j + 1, by simp, by omega, trivial⟩
        case measure => simp [intOf]; omega
       ·
        skip
        have l1 : (p : Int) < 10 := by omega
        have l2 : p < (⟨#[48, 49, 50, 51, 52, 53, 54, 55, 56, 57]⟩ : ByteArray).size := hp10
        have l3 : decide ((p : Int) < 10) = true := decide_eq_true l1
        have d1 : (a : Int) ≤ (p : Int) := by omega
        have d2 : ¬ (p : Int) < (a : Int) + (d.size : Int) := by omega
        have d3 : decide ((a : Int) ≤ (p : Int)) = true := decide_eq_true d1
        have d4 : decide ((p : Int) < (a : Int) + (d.size : Int)) = false := decide_eq_false d2
        have hv : ((QD[j]'hjq).toNat : Int) = (((⟨#[48, 49, 50, 51, 52, 53, 54, 55, 56, 57]⟩ : ByteArray)[p]'l2).toNat : Int) := by
         rw [HQb.out j hjq, hpp]
         unfold wB
         rw [if_neg (by omega), if_pos hp10]
         exact lit_at p l2
        clear hpp hp10
        go_wp2_with fail
        go_roundw
        case rel => exact ⟨j + 1, by simp, by omega, trivial⟩
        case measure => simp [intOf]; omega
      ·
       skip
       have l1 : (p : Int) < 10 := by omega
       have l2 : p < (⟨#[48, 49, 50, 51, 52, 53, 54, 55, 56, 57]⟩ : ByteArray).size := hp10
       have l3 : decide ((p : Int) < 10) = true := decide_eq_true l1
       have d1 : ¬ (a : Int) ≤ (p : Int) := by omega
       have d3 : decide ((a : Int) ≤ (p : Int)) = false := decide_eq_false d1
       have hv : ((QD[j]'hjq).toNat : Int) = (((⟨#[48, 49, 50, 51, 52, 53, 54, 55, 56, 57]⟩ : ByteArray)[p]'l2).toNat : Int) := by
        rw [HQb.out j hjq, hpp]
        unfold wB
        rw [if_neg (by omega), if_pos hp10]
        exact lit_at p l2
       clear hpp hp10
       go_wp2_with fail
       go_roundw
       case rel => exact ⟨j + 1, by simp, by omega, trivial⟩
       case measure => simp [intOf]; omega
     ·
      skip
      by_cases hc1 : a ≤ p
      ·
       by_cases hc2 : p < a + d.size
       ·
        skip
        have l1 : ¬ (p : Int) < 10 := by omega
        have l3 : decide ((p : Int) < 10) = false := decide_eq_false l1
        have d1 : (a : Int) ≤ (p : Int) := by omega
        have d2 : (p : Int) < (a : Int) + (d.size : Int) := by omega
        have d3 : decide ((a : Int) ≤ (p : Int)) = true := decide_eq_true d1
        have d4 : decide ((p : Int) < (a : Int) + (d.size : Int)) = true := decide_eq_true d2
        obtain ⟨r, hr⟩ : ∃ r, p - a = r := ⟨_, rfl⟩
        have hr1 : (p : Int) - (a : Int) = (r : Int) := by omega
        have hr2 : r < d.size := by omega
        have hr3 : (r : Int) < (d.size : Int) := by omega
        have hr4 : (0 : Int) ≤ (r : Int) := by omega
        have hv : ((QD[j]'hjq).toNat : Int) = ((d[r]'hr2).toNat : Int) := by
         rw [HQb.out j hjq, hpp]
         unfold wB
         rw [if_pos ⟨by omega, by omega⟩, hr]
         have h9 : d.data[r]? = some (d[r]'hr2) := by
          rw [Array.getElem?_eq_getElem (by exact hr2)]; rfl
         rw [h9]; rfl
        clear hpp hp10 hr
        go_wp2_with fail
        go_roundw
        case rel => exact ⟨j + 1, by simp, by omega, trivial⟩
        case measure => simp [intOf]; omega
       ·
        skip
        have l1 : ¬ (p : Int) < 10 := by omega
        have l3 : decide ((p : Int) < 10) = false := decide_eq_false l1
        have d1 : (a : Int) ≤ (p : Int) := by omega
        have d2 : ¬ (p : Int) < (a : Int) + (d.size : Int) := by omega
        have d3 : decide ((a : Int) ≤ (p : Int)) = true := decide_eq_true d1
        have d4 : decide ((p : Int) < (a : Int) + (d.size : Int)) = false := decide_eq_false d2
        have hv : ((QD[j]'hjq).toNat : Int) = 0 := by
         rw [HQb.out j hjq, hpp]
         unfold wB
         rw [if_neg (by omega), if_neg hp10]
        clear hpp hp10
        go_wp2_with fail
        go_roundw
        case rel => exact ⟨j + 1, by simp, by omega, trivial⟩
        case measure => simp [intOf]; omega
      ·
       skip
       have l1 : ¬ (p : Int) < 10 := by omega
       have l3 : decide ((p : Int) < 10) = false := decide_eq_false l1
       have d1 : ¬ (a : Int) ≤ (p : Int) := by omega
       have d3 : decide ((a : Int) ≤ (p : Int)) = false := decide_eq_false d1
       have hv : ((QD[j]'hjq).toNat : Int) = 0 := by
        rw [HQb.out j hjq, hpp]
        unfold wB
        rw [if_neg (by omega), if_neg hp10]
       clear hpp hp10
       go_wp2_with fail
       go_roundw
       case rel => exact ⟨j + 1, by simp, by omega, trivial⟩
       case measure => simp [intOf]; omega
    ·
     have i0 : ¬ (j : Int) < (QD.size : Int) := by omega
     go_wp2_with fail
     go_ret
     exact ⟨rfl, HK_18.out⟩
theorem writes_any {w : World} (hT : Tab w) (o x y : Int) (d : ByteArray) (hz : d.size ≤ 9223372036854775807) : Calls Tryz.prog 3 #[.int .i64 o, .string d, .int .i64 x, .int .i64 y] w fun e w' => e = .returned (.bool true) ∧ Kept [] w w' := by
 by_cases h : 0 ≤ o ∧ o ≤ 256 ∧ d.size ≤ 256
 ·
  have e : o = ((o.toNat : Nat) : Int) := by omega
  rw [e]
  by_cases h2 : o.toNat + d.size ≤ 256
  ·
   obtain ⟨f, hf, ef⟩ := mod_lt x 257 (by omega) (by omega)
   obtain ⟨n, hn, en⟩ := mod_lt y 257 (by omega) (by omega)
   exact writes_w hT h2 rfl rfl ef en (by omega) (by omega) hz
  · exact writes_f hT (by omega) (by omega) (by omega) hz
 · exact writes_b hT h hz
end Go.Proofs.YtffncojcnbhblaaGreatDoor
