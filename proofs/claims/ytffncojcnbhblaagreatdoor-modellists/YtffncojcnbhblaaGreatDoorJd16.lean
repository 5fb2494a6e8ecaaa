/-
  Joined of my texts Bs In.
-/
import Derived.Test.YtffncojcnbhblaaGreatDoorJd15
import Derived.Laws.CopyRow
import Derived.Lib.Overlaps
set_option linter.unusedVariables false
set_option linter.unusedSimpArgs false
set_option maxRecDepth 100000
set_option maxHeartbeats 8000000
namespace Go.Proofs.YtffncojcnbhblaaGreatDoor
open Go.RowKit
def FoundAt (q : Nat) (e : Ending) : Prop := ∃ f, e = .returned (.tuple #[.int .i64 (q : Int), .bool f])
theorem bs_ent {w : World} {a : Option Addr} {L : List En} (hL : EntA w a L) (hn : L.length ≤ 5864062014634) (c : Nat) (t : ByteArray) (z : Int) (tt : En) (htt : tt = (t, z)) (hm : ∀ i j (hi : i < L.length) (hj : j < L.length), i ≤ j → ltE L[j] tt = true → ltE L[i] tt = true) :
  Calls Tryz.prog 161 #[.slice a L.length c, .agg #[.string t, .int .i64 z], .func (.func 80) #[] #[]] w fun e w' => FoundAt (L.findIdx fun y => !(ltE y tt)) e ∧ Kept [] w w' := by
 have HM : Hid (_) := hm
 have HTT : Hid (_) := htt
 clear htt
 obtain ⟨W1, R, HWR, HKR, r0, r1⟩ := box2 w (.string t) (.int .i64 z) 64
 have HL : Hid (EntA W1 a L) := hL.kept HKR.out
 clear hL hm
 go_enter Tryz.func161, Tryz.ntmps161
 go_upto_region 1 with fail
 rw [HWR.out.1, HWR.out.2]
 clear HWR
 have HT : Hid (W1.cell? ⟨R, 0, none⟩ = some (.string t) ∧ W1.cell? ⟨R, 1, none⟩ = some (.int .i64 z)) := ⟨r0, r1⟩
 clear r0 r1
 go_wp2_with fail
 go_loopw [9, 10] (fun u v wr => ∃ i j : Nat, u = .int .i64 (i : Int) ∧ v = .int .i64 (j : Int) ∧ i ≤ j ∧ j ≤ L.length ∧ Hid (Kept [] W1 wr ∧ (∀ k (hk : k < L.length), k < i → ltE L[k] tt = true) ∧ ∀ k (hk : k < L.length), j ≤ k → ltE L[k] tt = false)) (fun u v _ => (intOf v - intOf u).toNat)
 case atStart => exact ⟨0, L.length, rfl, rfl, by omega, by omega, Kept.refl _ _, fun k _ hk => by omega, fun k hk h => by omega⟩
 case round =>
  obtain ⟨i, j, rfl, rfl, hij, hj, HJ⟩ := hrel
  by_cases hlt : i < j
  ·
   have i0 : (i : Int) < (j : Int) := by omega
   obtain ⟨h, hh⟩ : ∃ h : Nat, (i + j) / 2 = h := ⟨_, rfl⟩
   have hhl : h < L.length := by omega
   have eh : ((i : Int) + (j : Int)) / 2 = (h : Int) := by omega
   obtain ⟨b, o, ha, p1, p2⟩ := (HL.out.kept HJ.out.1) h hhl
   subst ha
   have HC : Hid (wr.cell? ⟨b, o + h * 2, none⟩ = some (.string (L[h]).1) ∧ wr.cell? ⟨b, o + h * 2 + 1, none⟩ = some (.int .i64 (L[h]).2) ∧ wr.cell? ⟨R, 0, none⟩ = some (.string t) ∧ wr.cell? ⟨R, 1, none⟩ = some (.int .i64 z)) := ⟨p1, p2, HJ.out.1.cell (HT.out.1) (by simp), HJ.out.1.cell (HT.out.2) (by simp)⟩
   have l0 : (0 : Int) ≤ (h : Int) := by omega
   have l1 : (h : Int) < (L.length : Int) := by omega
   have hle : i ≤ h ∧ h < j := by omega
   go_upto_region 5 with fail
   clear eh hh
   go_region_held3 (fun w' => w'.cell? ⟨b, o + h * 2, none⟩ = some (.string (L[h]).1) ∧ w'.cell? ⟨b, o + h * 2 + 1, none⟩ = some (.int .i64 (L[h]).2) ∧ w'.cell? ⟨R, 0, none⟩ = some (.string t) ∧ w'.cell? ⟨R, 1, none⟩ = some (.int .i64 z)) (first | exact HC.out | exact z4 | go_keep)
    (first
     | (go_at_call 80; refine (by_name _ _ _ _).mono ?_; rintro e w4 ⟨rfl, k4⟩; have z4 := (⟨k4.cell (HC.out.1) (by simp), k4.cell (HC.out.2.1) (by simp), k4.cell (HC.out.2.2.1) (by simp), k4.cell (HC.out.2.2.2) (by simp)⟩ : w4.cell? ⟨b, o + h * 2, none⟩ = some (.string (L[h]).1) ∧ w4.cell? ⟨b, o + h * 2 + 1, none⟩ = some (.int .i64 (L[h]).2) ∧ w4.cell? ⟨R, 0, none⟩ = some (.string t) ∧ w4.cell? ⟨R, 1, none⟩ = some (.int .i64 z)); have HK : Hid (Kept [] W1 w4) := (HJ.out.1.drew).trans k4 (by simp); clear k4))
   clear z4 HC
   rcases he : ltE L[h] tt with _ | _
   ·
    have HE : Hid (Kept [] W1 w4 ∧ (∀ k (hk : k < L.length), k < i → ltE L[k] tt = true) ∧ ∀ k (hk : k < L.length), h ≤ k → ltE L[k] tt = false) := ⟨HK.out, HJ.out.2.1, fun k hk hhk => by
     rcases e : ltE L[k] tt with _ | _
     · rfl
     · rw [HM.out h k hhl hk hhk e] at he; cases he⟩
    rw [ltE_of, decide_eq_false_iff_not] at he
    rw [HTT.out] at he
    have hge : ¬ cmpS (L[h]).1 t < 0 := he
    clear he HJ HK
    go_wp2_with fail
    go_roundw
    case rel => exact ⟨i, h, rfl, rfl, by omega, by omega, HE.out⟩
    case measure => simp [intOf]; omega
   ·
    have HE : Hid (Kept [] W1 w4 ∧ (∀ k (hk : k < L.length), k < h + 1 → ltE L[k] tt = true) ∧ ∀ k (hk : k < L.length), j ≤ k → ltE L[k] tt = false) := ⟨HK.out, fun k hk hkh => HM.out k h hk hhl (by omega) he, HJ.out.2.2⟩
    rw [ltE_of, decide_eq_true_eq] at he
    rw [HTT.out] at he
    have hge : cmpS (L[h]).1 t < 0 := he
    clear he HJ HK
    go_wp2_with fail
    go_roundw
    case rel => exact ⟨h + 1, j, by go_num, rfl, by omega, by omega, HE.out⟩
    case measure => simp [intOf]; omega
  ·
   have i0 : ¬ (i : Int) < (j : Int) := by omega
   have HF : Hid ((L.findIdx fun y => !(ltE y tt)) = i) := by
    show _ = _
    by_cases hil : i < L.length
    ·
     rw [List.findIdx_eq hil]
     refine ⟨by rw [HJ.out.2.2 i hil (by omega)]; rfl, fun k hk => by rw [HJ.out.2.1 k (by omega) hk]; rfl⟩
    ·
     have e1 : i = L.length := by omega
     rw [e1, List.findIdx_eq_length]
     intro x hx
     obtain ⟨k, hk, rfl⟩ := List.getElem_of_mem hx
     rw [HJ.out.2.1 k hk (by omega)]
     rfl
   have HK : Hid (Kept [] W1 wr) := HJ.out.1
   clear HJ
   by_cases hil : i < L.length
   ·
    have l0 : (0 : Int) ≤ (i : Int) := by omega
    have l1 : (i : Int) < (L.length : Int) := by omega
    obtain ⟨h, hh⟩ : ∃ h : Nat, i = h := ⟨_, rfl⟩
    subst hh
    obtain ⟨b, o, ha, p1, p2⟩ := (HL.out.kept HK.out) i hil
    subst ha
    have HC : Hid (wr.cell? ⟨b, o + i * 2, none⟩ = some (.string (L[i]).1) ∧ wr.cell? ⟨b, o + i * 2 + 1, none⟩ = some (.int .i64 (L[i]).2) ∧ wr.cell? ⟨R, 0, none⟩ = some (.string t) ∧ wr.cell? ⟨R, 1, none⟩ = some (.int .i64 z)) := ⟨p1, p2, HK.out.cell (HT.out.1) (by simp), HK.out.cell (HT.out.2) (by simp)⟩
    go_upto_region 8 with fail
    go_region_held3 (fun w' => w'.cell? ⟨b, o + i * 2, none⟩ = some (.string (L[i]).1) ∧ w'.cell? ⟨b, o + i * 2 + 1, none⟩ = some (.int .i64 (L[i]).2) ∧ w'.cell? ⟨R, 0, none⟩ = some (.string t) ∧ w'.cell? ⟨R, 1, none⟩ = some (.int .i64 z)) (first | exact HC.out | exact z4 | go_keep)
     (first
      | (go_at_call 80; refine (by_name _ _ _ _).mono ?_; rintro e w4 ⟨rfl, k4⟩; have z4 := (⟨k4.cell (HC.out.1) (by simp), k4.cell (HC.out.2.1) (by simp), k4.cell (HC.out.2.2.1) (by simp), k4.cell (HC.out.2.2.2) (by simp)⟩ : w4.cell? ⟨b, o + i * 2, none⟩ = some (.string (L[i]).1) ∧ w4.cell? ⟨b, o + i * 2 + 1, none⟩ = some (.int .i64 (L[i]).2) ∧ w4.cell? ⟨R, 0, none⟩ = some (.string t) ∧ w4.cell? ⟨R, 1, none⟩ = some (.int .i64 z)); have HK4 : Hid (Kept [] w w4) := (HKR.out.trans (HK.out.drew.trans k4 (by simp)) (by simp)); clear k4))
    clear z4 HC
    go_wp2_with fail
    go_ret2
    first
     | exact ⟨⟨_, by rw [HF.out]; rfl⟩, HK4.out⟩
     | exact ⟨_, by rw [HF.out]; rfl, HK4.out⟩
   ·
    have l1 : ¬ (i : Int) < (L.length : Int) := by omega
    have HK4 : Hid (Kept [] w wr) := HKR.out.trans HK.out (by simp)
    go_upto_region 8 with fail
    go_quiet (fail)
    go_wp2_with fail
    go_ret2
    first
     | exact ⟨⟨_, by rw [HF.out]; rfl⟩, HK4.out.drewN _⟩
     | exact ⟨_, by rw [HF.out]; rfl, HK4.out.drewN _⟩
     | exact ⟨by rw [HF.out]; exact ⟨_, rfl⟩, HK4.out.drewN _⟩
     | exact ⟨by rw [HF.out]; rfl, HK4.out.drewN _⟩
theorem bs_des {w : World} {a : Option Addr} {L : List Ds} (hL : DesA w a L) (hn : L.length ≤ 5864062014634) (c : Nat) (x : Ds) (tt : Ds) (htt : tt = x) (hm : ∀ i j (hi : i < L.length) (hj : j < L.length), i ≤ j → ltD L[j] tt = true → ltD L[i] tt = true) :
  Calls Tryz.prog 153 #[.slice a L.length c, .agg #[.int .i64 x.1, .int .i64 x.2.1, .int .i64 x.2.2], .func (.func 56) #[] #[]] w fun e w' => FoundAt (L.findIdx fun y => !(ltD y tt)) e ∧ Kept [] w w' := by
 have HM : Hid (_) := hm
 have HTT : Hid (_) := htt
 clear htt
 obtain ⟨W1, R, HWR, HKR, r0, r1, r2⟩ := box3 w (.int .i64 x.1) (.int .i64 x.2.1) (.int .i64 x.2.2) 83
 have HL : Hid (DesA W1 a L) := hL.kept HKR.out
 clear hL hm
 go_enter Tryz.func153, Tryz.ntmps153
 go_upto_region 1 with fail
 rw [HWR.out.1, HWR.out.2]
 clear HWR
 have HT : Hid (W1.cell? ⟨R, 0, none⟩ = some (.int .i64 x.1) ∧ W1.cell? ⟨R, 1, none⟩ = some (.int .i64 x.2.1) ∧ W1.cell? ⟨R, 2, none⟩ = some (.int .i64 x.2.2)) := ⟨r0, r1, r2⟩
 clear r0 r1 r2
 go_wp2_with fail
 go_loopw [9, 10] (fun u v wr => ∃ i j : Nat, u = .int .i64 (i : Int) ∧ v = .int .i64 (j : Int) ∧ i ≤ j ∧ j ≤ L.length ∧ Hid (Kept [] W1 wr ∧ (∀ k (hk : k < L.length), k < i → ltD L[k] tt = true) ∧ ∀ k (hk : k < L.length), j ≤ k → ltD L[k] tt = false)) (fun u v _ => (intOf v - intOf u).toNat)
 case atStart => exact ⟨0, L.length, rfl, rfl, by omega, by omega, Kept.refl _ _, fun k _ hk => by omega, fun k hk h => by omega⟩
 case round =>
  obtain ⟨i, j, rfl, rfl, hij, hj, HJ⟩ := hrel
  by_cases hlt : i < j
  ·
   have i0 : (i : Int) < (j : Int) := by omega
   obtain ⟨h, hh⟩ : ∃ h : Nat, (i + j) / 2 = h := ⟨_, rfl⟩
   have hhl : h < L.length := by omega
   have eh : ((i : Int) + (j : Int)) / 2 = (h : Int) := by omega
   obtain ⟨b, o, ha, p1, p2, p3⟩ := (HL.out.kept HJ.out.1) h hhl
   subst ha
   have HC : Hid (wr.cell? ⟨b, o + h * 3, none⟩ = some (.int .i64 (L[h]).1) ∧ wr.cell? ⟨b, o + h * 3 + 1, none⟩ = some (.int .i64 (L[h]).2.1) ∧ wr.cell? ⟨b, o + h * 3 + 2, none⟩ = some (.int .i64 (L[h]).2.2) ∧ wr.cell? ⟨R, 0, none⟩ = some (.int .i64 x.1) ∧ wr.cell? ⟨R, 1, none⟩ = some (.int .i64 x.2.1) ∧ wr.cell? ⟨R, 2, none⟩ = some (.int .i64 x.2.2)) := ⟨p1, p2, p3, HJ.out.1.cell (HT.out.1) (by simp), HJ.out.1.cell (HT.out.2.1) (by simp), HJ.out.1.cell (HT.out.2.2) (by simp)⟩
   have l0 : (0 : Int) ≤ (h : Int) := by omega
   have l1 : (h : Int) < (L.length : Int) := by omega
   have hle : i ≤ h ∧ h < j := by omega
   go_upto_region 5 with fail
   clear eh hh
   go_region_held3 (fun w' => w'.cell? ⟨b, o + h * 3, none⟩ = some (.int .i64 (L[h]).1) ∧ w'.cell? ⟨b, o + h * 3 + 1, none⟩ = some (.int .i64 (L[h]).2.1) ∧ w'.cell? ⟨b, o + h * 3 + 2, none⟩ = some (.int .i64 (L[h]).2.2) ∧ w'.cell? ⟨R, 0, none⟩ = some (.int .i64 x.1) ∧ w'.cell? ⟨R, 1, none⟩ = some (.int .i64 x.2.1) ∧ w'.cell? ⟨R, 2, none⟩ = some (.int .i64 x.2.2)) (first | exact HC.out | exact z4 | go_keep)
    (first
     | (go_at_call 56; refine (by_desc (L[h]) x).mono ?_; rintro e w4 ⟨rfl, k4⟩; have z4 := (⟨k4.cell (HC.out.1) (by simp), k4.cell (HC.out.2.1) (by simp), k4.cell (HC.out.2.2.1) (by simp), k4.cell (HC.out.2.2.2.1) (by simp), k4.cell (HC.out.2.2.2.2.1) (by simp), k4.cell (HC.out.2.2.2.2.2) (by simp)⟩ : w4.cell? ⟨b, o + h * 3, none⟩ = some (.int .i64 (L[h]).1) ∧ w4.cell? ⟨b, o + h * 3 + 1, none⟩ = some (.int .i64 (L[h]).2.1) ∧ w4.cell? ⟨b, o + h * 3 + 2, none⟩ = some (.int .i64 (L[h]).2.2) ∧ w4.cell? ⟨R, 0, none⟩ = some (.int .i64 x.1) ∧ w4.cell? ⟨R, 1, none⟩ = some (.int .i64 x.2.1) ∧ w4.cell? ⟨R, 2, none⟩ = some (.int .i64 x.2.2)); have HK : Hid (Kept [] W1 w4) := (HJ.out.1.drew).trans k4 (by simp); clear k4))
   clear z4 HC
   rcases he : ltD L[h] tt with _ | _
   ·
    have HE : Hid (Kept [] W1 w4 ∧ (∀ k (hk : k < L.length), k < i → ltD L[k] tt = true) ∧ ∀ k (hk : k < L.length), h ≤ k → ltD L[k] tt = false) := ⟨HK.out, HJ.out.2.1, fun k hk hhk => by
     rcases e : ltD L[k] tt with _ | _
     · rfl
     · rw [HM.out h k hhl hk hhk e] at he; cases he⟩
    rw [ltD_of, decide_eq_false_iff_not] at he
    rw [HTT.out] at he
    have hge : ¬ cmpD (L[h]) x < 0 := he
    clear he HJ HK
    go_wp2_with fail
    go_roundw
    case rel => exact ⟨i, h, rfl, rfl, by omega, by omega, HE.out⟩
    case measure => simp [intOf]; omega
   ·
    have HE : Hid (Kept [] W1 w4 ∧ (∀ k (hk : k < L.length), k < h + 1 → ltD L[k] tt = true) ∧ ∀ k (hk : k < L.length), j ≤ k → ltD L[k] tt = false) := ⟨HK.out, fun k hk hkh => HM.out k h hk hhl (by omega) he, HJ.out.2.2⟩
    rw [ltD_of, decide_eq_true_eq] at he
    rw [HTT.out] at he
    have hge : cmpD (L[h]) x < 0 := he
    clear he HJ HK
    go_wp2_with fail
    go_roundw
    case rel => exact ⟨h + 1, j, by go_num, rfl, by omega, by omega, HE.out⟩
    case measure => simp [intOf]; omega
  ·
   have i0 : ¬ (i : Int) < (j : Int) := by omega
   have HF : Hid ((L.findIdx fun y => !(ltD y tt)) = i) := by
    show _ = _
    by_cases hil : i < L.length
    ·
     rw [List.findIdx_eq hil]
     refine ⟨by rw [HJ.out.2.2 i hil (by omega)]; rfl, fun k hk => by rw [HJ.out.2.1 k (by omega) hk]; rfl⟩
    ·
     have e1 : i = L.length := by omega
     rw [e1, List.findIdx_eq_length]
     intro x hx
     obtain ⟨k, hk, rfl⟩ := List.getElem_of_mem hx
     rw [HJ.out.2.1 k hk (by omega)]
     rfl
   have HK : Hid (Kept [] W1 wr) := HJ.out.1
   clear HJ
   by_cases hil : i < L.length
   ·
    have l0 : (0 : Int) ≤ (i : Int) := by omega
    have l1 : (i : Int) < (L.length : Int) := by omega
    obtain ⟨h, hh⟩ : ∃ h : Nat, i = h := ⟨_, rfl⟩
    subst hh
    obtain ⟨b, o, ha, p1, p2, p3⟩ := (HL.out.kept HK.out) i hil
    subst ha
    have HC : Hid (wr.cell? ⟨b, o + i * 3, none⟩ = some (.int .i64 (L[i]).1) ∧ wr.cell? ⟨b, o + i * 3 + 1, none⟩ = some (.int .i64 (L[i]).2.1) ∧ wr.cell? ⟨b, o + i * 3 + 2, none⟩ = some (.int .i64 (L[i]).2.2) ∧ wr.cell? ⟨R, 0, none⟩ = some (.int .i64 x.1) ∧ wr.cell? ⟨R, 1, none⟩ = some (.int .i64 x.2.1) ∧ wr.cell? ⟨R, 2, none⟩ = some (.int .i64 x.2.2)) := ⟨p1, p2, p3, HK.out.cell (HT.out.1) (by simp), HK.out.cell (HT.out.2.1) (by simp), HK.out.cell (HT.out.2.2) (by simp)⟩
    go_upto_region 8 with fail
    go_region_held3 (fun w' => w'.cell? ⟨b, o + i * 3, none⟩ = some (.int .i64 (L[i]).1) ∧ w'.cell? ⟨b, o + i * 3 + 1, none⟩ = some (.int .i64 (L[i]).2.1) ∧ w'.cell? ⟨b, o + i * 3 + 2, none⟩ = some (.int .i64 (L[i]).2.2) ∧ w'.cell? ⟨R, 0, none⟩ = some (.int .i64 x.1) ∧ w'.cell? ⟨R, 1, none⟩ = some (.int .i64 x.2.1) ∧ w'.cell? ⟨R, 2, none⟩ = some (.int .i64 x.2.2)) (first | exact HC.out | exact z4 | go_keep)
     (first
      | (go_at_call 56; refine (by_desc (L[i]) x).mono ?_; rintro e w4 ⟨rfl, k4⟩; have z4 := (⟨k4.cell (HC.out.1) (by simp), k4.cell (HC.out.2.1) (by simp), k4.cell (HC.out.2.2.1) (by simp), k4.cell (HC.out.2.2.2.1) (by simp), k4.cell (HC.out.2.2.2.2.1) (by simp), k4.cell (HC.out.2.2.2.2.2) (by simp)⟩ : w4.cell? ⟨b, o + i * 3, none⟩ = some (.int .i64 (L[i]).1) ∧ w4.cell? ⟨b, o + i * 3 + 1, none⟩ = some (.int .i64 (L[i]).2.1) ∧ w4.cell? ⟨b, o + i * 3 + 2, none⟩ = some (.int .i64 (L[i]).2.2) ∧ w4.cell? ⟨R, 0, none⟩ = some (.int .i64 x.1) ∧ w4.cell? ⟨R, 1, none⟩ = some (.int .i64 x.2.1) ∧ w4.cell? ⟨R, 2, none⟩ = some (.int .i64 x.2.2)); have HK4 : Hid (Kept [] w w4) := (HKR.out.trans (HK.out.drew.trans k4 (by simp)) (by simp)); clear k4))
    clear z4 HC
    go_wp2_with fail
    go_ret2
    first
     | exact ⟨⟨_, by rw [HF.out]; rfl⟩, HK4.out⟩
     | exact ⟨_, by rw [HF.out]; rfl, HK4.out⟩
   ·
    have l1 : ¬ (i : Int) < (L.length : Int) := by omega
    have HK4 : Hid (Kept [] w wr) := HKR.out.trans HK.out (by simp)
    go_upto_region 8 with fail
    go_quiet (fail)
    go_wp2_with fail
    go_ret2
    first
     | exact ⟨⟨_, by rw [HF.out]; rfl⟩, HK4.out.drewN _⟩
     | exact ⟨_, by rw [HF.out]; rfl, HK4.out.drewN _⟩
     | exact ⟨by rw [HF.out]; exact ⟨_, rfl⟩, HK4.out.drewN _⟩
     | exact ⟨by rw [HF.out]; rfl, HK4.out.drewN _⟩
theorem bs_ino {w : World} {a : Option Addr} {L : List Ino} (hL : InoA w a L) (hn : L.length ≤ 2513169434843) (c : Nat) (x : Ino) (ax : Option Addr) (nx cx : Nat) (tt : Ino) (htt : tt = x) (hm : ∀ i j (hi : i < L.length) (hj : j < L.length), i ≤ j → ltI L[j] tt = true → ltI L[i] tt = true) :
  Calls Tryz.prog 149 #[.slice a L.length c, .agg #[.int .i64 x.num, .bool x.dir, .slice ax nx cx, .string x.data], .func (.func 51) #[] #[]] w fun e w' => FoundAt (L.findIdx fun y => !(ltI y tt)) e ∧ Kept [] w w' := by
 have HM : Hid (_) := hm
 have HTT : Hid (_) := htt
 clear htt
 obtain ⟨W1, R, HWR, HKR, r0, r1, r2, r3⟩ := box4 w (.int .i64 x.num) (.bool x.dir) (.slice ax nx cx) (.string x.data) 62
 have HL : Hid (InoA W1 a L) := hL.kept HKR.out
 clear hL hm
 go_enter Tryz.func149, Tryz.ntmps149
 go_upto_region 1 with fail
 rw [HWR.out.1, HWR.out.2]
 clear HWR
 have HT : Hid (W1.cell? ⟨R, 0, none⟩ = some (.int .i64 x.num) ∧ W1.cell? ⟨R, 1, none⟩ = some (.bool x.dir) ∧ W1.cell? ⟨R, 2, none⟩ = some (.slice ax nx cx) ∧ W1.cell? ⟨R, 3, none⟩ = some (.string x.data)) := ⟨r0, r1, r2, r3⟩
 clear r0 r1 r2 r3
 go_wp2_with fail
 go_loopw [9, 10] (fun u v wr => ∃ i j : Nat, u = .int .i64 (i : Int) ∧ v = .int .i64 (j : Int) ∧ i ≤ j ∧ j ≤ L.length ∧ Hid (Kept [] W1 wr ∧ (∀ k (hk : k < L.length), k < i → ltI L[k] tt = true) ∧ ∀ k (hk : k < L.length), j ≤ k → ltI L[k] tt = false)) (fun u v _ => (intOf v - intOf u).toNat)
 case atStart => exact ⟨0, L.length, rfl, rfl, by omega, by omega, Kept.refl _ _, fun k _ hk => by omega, fun k hk h => by omega⟩
 case round =>
  obtain ⟨i, j, rfl, rfl, hij, hj, HJ⟩ := hrel
  by_cases hlt : i < j
  ·
   have i0 : (i : Int) < (j : Int) := by omega
   obtain ⟨h, hh⟩ : ∃ h : Nat, (i + j) / 2 = h := ⟨_, rfl⟩
   have hhl : h < L.length := by omega
   have eh : ((i : Int) + (j : Int)) / 2 = (h : Int) := by omega
   obtain ⟨b, o, ae, ce, ha, p1, p2, p3, p4, -⟩ := (HL.out.kept HJ.out.1) h hhl
   subst ha
   have HC : Hid (wr.cell? ⟨b, o + h * 4, none⟩ = some (.int .i64 (L[h]).num) ∧ wr.cell? ⟨b, o + h * 4 + 1, none⟩ = some (.bool (L[h]).dir) ∧ wr.cell? ⟨b, o + h * 4 + 2, none⟩ = some (.slice ae (L[h]).ents.length ce) ∧ wr.cell? ⟨b, o + h * 4 + 3, none⟩ = some (.string (L[h]).data) ∧ wr.cell? ⟨R, 0, none⟩ = some (.int .i64 x.num) ∧ wr.cell? ⟨R, 1, none⟩ = some (.bool x.dir) ∧ wr.cell? ⟨R, 2, none⟩ = some (.slice ax nx cx) ∧ wr.cell? ⟨R, 3, none⟩ = some (.string x.data)) := ⟨p1, p2, p3, p4, HJ.out.1.cell (HT.out.1) (by simp), HJ.out.1.cell (HT.out.2.1) (by simp), HJ.out.1.cell (HT.out.2.2.1) (by simp), HJ.out.1.cell (HT.out.2.2.2) (by simp)⟩
   have l0 : (0 : Int) ≤ (h : Int) := by omega
   have l1 : (h : Int) < (L.length : Int) := by omega
   have hle : i ≤ h ∧ h < j := by omega
   go_upto_region 5 with fail
   clear eh hh
   go_region_held3 (fun w' => w'.cell? ⟨b, o + h * 4, none⟩ = some (.int .i64 (L[h]).num) ∧ w'.cell? ⟨b, o + h * 4 + 1, none⟩ = some (.bool (L[h]).dir) ∧ w'.cell? ⟨b, o + h * 4 + 2, none⟩ = some (.slice ae (L[h]).ents.length ce) ∧ w'.cell? ⟨b, o + h * 4 + 3, none⟩ = some (.string (L[h]).data) ∧ w'.cell? ⟨R, 0, none⟩ = some (.int .i64 x.num) ∧ w'.cell? ⟨R, 1, none⟩ = some (.bool x.dir) ∧ w'.cell? ⟨R, 2, none⟩ = some (.slice ax nx cx) ∧ w'.cell? ⟨R, 3, none⟩ = some (.string x.data)) (first | exact HC.out | exact z4 | go_keep)
    (first
     | (go_at_call 51; refine (by_num _ _ _ _ _ _ _ _ ⟨_, _, _, rfl⟩ ⟨_, _, _, rfl⟩).mono ?_; rintro e w4 ⟨rfl, k4⟩; have z4 := (⟨k4.cell (HC.out.1) (by simp), k4.cell (HC.out.2.1) (by simp), k4.cell (HC.out.2.2.1) (by simp), k4.cell (HC.out.2.2.2.1) (by simp), k4.cell (HC.out.2.2.2.2.1) (by simp), k4.cell (HC.out.2.2.2.2.2.1) (by simp), k4.cell (HC.out.2.2.2.2.2.2.1) (by simp), k4.cell (HC.out.2.2.2.2.2.2.2) (by simp)⟩ : w4.cell? ⟨b, o + h * 4, none⟩ = some (.int .i64 (L[h]).num) ∧ w4.cell? ⟨b, o + h * 4 + 1, none⟩ = some (.bool (L[h]).dir) ∧ w4.cell? ⟨b, o + h * 4 + 2, none⟩ = some (.slice ae (L[h]).ents.length ce) ∧ w4.cell? ⟨b, o + h * 4 + 3, none⟩ = some (.string (L[h]).data) ∧ w4.cell? ⟨R, 0, none⟩ = some (.int .i64 x.num) ∧ w4.cell? ⟨R, 1, none⟩ = some (.bool x.dir) ∧ w4.cell? ⟨R, 2, none⟩ = some (.slice ax nx cx) ∧ w4.cell? ⟨R, 3, none⟩ = some (.string x.data)); have HK : Hid (Kept [] W1 w4) := (HJ.out.1.drew).trans k4 (by simp); clear k4))
   clear z4 HC
   rcases he : ltI L[h] tt with _ | _
   ·
    have HE : Hid (Kept [] W1 w4 ∧ (∀ k (hk : k < L.length), k < i → ltI L[k] tt = true) ∧ ∀ k (hk : k < L.length), h ≤ k → ltI L[k] tt = false) := ⟨HK.out, HJ.out.2.1, fun k hk hhk => by
     rcases e : ltI L[k] tt with _ | _
     · rfl
     · rw [HM.out h k hhl hk hhk e] at he; cases he⟩
    rw [ltI_of, decide_eq_false_iff_not] at he
    rw [HTT.out] at he
    have hge : ¬ cmpI (L[h]).num x.num < 0 := he
    clear he HJ HK
    go_wp2_with fail
    go_roundw
    case rel => exact ⟨i, h, rfl, rfl, by omega, by omega, HE.out⟩
    case measure => simp [intOf]; omega
   ·
    have HE : Hid (Kept [] W1 w4 ∧ (∀ k (hk : k < L.length), k < h + 1 → ltI L[k] tt = true) ∧ ∀ k (hk : k < L.length), j ≤ k → ltI L[k] tt = false) := ⟨HK.out, fun k hk hkh => HM.out k h hk hhl (by omega) he, HJ.out.2.2⟩
    rw [ltI_of, decide_eq_true_eq] at he
    rw [HTT.out] at he
    have hge : cmpI (L[h]).num x.num < 0 := he
    clear he HJ HK
    go_wp2_with fail
    go_roundw
    case rel => exact ⟨h + 1, j, by go_num, rfl, by omega, by omega, HE.out⟩
    case measure => simp [intOf]; omega
  ·
   have i0 : ¬ (i : Int) < (j : Int) := by omega
   have HF : Hid ((L.findIdx fun y => !(ltI y tt)) = i) := by
    show _ = _
    by_cases hil : i < L.length
    ·
     rw [List.findIdx_eq hil]
     refine ⟨by rw [HJ.out.2.2 i hil (by omega)]; rfl, fun k hk => by rw [HJ.out.2.1 k (by omega) hk]; rfl⟩
    ·
     have e1 : i = L.length := by omega
     rw [e1, List.findIdx_eq_length]
     intro x hx
     obtain ⟨k, hk, rfl⟩ := List.getElem_of_mem hx
     rw [HJ.out.2.1 k hk (by omega)]
     rfl
   have HK : Hid (Kept [] W1 wr) := HJ.out.1
   clear HJ
   by_cases hil : i < L.length
   ·
    have l0 : (0 : Int) ≤ (i : Int) := by omega
    have l1 : (i : Int) < (L.length : Int) := by omega
    obtain ⟨h, hh⟩ : ∃ h : Nat, i = h := ⟨_, rfl⟩
    subst hh
    obtain ⟨b, o, ae, ce, ha, p1, p2, p3, p4, -⟩ := (HL.out.kept HK.out) i hil
    subst ha
    have HC : Hid (wr.cell? ⟨b, o + i * 4, none⟩ = some (.int .i64 (L[i]).num) ∧ wr.cell? ⟨b, o + i * 4 + 1, none⟩ = some (.bool (L[i]).dir) ∧ wr.cell? ⟨b, o + i * 4 + 2, none⟩ = some (.slice ae (L[i]).ents.length ce) ∧ wr.cell? ⟨b, o + i * 4 + 3, none⟩ = some (.string (L[i]).data) ∧ wr.cell? ⟨R, 0, none⟩ = some (.int .i64 x.num) ∧ wr.cell? ⟨R, 1, none⟩ = some (.bool x.dir) ∧ wr.cell? ⟨R, 2, none⟩ = some (.slice ax nx cx) ∧ wr.cell? ⟨R, 3, none⟩ = some (.string x.data)) := ⟨p1, p2, p3, p4, HK.out.cell (HT.out.1) (by simp), HK.out.cell (HT.out.2.1) (by simp), HK.out.cell (HT.out.2.2.1) (by simp), HK.out.cell (HT.out.2.2.2) (by simp)⟩
    go_upto_region 8 with fail
    go_region_held3 (fun w' => w'.cell? ⟨b, o + i * 4, none⟩ = some (.int .i64 (L[i]).num) ∧ w'.cell? ⟨b, o + i * 4 + 1, none⟩ = some (.bool (L[i]).dir) ∧ w'.cell? ⟨b, o + i * 4 + 2, none⟩ = some (.slice ae (L[i]).ents.length ce) ∧ w'.cell? ⟨b, o + i * 4 + 3, none⟩ = some (.string (L[i]).data) ∧ w'.cell? ⟨R, 0, none⟩ = some (.int .i64 x.num) ∧ w'.cell? ⟨R, 1, none⟩ = some (.bool x.dir) ∧ w'.cell? ⟨R, 2, none⟩ = some (.slice ax nx cx) ∧ w'.cell? ⟨R, 3, none⟩ = some (.string x.data)) (first | exact HC.out | exact z4 | go_keep)
     (first
      | (go_at_call 51; refine (by_num _ _ _ _ _ _ _ _ ⟨_, _, _, rfl⟩ ⟨_, _, _, rfl⟩).mono ?_; rintro e w4 ⟨rfl, k4⟩; have z4 := (⟨k4.cell (HC.out.1) (by simp), k4.cell (HC.out.2.1) (by simp), k4.cell (HC.out.2.2.1) (by simp), k4.cell (HC.out.2.2.2.1) (by simp), k4.cell (HC.out.2.2.2.2.1) (by simp), k4.cell (HC.out.2.2.2.2.2.1) (by simp), k4.cell (HC.out.2.2.2.2.2.2.1) (by simp), k4.cell (HC.out.2.2.2.2.2.2.2) (by simp)⟩ : w4.cell? ⟨b, o + i * 4, none⟩ = some (.int .i64 (L[i]).num) ∧ w4.cell? ⟨b, o + i * 4 + 1, none⟩ = some (.bool (L[i]).dir) ∧ w4.cell? ⟨b, o + i * 4 + 2, none⟩ = some (.slice ae (L[i]).ents.length ce) ∧ w4.cell? ⟨b, o + i * 4 + 3, none⟩ = some (.string (L[i]).data) ∧ w4.cell? ⟨R, 0, none⟩ = some (.int .i64 x.num) ∧ w4.cell? ⟨R, 1, none⟩ = some (.bool x.dir) ∧ w4.cell? ⟨R, 2, none⟩ = some (.slice ax nx cx) ∧ w4.cell? ⟨R, 3, none⟩ = some (.string x.data)); have HK4 : Hid (Kept [] w w4) := (HKR.out.trans (HK.out.drew.trans k4 (by simp)) (by simp)); clear k4))
    clear z4 HC
    go_wp2_with fail
    go_ret2
    first
     | exact ⟨⟨_, by rw [HF.out]; rfl⟩, HK4.out⟩
     | exact ⟨_, by rw [HF.out]; rfl, HK4.out⟩
   ·
    have l1 : ¬ (i : Int) < (L.length : Int) := by omega
    have HK4 : Hid (Kept [] w wr) := HKR.out.trans HK.out (by simp)
    go_upto_region 8 with fail
    go_quiet (fail)
    go_wp2_with fail
    go_ret2
    first
     | exact ⟨⟨_, by rw [HF.out]; rfl⟩, HK4.out.drewN _⟩
     | exact ⟨_, by rw [HF.out]; rfl, HK4.out.drewN _⟩
     | exact ⟨by rw [HF.out]; exact ⟨_, rfl⟩, HK4.out.drewN _⟩
     | exact ⟨by rw [HF.out]; rfl, HK4.out.drewN _⟩
theorem run_copy_k {P : Program} (w : World) (dT sT ty elem : TypeId) (g o dLen dCap : Nat) (a : Addr) (sLen sCap : Nat) (cur : Array Value) (t : TypeId) (cs : List Value) (k : Nat)
  (hu : P.underlying dT = some (.slice elem)) (hs : (P.info? elem).map (·.size) = some k)
  (hg : w.heap[g]? = some (.cells cur t (0, 0))) (hn : cs.length = Nat.min sLen dLen * k)
  (hsrc : ∀ j v, cs[j]? = some v → w.cell? (a.add j) = some v) (hfit : o + cs.length ≤ cur.size) (h1 : ∀ v ∈ cs, v.oneCell' = true) :
  (Builtin.copy_ #[dT, sT] ty #[.slice (some ⟨g, o, none⟩) dLen dCap, .slice (some a) sLen sCap]).run P w =
   .ok (goInt (Nat.min sLen dLen)) (w.setRow g (cur.toList.take o ++ cs ++ cur.toList.drop (o + cs.length)).toArray) := by
 have hl := run_loadCells_list (P := P) w a cs hsrc
 have hst := run_storeCells_at P g o t cs 0 cur w hg (by simpa using hfit) h1
 cases hq : P.info? elem with
 | none => simp [hq] at hs
 | some i =>
  have hi : i.size = k := by simpa [hq] using hs
  simp [Builtin.copy_, run_underlying hu, Builtin.lenOf, Builtin.firstCells, sizeOf, typeInfo, hq, hi, ← hn, hl, hst]
theorem zeroCells_size (cs : Array Value) (n : Nat) : (Builtin.zeroCells cs n).size = n * cs.size := by
 simp [Builtin.zeroCells, Nat.mul_comm]
theorem run_append_make {P : Program} (w : World) (t ti ty e : TypeId) (i : TypeInfo) (z : Value) (k bytes : Nat) (ht : P.underlying t = some (.slice e)) (hti : P.underlying ti = some (.int .i64)) (hi : P.info? e = some i) (hz : i.zero = some z)
  (hsize : i.size = k) (hby : i.bytes = bytes) (hzs : z.cells.size = k) (hk : 0 < k) (H g n cap m : Nat) (xs : List Value) (hl : xs.length = n * k)
  (hx : ∀ j u, xs[j]? = some u → w.cell? ⟨g, j, none⟩ = some u) (hm : 0 < m) (hroom : ¬ n + m ≤ cap) (hb : (n + m) * bytes ≤ 140737488355328) (hn : n + m ≤ 17592186043905) (hH : H ≤ w.heap.size) :
  ∃ cap' zs, (Builtin.append_ #[t, ti] ty #[.slice (some ⟨g, 0, none⟩) n cap, .int .i64 (m : Int)]).run P w = .ok (.slice (some ⟨w.heap.size, 0, none⟩) (n + m) cap') (w.drew.alloc (.cells ((xs ++ zs).toArray ++ Builtin.zeroCells z.cells (cap' - (n + m))) e)) ∧ zs.length = m * k ∧ n + m ≤ cap' ∧ cap' ≤ maxLen := by
 have hw : IntKind.i64.wrap (m : Int) = (m : Int) := by rw [IntKind.wrap_i64]; omega
 have n0 : ¬ ((m : Int) < 0) := by omega
 have hmb : (m : Int) * (bytes : Int) ≤ 281474976710656 := by
  have h1 : m * bytes ≤ (n + m) * bytes := Nat.mul_le_mul_right _ (by omega)
  have h2 : ((m * bytes : Nat) : Int) ≤ 140737488355328 := by omega
  rw [Int.natCast_mul] at h2
  omega
 have n1 : ¬ ((281474976710656 : Int) < (m : Int) * (bytes : Int)) := by omega
 have n2 : ¬ m * k = 0 := by
  intro e
  rcases Nat.mul_eq_zero.1 e with e | e <;> omega
 have hge := grownCap_ge w (n + m) cap e
 have hcm : grownCap w (n + m) cap e ≤ maxLen := grownCap_le_maxLen w (n + m) cap e (by unfold maxLen; omega)
 have h48' : ¬ (281474976710656 < Builtin.nextslicecap (n + m) cap * bytes) := by
  have := growslice_fits (need := n + m) (old := cap) (bytes := bytes) (by omega) (by omega)
  omega
 have h63' : ¬ (9223372036854775807 < ((n : Int) + (m : Int))) := by omega
 have hfo := run_firstCells_some (P := P) w.drew k n ⟨g, 0, none⟩ n cap xs (by simpa using hl) (fun j u hu => by rw [add_lit, Nat.zero_add]; exact hx j u hu)
 refine ⟨grownCap w (n + m) cap e, (Builtin.zeroCells z.cells m).toList, ?_, ?_, hge, hcm⟩
 ·
  simp [Builtin.append_, run_underlying ht, run_underlying hti, sizeOf, typeInfo, zeroValue, asInt, asIntOf, hi, hz, hsize, hby, hw, n0, n1, n2, hroom, h63', h48', Question.forced, hfo, newRow, grownCap]
  congr 2
  apply Array.ext'
  simp
 · rw [Array.length_toList, zeroCells_size, hzs]
theorem step_copy_run {P : Program} {ops : Array Oper} {o : Oper} {a : Act} {w : World} {K : Act → World → Prop} {Q : Exit → Act → World → Prop} {E : Prop} (hg : o.guard = none) (s x : Operand) (t1 t2 : TypeId)
  (hop : o.op = Op.call { callee := Callee.builtin Builtin.copy, args := #[s, x], argTypes := #[t1, t2] }) (v u : Value) (hs : a.eval s = v) (hx : a.eval x = u) (v' : Value) (w' : World)
  (hrun : (Builtin.copy_ #[t1, t2] o.type #[v, u]).run P w = .ok v' w') (hK : K (a.put o.dst v') w') : if Region.wanted o (yielded ops a.tmps) = true then Oper.wp P o a w K Q else E := by
 have hw : Region.wanted o (yielded ops a.tmps) = true := by simp [Region.wanted, hg]
 rw [if_pos hw]
 unfold Oper.wp
 simp [execOp, hop, resolve, invoke, builtin, hs, hx, hrun, Result.andThen]
 exact hK
theorem put2 {A P Y R : List Value} {p k r : Nat} (hP : A.take p = P) (hp : P.length = p) (hY : Y.length = k) (hR : R.length = r) (hl : p + k + r ≤ A.length) :
  ((A.take p ++ Y ++ A.drop (p + k)).take (p + k) ++ R ++ (A.take p ++ Y ++ A.drop (p + k)).drop (p + k + r)).take (p + k + r) = P ++ Y ++ R ∧
  ((A.take p ++ Y ++ A.drop (p + k)).take (p + k) ++ R ++ (A.take p ++ Y ++ A.drop (p + k)).drop (p + k + r)).length = A.length ∧
  (A.take p ++ Y ++ A.drop (p + k)).length = A.length := by
 rw [hP]
 have h1 : (P ++ Y).length = p + k := by rw [List.length_append, hp, hY]
 have h2 : (P ++ Y ++ A.drop (p + k)).take (p + k) = P ++ Y := List.take_left' h1
 have h3 : (P ++ Y ++ A.drop (p + k)).length = A.length := by rw [List.length_append, h1, List.length_drop]; omega
 rw [h2]
 refine ⟨List.take_left' (by rw [List.length_append, h1, hR]), ?_, h3⟩
 rw [List.length_append, List.length_append, h1, hR, List.length_drop, h3]
 omega
theorem put3 {A P Y R : List Value} {p k r : Nat} (hP : A.take p = P) (hp : P.length = p) (hY : Y.length = k) (hR : R.length = r) (hl : p + k + r ≤ A.length) :
  ((A.take (p + k) ++ R ++ A.drop (p + k + r)).take p ++ Y ++ (A.take (p + k) ++ R ++ A.drop (p + k + r)).drop (p + k)).take (p + k + r) = P ++ Y ++ R ∧
  ((A.take (p + k) ++ R ++ A.drop (p + k + r)).take p ++ Y ++ (A.take (p + k) ++ R ++ A.drop (p + k + r)).drop (p + k)).length = A.length ∧
  (A.take (p + k) ++ R ++ A.drop (p + k + r)).length = A.length := by
 have h0 : (A.take (p + k)).length = p + k := by rw [List.length_take]; omega
 have h1 : (A.take (p + k) ++ R ++ A.drop (p + k + r)).take p = P := by
  rw [List.append_assoc, List.take_append_of_le_length (by rw [h0]; omega), List.take_take, Nat.min_eq_left (by omega), hP]
 have h2 : (A.take (p + k) ++ R ++ A.drop (p + k + r)).drop (p + k) = R ++ A.drop (p + k + r) := by
  rw [List.append_assoc]
  exact List.drop_left' h0
 have h3 : (A.take (p + k) ++ R ++ A.drop (p + k + r)).length = A.length := by rw [List.length_append, List.length_append, h0, hR, List.length_drop]; omega
 rw [h1, h2, ← List.append_assoc]
 refine ⟨List.take_left' (by rw [List.length_append, List.length_append, hp, hY, hR]), ?_, h3⟩
 rw [List.length_append, List.length_append, List.length_append, hp, hY, hR, List.length_drop]
 omega
end Go.Proofs.YtffncojcnbhblaaGreatDoor
