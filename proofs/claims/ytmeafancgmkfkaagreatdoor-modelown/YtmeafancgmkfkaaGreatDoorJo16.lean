/-
  Joined of my texts Bs.
-/
import Derived.Test.YtmeafancgmkfkaaGreatDoorJo15
namespace Go.Proofs.YtmeafancgmkfkaaGreatDoor
open Go.RowKit
set_option linter.unusedVariables false
def FoundAt (q : Nat) (e : Ending) : Prop := ∃ f, e = .returned (.tuple #[.int .i64 (q : Int), .bool f])
set_option maxRecDepth 100000 in
set_option maxHeartbeats 4000000 in
theorem bs_ent {w : World} {a : Option Addr} {L : List En} (hL : EntA w a L) (hn : L.length ≤ 5864062014634) (c : Nat) (t : ByteArray) (z : Int) (tt : En) (htt : tt = (t, z)) (hm : ∀ i j (hi : i < L.length) (hj : j < L.length), i ≤ j → ltE L[j] tt = true → ltE L[i] tt = true) :
   Calls Tryz.prog 128 #[.slice a L.length c, .agg #[.string t, .int .i64 z], .func (.func 64) #[] #[]] w fun e w' => FoundAt (L.findIdx fun y => !(ltE y tt)) e ∧ Kept [] w w' := by
 have HM : Hid (_) := hm
 have HTT : Hid (_) := htt
 clear htt
 obtain ⟨W1, R, HWR, HKR, r0, r1⟩ := box2 w (.string t) (.int .i64 z) 66
 have HL : Hid (EntA W1 a L) := hL.kept HKR.out
 clear hL hm
 go_enter Tryz.func128, Tryz.ntmps128
 go_upto_region 1 with fail
 rw [HWR.out.1, HWR.out.2]
 clear HWR
 have HT : Hid (W1.cell? ⟨R, 0, none⟩ = some (.string t) ∧ W1.cell? ⟨R, 1, none⟩ = some (.int .i64 z)) := ⟨r0, r1⟩
 clear r0 r1
 go_wp2_with fail
 go_loopw [9, 10] (fun u v wr => ∃ i j : Nat, u = .int .i64 (i : Int) ∧ v = .int .i64 (j : Int) ∧ i ≤ j ∧ j ≤ L.length ∧ Hid (Kept [] W1 wr ∧ (∀ k (hk : k < L.length), k < i → ltE L[k] tt = true) ∧ ∀ k (hk : k < L.length), j ≤ k → ltE L[k] tt = false)) (fun u v _ => (intOf v - intOf u).toNat)
 case atStart => exact ⟨0, L.length, rfl, rfl, by omega, by omega, Kept.refl _ _, fun k _ hk => by omega, fun k hk h => by omega⟩
 case round =>
   obtain ⟨i, j, rfl, rfl, hij, hj, HJ⟩ := hrel
   by_cases hlt : i < j
   · have i0 : (i : Int) < (j : Int) := by omega
     obtain ⟨h, hh⟩ : ∃ h : Nat, (i + j) / 2 = h := ⟨_, rfl⟩
     have hhl : h < L.length := by omega
     have eh : ((i : Int) + (j : Int)) / 2 = (h : Int) := by omega
     obtain ⟨b, o, ha, p1, p2⟩ := (HL.out.kept HJ.out.1) h hhl
     subst ha
     have HC : Hid (wr.cell? ⟨b, o + h * 2, none⟩ = some (.string (L[h]).1) ∧ wr.cell? ⟨b, o + h * 2 + 1, none⟩ = some (.int .i64 (L[h]).2) ∧ wr.cell? ⟨R, 0, none⟩ = some (.string t) ∧ wr.cell? ⟨R, 1, none⟩ = some (.int .i64 z)) := ⟨p1, p2, HJ.out.1.cell (HT.out.1) (by simp), HJ.out.1.cell (HT.out.2) (by simp)⟩
     have l0 : (0 : Int) ≤ (h : Int) := by omega
     have l1 : (h : Int) < (L.length : Int) := by omega
     have hle : i ≤ h ∧ h < j := by omega
     go_upto_region 5 with fail
     clear eh hh
     go_region_held3 (fun w' => w'.cell? ⟨b, o + h * 2, none⟩ = some (.string (L[h]).1) ∧ w'.cell? ⟨b, o + h * 2 + 1, none⟩ = some (.int .i64 (L[h]).2) ∧ w'.cell? ⟨R, 0, none⟩ = some (.string t) ∧ w'.cell? ⟨R, 1, none⟩ = some (.int .i64 z)) (first | exact HC.out | exact z4 | go_keep)
       (first
         | (go_at_call 64; refine (by_name _ _ _ _).mono ?_; rintro e w4 ⟨rfl, k4⟩; have z4 := (⟨k4.cell (HC.out.1) (by simp), k4.cell (HC.out.2.1) (by simp), k4.cell (HC.out.2.2.1) (by simp), k4.cell (HC.out.2.2.2) (by simp)⟩ : w4.cell? ⟨b, o + h * 2, none⟩ = some (.string (L[h]).1) ∧ w4.cell? ⟨b, o + h * 2 + 1, none⟩ = some (.int .i64 (L[h]).2) ∧ w4.cell? ⟨R, 0, none⟩ = some (.string t) ∧ w4.cell? ⟨R, 1, none⟩ = some (.int .i64 z)); have HK : Hid (Kept [] W1 w4) := (HJ.out.1.drew).trans k4 (by simp); clear k4))
     clear z4 HC
     rcases he : ltE L[h] tt with _ | _
     · have HE : Hid (Kept [] W1 w4 ∧ (∀ k (hk : k < L.length), k < i → ltE L[k] tt = true) ∧ ∀ k (hk : k < L.length), h ≤ k → ltE L[k] tt = false) := ⟨HK.out, HJ.out.2.1, fun k hk hhk => by
         rcases e : ltE L[k] tt with _ | _
         · rfl
         · rw [HM.out h k hhl hk hhk e] at he; cases he⟩
       rw [ltE_of, decide_eq_false_iff_not] at he
       rw [HTT.out] at he
       have hge : ¬ cmpS (L[h]).1 t < 0 := he
       clear he HJ HK
       go_wp2_with fail
       go_roundw
       case rel => exact ⟨i, h, rfl, rfl, by omega, by omega, HE.out⟩
       case measure => simp [intOf]; omega
     · have HE : Hid (Kept [] W1 w4 ∧ (∀ k (hk : k < L.length), k < h + 1 → ltE L[k] tt = true) ∧ ∀ k (hk : k < L.length), j ≤ k → ltE L[k] tt = false) := ⟨HK.out, fun k hk hkh => HM.out k h hk hhl (by omega) he, HJ.out.2.2⟩
       rw [ltE_of, decide_eq_true_eq] at he
       rw [HTT.out] at he
       have hge : cmpS (L[h]).1 t < 0 := he
       clear he HJ HK
       go_wp2_with fail
       go_roundw
       case rel => exact ⟨h + 1, j, by go_num, rfl, by omega, by omega, HE.out⟩
       case measure => simp [intOf]; omega
   · have i0 : ¬ (i : Int) < (j : Int) := by omega
     have HF : Hid ((L.findIdx fun y => !(ltE y tt)) = i) := by
       show _ = _
       by_cases hil : i < L.length
       · rw [List.findIdx_eq hil]
         refine ⟨by rw [HJ.out.2.2 i hil (by omega)]; rfl, fun k hk => by rw [HJ.out.2.1 k (by omega) hk]; rfl⟩
       · have e1 : i = L.length := by omega
         rw [e1, List.findIdx_eq_length]
         intro x hx
         obtain ⟨k, hk, rfl⟩ := List.getElem_of_mem hx
         rw [HJ.out.2.1 k hk (by omega)]
         rfl
     have HK : Hid (Kept [] W1 wr) := HJ.out.1
     clear HJ
     by_cases hil : i < L.length
     · have l0 : (0 : Int) ≤ (i : Int) := by omega
       have l1 : (i : Int) < (L.length : Int) := by omega
       obtain ⟨h, hh⟩ : ∃ h : Nat, i = h := ⟨_, rfl⟩
       subst hh
       obtain ⟨b, o, ha, p1, p2⟩ := (HL.out.kept HK.out) i hil
       subst ha
       have HC : Hid (wr.cell? ⟨b, o + i * 2, none⟩ = some (.string (L[i]).1) ∧ wr.cell? ⟨b, o + i * 2 + 1, none⟩ = some (.int .i64 (L[i]).2) ∧ wr.cell? ⟨R, 0, none⟩ = some (.string t) ∧ wr.cell? ⟨R, 1, none⟩ = some (.int .i64 z)) := ⟨p1, p2, HK.out.cell (HT.out.1) (by simp), HK.out.cell (HT.out.2) (by simp)⟩
       go_upto_region 8 with fail
       go_region_held3 (fun w' => w'.cell? ⟨b, o + i * 2, none⟩ = some (.string (L[i]).1) ∧ w'.cell? ⟨b, o + i * 2 + 1, none⟩ = some (.int .i64 (L[i]).2) ∧ w'.cell? ⟨R, 0, none⟩ = some (.string t) ∧ w'.cell? ⟨R, 1, none⟩ = some (.int .i64 z)) (first | exact HC.out | exact z4 | go_keep)
         (first
           | (go_at_call 64; refine (by_name _ _ _ _).mono ?_; rintro e w4 ⟨rfl, k4⟩; have z4 := (⟨k4.cell (HC.out.1) (by simp), k4.cell (HC.out.2.1) (by simp), k4.cell (HC.out.2.2.1) (by simp), k4.cell (HC.out.2.2.2) (by simp)⟩ : w4.cell? ⟨b, o + i * 2, none⟩ = some (.string (L[i]).1) ∧ w4.cell? ⟨b, o + i * 2 + 1, none⟩ = some (.int .i64 (L[i]).2) ∧ w4.cell? ⟨R, 0, none⟩ = some (.string t) ∧ w4.cell? ⟨R, 1, none⟩ = some (.int .i64 z)); have HK4 : Hid (Kept [] w w4) := (HKR.out.trans (HK.out.drew.trans k4 (by simp)) (by simp)); clear k4))
       clear z4 HC
       go_wp2_with fail
       go_ret2
       first
         | exact ⟨⟨_, by rw [HF.out]; rfl⟩, HK4.out⟩
         | exact ⟨_, by rw [HF.out]; rfl, HK4.out⟩
     · have l1 : ¬ (i : Int) < (L.length : Int) := by omega
       have HK4 : Hid (Kept [] w wr) := HKR.out.trans HK.out (by simp)
       go_upto_region 8 with fail
       go_quiet (fail)
       go_wp2_with fail
       go_ret2
       first
         | exact ⟨⟨_, by rw [HF.out]; rfl⟩, HK4.out.drewN _⟩
         | exact ⟨_, by rw [HF.out]; rfl, HK4.out.drewN _⟩
         | exact ⟨by rw [HF.out]; exact ⟨_, rfl⟩, HK4.out.drewN _⟩
         | exact ⟨by rw [HF.out]; rfl, HK4.out.drewN _⟩
set_option maxRecDepth 100000 in
set_option maxHeartbeats 4000000 in
theorem bs_des {w : World} {a : Option Addr} {L : List Ds} (hL : DesA w a L) (hn : L.length ≤ 5864062014634) (c : Nat) (x : Ds) (tt : Ds) (htt : tt = x) (hm : ∀ i j (hi : i < L.length) (hj : j < L.length), i ≤ j → ltD L[j] tt = true → ltD L[i] tt = true) :
   Calls Tryz.prog 120 #[.slice a L.length c, .agg #[.int .i64 x.1, .int .i64 x.2.1, .int .i64 x.2.2], .func (.func 49) #[] #[]] w fun e w' => FoundAt (L.findIdx fun y => !(ltD y tt)) e ∧ Kept [] w w' := by
 have HM : Hid (_) := hm
 have HTT : Hid (_) := htt
 clear htt
 obtain ⟨W1, R, HWR, HKR, r0, r1, r2⟩ := box3 w (.int .i64 x.1) (.int .i64 x.2.1) (.int .i64 x.2.2) 39
 have HL : Hid (DesA W1 a L) := hL.kept HKR.out
 clear hL hm
 go_enter Tryz.func120, Tryz.ntmps120
 go_upto_region 1 with fail
 rw [HWR.out.1, HWR.out.2]
 clear HWR
 have HT : Hid (W1.cell? ⟨R, 0, none⟩ = some (.int .i64 x.1) ∧ W1.cell? ⟨R, 1, none⟩ = some (.int .i64 x.2.1) ∧ W1.cell? ⟨R, 2, none⟩ = some (.int .i64 x.2.2)) := ⟨r0, r1, r2⟩
 clear r0 r1 r2
 go_wp2_with fail
 go_loopw [9, 10] (fun u v wr => ∃ i j : Nat, u = .int .i64 (i : Int) ∧ v = .int .i64 (j : Int) ∧ i ≤ j ∧ j ≤ L.length ∧ Hid (Kept [] W1 wr ∧ (∀ k (hk : k < L.length), k < i → ltD L[k] tt = true) ∧ ∀ k (hk : k < L.length), j ≤ k → ltD L[k] tt = false)) (fun u v _ => (intOf v - intOf u).toNat)
 case atStart => exact ⟨0, L.length, rfl, rfl, by omega, by omega, Kept.refl _ _, fun k _ hk => by omega, fun k hk h => by omega⟩
 case round =>
   obtain ⟨i, j, rfl, rfl, hij, hj, HJ⟩ := hrel
   by_cases hlt : i < j
   · have i0 : (i : Int) < (j : Int) := by omega
     obtain ⟨h, hh⟩ : ∃ h : Nat, (i + j) / 2 = h := ⟨_, rfl⟩
     have hhl : h < L.length := by omega
     have eh : ((i : Int) + (j : Int)) / 2 = (h : Int) := by omega
     obtain ⟨b, o, ha, p1, p2, p3⟩ := (HL.out.kept HJ.out.1) h hhl
     subst ha
     have HC : Hid (wr.cell? ⟨b, o + h * 3, none⟩ = some (.int .i64 (L[h]).1) ∧ wr.cell? ⟨b, o + h * 3 + 1, none⟩ = some (.int .i64 (L[h]).2.1) ∧ wr.cell? ⟨b, o + h * 3 + 2, none⟩ = some (.int .i64 (L[h]).2.2) ∧ wr.cell? ⟨R, 0, none⟩ = some (.int .i64 x.1) ∧ wr.cell? ⟨R, 1, none⟩ = some (.int .i64 x.2.1) ∧ wr.cell? ⟨R, 2, none⟩ = some (.int .i64 x.2.2)) := ⟨p1, p2, p3, HJ.out.1.cell (HT.out.1) (by simp), HJ.out.1.cell (HT.out.2.1) (by simp), HJ.out.1.cell (HT.out.2.2) (by simp)⟩
     have l0 : (0 : Int) ≤ (h : Int) := by omega
     have l1 : (h : Int) < (L.length : Int) := by omega
     have hle : i ≤ h ∧ h < j := by omega
     go_upto_region 5 with fail
     clear eh hh
     go_region_held3 (fun w' => w'.cell? ⟨b, o + h * 3, none⟩ = some (.int .i64 (L[h]).1) ∧ w'.cell? ⟨b, o + h * 3 + 1, none⟩ = some (.int .i64 (L[h]).2.1) ∧ w'.cell? ⟨b, o + h * 3 + 2, none⟩ = some (.int .i64 (L[h]).2.2) ∧ w'.cell? ⟨R, 0, none⟩ = some (.int .i64 x.1) ∧ w'.cell? ⟨R, 1, none⟩ = some (.int .i64 x.2.1) ∧ w'.cell? ⟨R, 2, none⟩ = some (.int .i64 x.2.2)) (first | exact HC.out | exact z4 | go_keep)
       (first
         | (go_at_call 49; refine (by_desc (L[h]) x).mono ?_; rintro e w4 ⟨rfl, k4⟩; have z4 := (⟨k4.cell (HC.out.1) (by simp), k4.cell (HC.out.2.1) (by simp), k4.cell (HC.out.2.2.1) (by simp), k4.cell (HC.out.2.2.2.1) (by simp), k4.cell (HC.out.2.2.2.2.1) (by simp), k4.cell (HC.out.2.2.2.2.2) (by simp)⟩ : w4.cell? ⟨b, o + h * 3, none⟩ = some (.int .i64 (L[h]).1) ∧ w4.cell? ⟨b, o + h * 3 + 1, none⟩ = some (.int .i64 (L[h]).2.1) ∧ w4.cell? ⟨b, o + h * 3 + 2, none⟩ = some (.int .i64 (L[h]).2.2) ∧ w4.cell? ⟨R, 0, none⟩ = some (.int .i64 x.1) ∧ w4.cell? ⟨R, 1, none⟩ = some (.int .i64 x.2.1) ∧ w4.cell? ⟨R, 2, none⟩ = some (.int .i64 x.2.2)); have HK : Hid (Kept [] W1 w4) := (HJ.out.1.drew).trans k4 (by simp); clear k4))
     clear z4 HC
     rcases he : ltD L[h] tt with _ | _
     · have HE : Hid (Kept [] W1 w4 ∧ (∀ k (hk : k < L.length), k < i → ltD L[k] tt = true) ∧ ∀ k (hk : k < L.length), h ≤ k → ltD L[k] tt = false) := ⟨HK.out, HJ.out.2.1, fun k hk hhk => by
         rcases e : ltD L[k] tt with _ | _
         · rfl
         · rw [HM.out h k hhl hk hhk e] at he; cases he⟩
       rw [ltD_of, decide_eq_false_iff_not] at he
       rw [HTT.out] at he
       have hge : ¬ cmpD (L[h]) x < 0 := he
       clear he HJ HK
       go_wp2_with fail
       go_roundw
       case rel => exact ⟨i, h, rfl, rfl, by omega, by omega, HE.out⟩
       case measure => simp [intOf]; omega
     · have HE : Hid (Kept [] W1 w4 ∧ (∀ k (hk : k < L.length), k < h + 1 → ltD L[k] tt = true) ∧ ∀ k (hk : k < L.length), j ≤ k → ltD L[k] tt = false) := ⟨HK.out, fun k hk hkh => HM.out k h hk hhl (by omega) he, HJ.out.2.2⟩
       rw [ltD_of, decide_eq_true_eq] at he
       rw [HTT.out] at he
       have hge : cmpD (L[h]) x < 0 := he
       clear he HJ HK
       go_wp2_with fail
       go_roundw
       case rel => exact ⟨h + 1, j, by go_num, rfl, by omega, by omega, HE.out⟩
       case measure => simp [intOf]; omega
   · have i0 : ¬ (i : Int) < (j : Int) := by omega
     have HF : Hid ((L.findIdx fun y => !(ltD y tt)) = i) := by
       show _ = _
       by_cases hil : i < L.length
       · rw [List.findIdx_eq hil]
         refine ⟨by rw [HJ.out.2.2 i hil (by omega)]; rfl, fun k hk => by rw [HJ.out.2.1 k (by omega) hk]; rfl⟩
       · have e1 : i = L.length := by omega
         rw [e1, List.findIdx_eq_length]
         intro x hx
         obtain ⟨k, hk, rfl⟩ := List.getElem_of_mem hx
         rw [HJ.out.2.1 k hk (by omega)]
         rfl
     have HK : Hid (Kept [] W1 wr) := HJ.out.1
     clear HJ
     by_cases hil : i < L.length
     · have l0 : (0 : Int) ≤ (i : Int) := by omega
       have l1 : (i : Int) < (L.length : Int) := by omega
       obtain ⟨h, hh⟩ : ∃ h : Nat, i = h := ⟨_, rfl⟩
       subst hh
       obtain ⟨b, o, ha, p1, p2, p3⟩ := (HL.out.kept HK.out) i hil
       subst ha
       have HC : Hid (wr.cell? ⟨b, o + i * 3, none⟩ = some (.int .i64 (L[i]).1) ∧ wr.cell? ⟨b, o + i * 3 + 1, none⟩ = some (.int .i64 (L[i]).2.1) ∧ wr.cell? ⟨b, o + i * 3 + 2, none⟩ = some (.int .i64 (L[i]).2.2) ∧ wr.cell? ⟨R, 0, none⟩ = some (.int .i64 x.1) ∧ wr.cell? ⟨R, 1, none⟩ = some (.int .i64 x.2.1) ∧ wr.cell? ⟨R, 2, none⟩ = some (.int .i64 x.2.2)) := ⟨p1, p2, p3, HK.out.cell (HT.out.1) (by simp), HK.out.cell (HT.out.2.1) (by simp), HK.out.cell (HT.out.2.2) (by simp)⟩
       go_upto_region 8 with fail
       go_region_held3 (fun w' => w'.cell? ⟨b, o + i * 3, none⟩ = some (.int .i64 (L[i]).1) ∧ w'.cell? ⟨b, o + i * 3 + 1, none⟩ = some (.int .i64 (L[i]).2.1) ∧ w'.cell? ⟨b, o + i * 3 + 2, none⟩ = some (.int .i64 (L[i]).2.2) ∧ w'.cell? ⟨R, 0, none⟩ = some (.int .i64 x.1) ∧ w'.cell? ⟨R, 1, none⟩ = some (.int .i64 x.2.1) ∧ w'.cell? ⟨R, 2, none⟩ = some (.int .i64 x.2.2)) (first | exact HC.out | exact z4 | go_keep)
         (first
           | (go_at_call 49; refine (by_desc (L[i]) x).mono ?_; rintro e w4 ⟨rfl, k4⟩; have z4 := (⟨k4.cell (HC.out.1) (by simp), k4.cell (HC.out.2.1) (by simp), k4.cell (HC.out.2.2.1) (by simp), k4.cell (HC.out.2.2.2.1) (by simp), k4.cell (HC.out.2.2.2.2.1) (by simp), k4.cell (HC.out.2.2.2.2.2) (by simp)⟩ : w4.cell? ⟨b, o + i * 3, none⟩ = some (.int .i64 (L[i]).1) ∧ w4.cell? ⟨b, o + i * 3 + 1, none⟩ = some (.int .i64 (L[i]).2.1) ∧ w4.cell? ⟨b, o + i * 3 + 2, none⟩ = some (.int .i64 (L[i]).2.2) ∧ w4.cell? ⟨R, 0, none⟩ = some (.int .i64 x.1) ∧ w4.cell? ⟨R, 1, none⟩ = some (.int .i64 x.2.1) ∧ w4.cell? ⟨R, 2, none⟩ = some (.int .i64 x.2.2)); have HK4 : Hid (Kept [] w w4) := (HKR.out.trans (HK.out.drew.trans k4 (by simp)) (by simp)); clear k4))
       clear z4 HC
       go_wp2_with fail
       go_ret2
       first
         | exact ⟨⟨_, by rw [HF.out]; rfl⟩, HK4.out⟩
         | exact ⟨_, by rw [HF.out]; rfl, HK4.out⟩
     · have l1 : ¬ (i : Int) < (L.length : Int) := by omega
       have HK4 : Hid (Kept [] w wr) := HKR.out.trans HK.out (by simp)
       go_upto_region 8 with fail
       go_quiet (fail)
       go_wp2_with fail
       go_ret2
       first
         | exact ⟨⟨_, by rw [HF.out]; rfl⟩, HK4.out.drewN _⟩
         | exact ⟨_, by rw [HF.out]; rfl, HK4.out.drewN _⟩
         | exact ⟨by rw [HF.out]; exact ⟨_, rfl⟩, HK4.out.drewN _⟩
         | exact ⟨by rw [HF.out]; rfl, HK4.out.drewN _⟩
set_option maxRecDepth 100000 in
set_option maxHeartbeats 4000000 in
theorem bs_ino {w : World} {a : Option Addr} {L : List Ino} (hL : InoA w a L) (hn : L.length ≤ 2513169434843) (c : Nat) (x : Ino) (ax : Option Addr) (nx cx : Nat) (tt : Ino) (htt : tt = x) (hm : ∀ i j (hi : i < L.length) (hj : j < L.length), i ≤ j → ltI L[j] tt = true → ltI L[i] tt = true) :
   Calls Tryz.prog 116 #[.slice a L.length c, .agg #[.int .i64 x.num, .bool x.dir, .slice ax nx cx, .string x.data], .func (.func 44) #[] #[]] w fun e w' => FoundAt (L.findIdx fun y => !(ltI y tt)) e ∧ Kept [] w w' := by
 have HM : Hid (_) := hm
 have HTT : Hid (_) := htt
 clear htt
 obtain ⟨W1, R, HWR, HKR, r0, r1, r2, r3⟩ := box4 w (.int .i64 x.num) (.bool x.dir) (.slice ax nx cx) (.string x.data) 64
 have HL : Hid (InoA W1 a L) := hL.kept HKR.out
 clear hL hm
 go_enter Tryz.func116, Tryz.ntmps116
 go_upto_region 1 with fail
 rw [HWR.out.1, HWR.out.2]
 clear HWR
 have HT : Hid (W1.cell? ⟨R, 0, none⟩ = some (.int .i64 x.num) ∧ W1.cell? ⟨R, 1, none⟩ = some (.bool x.dir) ∧ W1.cell? ⟨R, 2, none⟩ = some (.slice ax nx cx) ∧ W1.cell? ⟨R, 3, none⟩ = some (.string x.data)) := ⟨r0, r1, r2, r3⟩
 clear r0 r1 r2 r3
 go_wp2_with fail
 go_loopw [9, 10] (fun u v wr => ∃ i j : Nat, u = .int .i64 (i : Int) ∧ v = .int .i64 (j : Int) ∧ i ≤ j ∧ j ≤ L.length ∧ Hid (Kept [] W1 wr ∧ (∀ k (hk : k < L.length), k < i → ltI L[k] tt = true) ∧ ∀ k (hk : k < L.length), j ≤ k → ltI L[k] tt = false)) (fun u v _ => (intOf v - intOf u).toNat)
 case atStart => exact ⟨0, L.length, rfl, rfl, by omega, by omega, Kept.refl _ _, fun k _ hk => by omega, fun k hk h => by omega⟩
 case round =>
   obtain ⟨i, j, rfl, rfl, hij, hj, HJ⟩ := hrel
   by_cases hlt : i < j
   · have i0 : (i : Int) < (j : Int) := by omega
     obtain ⟨h, hh⟩ : ∃ h : Nat, (i + j) / 2 = h := ⟨_, rfl⟩
     have hhl : h < L.length := by omega
     have eh : ((i : Int) + (j : Int)) / 2 = (h : Int) := by omega
     obtain ⟨b, o, ae, ce, ha, p1, p2, p3, p4, -⟩ := (HL.out.kept HJ.out.1) h hhl
     subst ha
     have HC : Hid (wr.cell? ⟨b, o + h * 4, none⟩ = some (.int .i64 (L[h]).num) ∧ wr.cell? ⟨b, o + h * 4 + 1, none⟩ = some (.bool (L[h]).dir) ∧ wr.cell? ⟨b, o + h * 4 + 2, none⟩ = some (.slice ae (L[h]).ents.length ce) ∧ wr.cell? ⟨b, o + h * 4 + 3, none⟩ = some (.string (L[h]).data) ∧ wr.cell? ⟨R, 0, none⟩ = some (.int .i64 x.num) ∧ wr.cell? ⟨R, 1, none⟩ = some (.bool x.dir) ∧ wr.cell? ⟨R, 2, none⟩ = some (.slice ax nx cx) ∧ wr.cell? ⟨R, 3, none⟩ = some (.string x.data)) := ⟨p1, p2, p3, p4, HJ.out.1.cell (HT.out.1) (by simp), HJ.out.1.cell (HT.out.2.1) (by simp), HJ.out.1.cell (HT.out.2.2.1) (by simp), HJ.out.1.cell (HT.out.2.2.2) (by simp)⟩
     have l0 : (0 : Int) ≤ (h : Int) := by omega
     have l1 : (h : Int) < (L.length : Int) := by omega
     have hle : i ≤ h ∧ h < j := by omega
     go_upto_region 5 with fail
     clear eh hh
     go_region_held3 (fun w' => w'.cell? ⟨b, o + h * 4, none⟩ = some (.int .i64 (L[h]).num) ∧ w'.cell? ⟨b, o + h * 4 + 1, none⟩ = some (.bool (L[h]).dir) ∧ w'.cell? ⟨b, o + h * 4 + 2, none⟩ = some (.slice ae (L[h]).ents.length ce) ∧ w'.cell? ⟨b, o + h * 4 + 3, none⟩ = some (.string (L[h]).data) ∧ w'.cell? ⟨R, 0, none⟩ = some (.int .i64 x.num) ∧ w'.cell? ⟨R, 1, none⟩ = some (.bool x.dir) ∧ w'.cell? ⟨R, 2, none⟩ = some (.slice ax nx cx) ∧ w'.cell? ⟨R, 3, none⟩ = some (.string x.data)) (first | exact HC.out | exact z4 | go_keep)
       (first
         | (go_at_call 44; refine (by_num _ _ _ _ _ _ _ _ ⟨_, _, _, rfl⟩ ⟨_, _, _, rfl⟩).mono ?_; rintro e w4 ⟨rfl, k4⟩; have z4 := (⟨k4.cell (HC.out.1) (by simp), k4.cell (HC.out.2.1) (by simp), k4.cell (HC.out.2.2.1) (by simp), k4.cell (HC.out.2.2.2.1) (by simp), k4.cell (HC.out.2.2.2.2.1) (by simp), k4.cell (HC.out.2.2.2.2.2.1) (by simp), k4.cell (HC.out.2.2.2.2.2.2.1) (by simp), k4.cell (HC.out.2.2.2.2.2.2.2) (by simp)⟩ : w4.cell? ⟨b, o + h * 4, none⟩ = some (.int .i64 (L[h]).num) ∧ w4.cell? ⟨b, o + h * 4 + 1, none⟩ = some (.bool (L[h]).dir) ∧ w4.cell? ⟨b, o + h * 4 + 2, none⟩ = some (.slice ae (L[h]).ents.length ce) ∧ w4.cell? ⟨b, o + h * 4 + 3, none⟩ = some (.string (L[h]).data) ∧ w4.cell? ⟨R, 0, none⟩ = some (.int .i64 x.num) ∧ w4.cell? ⟨R, 1, none⟩ = some (.bool x.dir) ∧ w4.cell? ⟨R, 2, none⟩ = some (.slice ax nx cx) ∧ w4.cell? ⟨R, 3, none⟩ = some (.string x.data)); have HK : Hid (Kept [] W1 w4) := (HJ.out.1.drew).trans k4 (by simp); clear k4))
     clear z4 HC
     rcases he : ltI L[h] tt with _ | _
     · have HE : Hid (Kept [] W1 w4 ∧ (∀ k (hk : k < L.length), k < i → ltI L[k] tt = true) ∧ ∀ k (hk : k < L.length), h ≤ k → ltI L[k] tt = false) := ⟨HK.out, HJ.out.2.1, fun k hk hhk => by
         rcases e : ltI L[k] tt with _ | _
         · rfl
         · rw [HM.out h k hhl hk hhk e] at he; cases he⟩
       rw [ltI_of, decide_eq_false_iff_not] at he
       rw [HTT.out] at he
       have hge : ¬ cmpI (L[h]).num x.num < 0 := he
       clear he HJ HK
       go_wp2_with fail
       go_roundw
       case rel => exact ⟨i, h, rfl, rfl, by omega, by omega, HE.out⟩
       case measure => simp [intOf]; omega
     · have HE : Hid (Kept [] W1 w4 ∧ (∀ k (hk : k < L.length), k < h + 1 → ltI L[k] tt = true) ∧ ∀ k (hk : k < L.length), j ≤ k → ltI L[k] tt = false) := ⟨HK.out, fun k hk hkh => HM.out k h hk hhl (by omega) he, HJ.out.2.2⟩
       rw [ltI_of, decide_eq_true_eq] at he
       rw [HTT.out] at he
       have hge : cmpI (L[h]).num x.num < 0 := he
       clear he HJ HK
       go_wp2_with fail
       go_roundw
       case rel => exact ⟨h + 1, j, by go_num, rfl, by omega, by omega, HE.out⟩
       case measure => simp [intOf]; omega
   · have i0 : ¬ (i : Int) < (j : Int) := by omega
     have HF : Hid ((L.findIdx fun y => !(ltI y tt)) = i) := by
       show _ = _
       by_cases hil : i < L.length
       · rw [List.findIdx_eq hil]
         refine ⟨by rw [HJ.out.2.2 i hil (by omega)]; rfl, fun k hk => by rw [HJ.out.2.1 k (by omega) hk]; rfl⟩
       · have e1 : i = L.length := by omega
         rw [e1, List.findIdx_eq_length]
         intro x hx
         obtain ⟨k, hk, rfl⟩ := List.getElem_of_mem hx
         rw [HJ.out.2.1 k hk (by omega)]
         rfl
     have HK : Hid (Kept [] W1 wr) := HJ.out.1
     clear HJ
     by_cases hil : i < L.length
     · have l0 : (0 : Int) ≤ (i : Int) := by omega
       have l1 : (i : Int) < (L.length : Int) := by omega
       obtain ⟨h, hh⟩ : ∃ h : Nat, i = h := ⟨_, rfl⟩
       subst hh
       obtain ⟨b, o, ae, ce, ha, p1, p2, p3, p4, -⟩ := (HL.out.kept HK.out) i hil
       subst ha
       have HC : Hid (wr.cell? ⟨b, o + i * 4, none⟩ = some (.int .i64 (L[i]).num) ∧ wr.cell? ⟨b, o + i * 4 + 1, none⟩ = some (.bool (L[i]).dir) ∧ wr.cell? ⟨b, o + i * 4 + 2, none⟩ = some (.slice ae (L[i]).ents.length ce) ∧ wr.cell? ⟨b, o + i * 4 + 3, none⟩ = some (.string (L[i]).data) ∧ wr.cell? ⟨R, 0, none⟩ = some (.int .i64 x.num) ∧ wr.cell? ⟨R, 1, none⟩ = some (.bool x.dir) ∧ wr.cell? ⟨R, 2, none⟩ = some (.slice ax nx cx) ∧ wr.cell? ⟨R, 3, none⟩ = some (.string x.data)) := ⟨p1, p2, p3, p4, HK.out.cell (HT.out.1) (by simp), HK.out.cell (HT.out.2.1) (by simp), HK.out.cell (HT.out.2.2.1) (by simp), HK.out.cell (HT.out.2.2.2) (by simp)⟩
       go_upto_region 8 with fail
       go_region_held3 (fun w' => w'.cell? ⟨b, o + i * 4, none⟩ = some (.int .i64 (L[i]).num) ∧ w'.cell? ⟨b, o + i * 4 + 1, none⟩ = some (.bool (L[i]).dir) ∧ w'.cell? ⟨b, o + i * 4 + 2, none⟩ = some (.slice ae (L[i]).ents.length ce) ∧ w'.cell? ⟨b, o + i * 4 + 3, none⟩ = some (.string (L[i]).data) ∧ w'.cell? ⟨R, 0, none⟩ = some (.int .i64 x.num) ∧ w'.cell? ⟨R, 1, none⟩ = some (.bool x.dir) ∧ w'.cell? ⟨R, 2, none⟩ = some (.slice ax nx cx) ∧ w'.cell? ⟨R, 3, none⟩ = some (.string x.data)) (first | exact HC.out | exact z4 | go_keep)
         (first
           | (go_at_call 44; refine (by_num _ _ _ _ _ _ _ _ ⟨_, _, _, rfl⟩ ⟨_, _, _, rfl⟩).mono ?_; rintro e w4 ⟨rfl, k4⟩; have z4 := (⟨k4.cell (HC.out.1) (by simp), k4.cell (HC.out.2.1) (by simp), k4.cell (HC.out.2.2.1) (by simp), k4.cell (HC.out.2.2.2.1) (by simp), k4.cell (HC.out.2.2.2.2.1) (by simp), k4.cell (HC.out.2.2.2.2.2.1) (by simp), k4.cell (HC.out.2.2.2.2.2.2.1) (by simp), k4.cell (HC.out.2.2.2.2.2.2.2) (by simp)⟩ : w4.cell? ⟨b, o + i * 4, none⟩ = some (.int .i64 (L[i]).num) ∧ w4.cell? ⟨b, o + i * 4 + 1, none⟩ = some (.bool (L[i]).dir) ∧ w4.cell? ⟨b, o + i * 4 + 2, none⟩ = some (.slice ae (L[i]).ents.length ce) ∧ w4.cell? ⟨b, o + i * 4 + 3, none⟩ = some (.string (L[i]).data) ∧ w4.cell? ⟨R, 0, none⟩ = some (.int .i64 x.num) ∧ w4.cell? ⟨R, 1, none⟩ = some (.bool x.dir) ∧ w4.cell? ⟨R, 2, none⟩ = some (.slice ax nx cx) ∧ w4.cell? ⟨R, 3, none⟩ = some (.string x.data)); have HK4 : Hid (Kept [] w w4) := (HKR.out.trans (HK.out.drew.trans k4 (by simp)) (by simp)); clear k4))
       clear z4 HC
       go_wp2_with fail
       go_ret2
       first
         | exact ⟨⟨_, by rw [HF.out]; rfl⟩, HK4.out⟩
         | exact ⟨_, by rw [HF.out]; rfl, HK4.out⟩
     · have l1 : ¬ (i : Int) < (L.length : Int) := by omega
       have HK4 : Hid (Kept [] w wr) := HKR.out.trans HK.out (by simp)
       go_upto_region 8 with fail
       go_quiet (fail)
       go_wp2_with fail
       go_ret2
       first
         | exact ⟨⟨_, by rw [HF.out]; rfl⟩, HK4.out.drewN _⟩
         | exact ⟨_, by rw [HF.out]; rfl, HK4.out.drewN _⟩
         | exact ⟨by rw [HF.out]; exact ⟨_, rfl⟩, HK4.out.drewN _⟩
         | exact ⟨by rw [HF.out]; rfl, HK4.out.drewN _⟩
end Go.Proofs.YtmeafancgmkfkaaGreatDoor
