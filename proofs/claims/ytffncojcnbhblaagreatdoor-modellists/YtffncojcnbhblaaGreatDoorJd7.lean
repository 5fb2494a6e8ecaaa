/-
  Joined of my texts Rr Nb.
-/
import Derived.Test.YtffncojcnbhblaaGreatDoorJd6
import Derived.BigQuiet
set_option linter.unusedVariables false
set_option linter.unusedSimpArgs false
set_option maxRecDepth 100000
set_option maxHeartbeats 8000000
namespace Go.Proofs.YtffncojcnbhblaaGreatDoor
open Go.RowKit
def adj {α : Type} (f : α → α → Bool) : List α → Bool
 | x :: y :: l => f x y && adj f (y :: l)
 | _ => true
theorem adj_iff {α : Type} {f : α → α → Bool} : ∀ {L : List α}, adj f L = true ↔ ∀ j (hj : j + 1 < L.length), f L[j] L[j + 1] = true
 | [] => by simp [adj]
 | [x] => by simp [adj]
 | x :: y :: l => by
  rw [adj, Bool.and_eq_true, adj_iff]
  constructor
  ·
   rintro ⟨h1, h2⟩ j hj
   cases j with
   | zero => exact h1
   | succ j => exact h2 j (by simpa using hj)
  ·
   intro h
   exact ⟨h 0 (by simp), fun j hj => h (j + 1) (by simpa using hj)⟩
theorem adj_no {α : Type} {f : α → α → Bool} {L : List α} {j : Nat} (hj : j + 1 < L.length) (h : f L[j] L[j + 1] = false) : adj f L = false := by
 rw [← Bool.not_eq_true, adj_iff]
 intro e
 rw [e j hj] at h
 cases h
theorem cmpI_neg (x y : Int) : cmpI x y < 0 ↔ x < y := by unfold cmpI; split <;> (try split) <;> omega
theorem cmpS_neg (x y : ByteArray) : cmpS x y < 0 ↔ below x y = true := by
 unfold cmpS
 by_cases h : below x y = true
 · rw [if_pos h]; simp [h]
 · rw [if_neg h]; split <;> simp [h]
theorem cmpI_zero (x y : Int) : cmpI x y = 0 ↔ x = y := by unfold cmpI; split <;> (try split) <;> omega
theorem cmpD_neg (x y : Ds) : cmpD x y < 0 ↔ x.1 < y.1 ∨ (x.1 = y.1 ∧ x.2.1 < y.2.1) := by
 unfold cmpD orI
 have h1 := cmpI_neg x.1 y.1
 have h2 := cmpI_neg x.2.1 y.2.1
 have h3 := cmpI_zero x.1 y.1
 split
 · rename_i h; rw [h3] at h; rw [h2]; omega
 · rename_i h; rw [h3] at h; rw [h1]; omega
def ltI (x y : Ino) : Bool := decide (x.num < y.num)
def ltE (x y : En) : Bool := below x.1 y.1
def ltD (x y : Ds) : Bool := decide (x.1 < y.1) || (x.1 == y.1 && decide (x.2.1 < y.2.1))
theorem ltI_of (x y : Ino) : ltI x y = decide (cmpI x.num y.num < 0) := by unfold ltI; simp [cmpI_neg]
theorem ltE_of (x y : En) : ltE x y = decide (cmpS x.1 y.1 < 0) := by unfold ltE; simp [cmpS_neg]
theorem ltD_of (x y : Ds) : ltD x y = decide (cmpD x y < 0) := by unfold ltD; simp [cmpD_neg]; congr 2
theorem row_ent {w : World} {a : Option Addr} {L : List En} (hL : EntA w a L) (hn : L.length ≤ lim) (c : Nat) :
  Calls Tryz.prog 79 #[.slice a L.length c, .func (.func 80) #[] #[]] w fun e w' => e = .returned (.bool (adj ltE L)) ∧ Kept [] w w' := by
 have HL : Hid (EntA w a L) := hL
 unfold lim at hn
 clear hL
 go_enter Tryz.func79, Tryz.ntmps79
 go_wp2_with fail
 go_loopw [5] (fun i wr => ∃ n : Nat, i = .int .i64 ((n : Int) + 1) ∧ n ≤ L.length ∧ Hid (Kept [] w wr ∧ ∀ j (hj : j + 1 < L.length), j < n → ltE L[j] L[j + 1] = true)) (fun i _ => (L.length + 1 - intOf i).toNat)
 case atStart => exact ⟨0, rfl, by omega, Kept.refl _ _, fun j _ hj => by omega⟩
 case round =>
  obtain ⟨n, rfl, hn, HJ⟩ := hrel
  by_cases hlt : n + 1 < L.length
  ·
   have i0 : (0 : Int) ≤ (n : Int) + 1 := by omega
   have i1 : (n : Int) + 1 < (L.length : Int) := by omega
   have v2 : IntKind.i64.wrap ((n : Int) + 1 - 1) = (n : Int) := by rw [IntKind.wrap_i64]; omega
   have v3 : (n : Int) + 1 - 1 = (n : Int) := by omega
   have v4 : (0 : Int) ≤ (n : Int) := by omega
   have v5 : (n : Int) < (L.length : Int) := by omega
   have v6 : n < L.length := by omega
   have v7 : IntKind.i64.wrap (n : Int) = (n : Int) := by rw [IntKind.wrap_i64]; omega
   have v8 : ((n : Int) + 1).toNat = n + 1 := by omega
   have v9 : IntKind.i64.wrap ((n : Int) + 1) = (n : Int) + 1 := by rw [IntKind.wrap_i64]; omega
   have HLr := HL.out.kept HJ.out.1
   obtain ⟨b, o, ha, p1, p2⟩ := HLr n (by omega)
   obtain ⟨b', o', ha', q1, q2⟩ := HLr (n + 1) hlt
   rw [ha] at ha'
   simp only [Option.some.injEq, Addr.mk.injEq, and_true] at ha'
   obtain ⟨hb1, hb2⟩ := ha'
   subst hb1 hb2
   subst ha
   have HC : Hid (wr.cell? ⟨b, o + n * 2, none⟩ = some (.string (L[n]).1) ∧ wr.cell? ⟨b, o + n * 2 + 1, none⟩ = some (.int .i64 (L[n]).2) ∧ wr.cell? ⟨b, o + (n + 1) * 2, none⟩ = some (.string (L[n + 1]).1) ∧ wr.cell? ⟨b, o + (n + 1) * 2 + 1, none⟩ = some (.int .i64 (L[n + 1]).2)) := ⟨p1, p2, q1, q2⟩
   go_upto_region 4 with fail
   go_region_held3 (fun w' => w'.cell? ⟨b, o + n * 2, none⟩ = some (.string (L[n]).1) ∧ w'.cell? ⟨b, o + n * 2 + 1, none⟩ = some (.int .i64 (L[n]).2) ∧ w'.cell? ⟨b, o + (n + 1) * 2, none⟩ = some (.string (L[n + 1]).1) ∧ w'.cell? ⟨b, o + (n + 1) * 2 + 1, none⟩ = some (.int .i64 (L[n + 1]).2)) (first | exact HC.out | exact z4 | go_keep)
    (first
     | (go_at_call 80; refine (by_name _ _ _ _).mono ?_; rintro e w4 ⟨rfl, k4⟩; have z4 := (⟨k4.cell (HC.out.1) (by simp), k4.cell (HC.out.2.1) (by simp), k4.cell (HC.out.2.2.1) (by simp), k4.cell (HC.out.2.2.2) (by simp)⟩ : w4.cell? ⟨b, o + n * 2, none⟩ = some (.string (L[n]).1) ∧ w4.cell? ⟨b, o + n * 2 + 1, none⟩ = some (.int .i64 (L[n]).2) ∧ w4.cell? ⟨b, o + (n + 1) * 2, none⟩ = some (.string (L[n + 1]).1) ∧ w4.cell? ⟨b, o + (n + 1) * 2 + 1, none⟩ = some (.int .i64 (L[n + 1]).2)); have HK : Hid (Kept [] w w4) := (HJ.out.1.drew).trans k4 (by simp); clear k4))
   clear z4 HC
   rcases he : ltE L[n] L[n + 1] with _ | _
   ·
    have HE : Hid (false = adj ltE L) := (adj_no hlt he).symm
    rw [ltE_of, decide_eq_false_iff_not] at he
    have hge : 0 ≤ cmpS (L[n]).1 (L[n + 1]).1 := by omega
    clear he
    go_wp2_with fail
    go_ret
    exact ⟨ret_bool HE.out, HK.out⟩
   ·
    have HE : Hid (Kept [] w w4 ∧ ∀ j (hj : j + 1 < L.length), j < n + 1 → ltE L[j] L[j + 1] = true) := ⟨HK.out, fun j hj hjn => by
     by_cases e : j = n
     · subst e; exact he
     · exact HJ.out.2 j hj (by omega)⟩
    rw [ltE_of, decide_eq_true_eq] at he
    have hge : ¬ 0 ≤ cmpS (L[n]).1 (L[n + 1]).1 := by omega
    clear he HJ HK
    go_wp2_with fail
    go_roundw
    case rel => exact ⟨n + 1, by go_num, by omega, HE.out⟩
    case measure => simp [intOf]; omega
  ·
   have i1 : ¬ (n : Int) + 1 < (L.length : Int) := by omega
   have HE : Hid (true = adj ltE L) := (adj_iff.2 fun j hj => HJ.out.2 j hj (by omega)).symm
   go_wp2_with fail
   go_ret
   exact ⟨ret_bool HE.out, HJ.out.1⟩
theorem row_des {w : World} {a : Option Addr} {L : List Ds} (hL : DesA w a L) (hn : L.length ≤ lim) (c : Nat) :
  Calls Tryz.prog 55 #[.slice a L.length c, .func (.func 56) #[] #[]] w fun e w' => e = .returned (.bool (adj ltD L)) ∧ Kept [] w w' := by
 have HL : Hid (DesA w a L) := hL
 unfold lim at hn
 clear hL
 go_enter Tryz.func55, Tryz.ntmps55
 go_wp2_with fail
 go_loopw [5] (fun i wr => ∃ n : Nat, i = .int .i64 ((n : Int) + 1) ∧ n ≤ L.length ∧ Hid (Kept [] w wr ∧ ∀ j (hj : j + 1 < L.length), j < n → ltD L[j] L[j + 1] = true)) (fun i _ => (L.length + 1 - intOf i).toNat)
 case atStart => exact ⟨0, rfl, by omega, Kept.refl _ _, fun j _ hj => by omega⟩
 case round =>
  obtain ⟨n, rfl, hn, HJ⟩ := hrel
  by_cases hlt : n + 1 < L.length
  ·
   have i0 : (0 : Int) ≤ (n : Int) + 1 := by omega
   have i1 : (n : Int) + 1 < (L.length : Int) := by omega
   have v2 : IntKind.i64.wrap ((n : Int) + 1 - 1) = (n : Int) := by rw [IntKind.wrap_i64]; omega
   have v3 : (n : Int) + 1 - 1 = (n : Int) := by omega
   have v4 : (0 : Int) ≤ (n : Int) := by omega
   have v5 : (n : Int) < (L.length : Int) := by omega
   have v6 : n < L.length := by omega
   have v7 : IntKind.i64.wrap (n : Int) = (n : Int) := by rw [IntKind.wrap_i64]; omega
   have v8 : ((n : Int) + 1).toNat = n + 1 := by omega
   have v9 : IntKind.i64.wrap ((n : Int) + 1) = (n : Int) + 1 := by rw [IntKind.wrap_i64]; omega
   have HLr := HL.out.kept HJ.out.1
   obtain ⟨b, o, ha, p1, p2, p3⟩ := HLr n (by omega)
   obtain ⟨b', o', ha', q1, q2, q3⟩ := HLr (n + 1) hlt
   rw [ha] at ha'
   simp only [Option.some.injEq, Addr.mk.injEq, and_true] at ha'
   obtain ⟨hb1, hb2⟩ := ha'
   subst hb1 hb2
   subst ha
   have HC : Hid (wr.cell? ⟨b, o + n * 3, none⟩ = some (.int .i64 (L[n]).1) ∧ wr.cell? ⟨b, o + n * 3 + 1, none⟩ = some (.int .i64 (L[n]).2.1) ∧ wr.cell? ⟨b, o + n * 3 + 2, none⟩ = some (.int .i64 (L[n]).2.2) ∧ wr.cell? ⟨b, o + (n + 1) * 3, none⟩ = some (.int .i64 (L[n + 1]).1) ∧ wr.cell? ⟨b, o + (n + 1) * 3 + 1, none⟩ = some (.int .i64 (L[n + 1]).2.1) ∧ wr.cell? ⟨b, o + (n + 1) * 3 + 2, none⟩ = some (.int .i64 (L[n + 1]).2.2)) := ⟨p1, p2, p3, q1, q2, q3⟩
   go_upto_region 4 with fail
   go_region_held3 (fun w' => w'.cell? ⟨b, o + n * 3, none⟩ = some (.int .i64 (L[n]).1) ∧ w'.cell? ⟨b, o + n * 3 + 1, none⟩ = some (.int .i64 (L[n]).2.1) ∧ w'.cell? ⟨b, o + n * 3 + 2, none⟩ = some (.int .i64 (L[n]).2.2) ∧ w'.cell? ⟨b, o + (n + 1) * 3, none⟩ = some (.int .i64 (L[n + 1]).1) ∧ w'.cell? ⟨b, o + (n + 1) * 3 + 1, none⟩ = some (.int .i64 (L[n + 1]).2.1) ∧ w'.cell? ⟨b, o + (n + 1) * 3 + 2, none⟩ = some (.int .i64 (L[n + 1]).2.2)) (first | exact HC.out | exact z4 | go_keep)
    (first
     | (go_at_call 56; refine (by_desc (L[n]) (L[n + 1])).mono ?_; rintro e w4 ⟨rfl, k4⟩; have z4 := (⟨k4.cell (HC.out.1) (by simp), k4.cell (HC.out.2.1) (by simp), k4.cell (HC.out.2.2.1) (by simp), k4.cell (HC.out.2.2.2.1) (by simp), k4.cell (HC.out.2.2.2.2.1) (by simp), k4.cell (HC.out.2.2.2.2.2) (by simp)⟩ : w4.cell? ⟨b, o + n * 3, none⟩ = some (.int .i64 (L[n]).1) ∧ w4.cell? ⟨b, o + n * 3 + 1, none⟩ = some (.int .i64 (L[n]).2.1) ∧ w4.cell? ⟨b, o + n * 3 + 2, none⟩ = some (.int .i64 (L[n]).2.2) ∧ w4.cell? ⟨b, o + (n + 1) * 3, none⟩ = some (.int .i64 (L[n + 1]).1) ∧ w4.cell? ⟨b, o + (n + 1) * 3 + 1, none⟩ = some (.int .i64 (L[n + 1]).2.1) ∧ w4.cell? ⟨b, o + (n + 1) * 3 + 2, none⟩ = some (.int .i64 (L[n + 1]).2.2)); have HK : Hid (Kept [] w w4) := (HJ.out.1.drew).trans k4 (by simp); clear k4))
   clear z4 HC
   rcases he : ltD L[n] L[n + 1] with _ | _
   ·
    have HE : Hid (false = adj ltD L) := (adj_no hlt he).symm
    rw [ltD_of, decide_eq_false_iff_not] at he
    have hge : 0 ≤ cmpD (L[n]) (L[n + 1]) := by omega
    clear he
    go_wp2_with fail
    go_ret
    exact ⟨ret_bool HE.out, HK.out⟩
   ·
    have HE : Hid (Kept [] w w4 ∧ ∀ j (hj : j + 1 < L.length), j < n + 1 → ltD L[j] L[j + 1] = true) := ⟨HK.out, fun j hj hjn => by
     by_cases e : j = n
     · subst e; exact he
     · exact HJ.out.2 j hj (by omega)⟩
    rw [ltD_of, decide_eq_true_eq] at he
    have hge : ¬ 0 ≤ cmpD (L[n]) (L[n + 1]) := by omega
    clear he HJ HK
    go_wp2_with fail
    go_roundw
    case rel => exact ⟨n + 1, by go_num, by omega, HE.out⟩
    case measure => simp [intOf]; omega
  ·
   have i1 : ¬ (n : Int) + 1 < (L.length : Int) := by omega
   have HE : Hid (true = adj ltD L) := (adj_iff.2 fun j hj => HJ.out.2 j hj (by omega)).symm
   go_wp2_with fail
   go_ret
   exact ⟨ret_bool HE.out, HJ.out.1⟩
theorem row_ino {w : World} {a : Option Addr} {L : List Ino} (hL : InoA w a L) (hn : L.length ≤ lim) (c : Nat) :
  Calls Tryz.prog 50 #[.slice a L.length c, .func (.func 51) #[] #[]] w fun e w' => e = .returned (.bool (adj ltI L)) ∧ Kept [] w w' := by
 have HL : Hid (InoA w a L) := hL
 unfold lim at hn
 clear hL
 go_enter Tryz.func50, Tryz.ntmps50
 go_wp2_with fail
 go_loopw [5] (fun i wr => ∃ n : Nat, i = .int .i64 ((n : Int) + 1) ∧ n ≤ L.length ∧ Hid (Kept [] w wr ∧ ∀ j (hj : j + 1 < L.length), j < n → ltI L[j] L[j + 1] = true)) (fun i _ => (L.length + 1 - intOf i).toNat)
 case atStart => exact ⟨0, rfl, by omega, Kept.refl _ _, fun j _ hj => by omega⟩
 case round =>
  obtain ⟨n, rfl, hn, HJ⟩ := hrel
  by_cases hlt : n + 1 < L.length
  ·
   have i0 : (0 : Int) ≤ (n : Int) + 1 := by omega
   have i1 : (n : Int) + 1 < (L.length : Int) := by omega
   have v2 : IntKind.i64.wrap ((n : Int) + 1 - 1) = (n : Int) := by rw [IntKind.wrap_i64]; omega
   have v3 : (n : Int) + 1 - 1 = (n : Int) := by omega
   have v4 : (0 : Int) ≤ (n : Int) := by omega
   have v5 : (n : Int) < (L.length : Int) := by omega
   have v6 : n < L.length := by omega
   have v7 : IntKind.i64.wrap (n : Int) = (n : Int) := by rw [IntKind.wrap_i64]; omega
   have v8 : ((n : Int) + 1).toNat = n + 1 := by omega
   have v9 : IntKind.i64.wrap ((n : Int) + 1) = (n : Int) + 1 := by rw [IntKind.wrap_i64]; omega
   have HLr := HL.out.kept HJ.out.1
   obtain ⟨b, o, ae, ce, ha, p1, p2, p3, p4, -⟩ := HLr n (by omega)
   obtain ⟨b', o', ae', ce', ha', q1, q2, q3, q4, -⟩ := HLr (n + 1) hlt
   rw [ha] at ha'
   simp only [Option.some.injEq, Addr.mk.injEq, and_true] at ha'
   obtain ⟨hb1, hb2⟩ := ha'
   subst hb1 hb2
   subst ha
   have HC : Hid (wr.cell? ⟨b, o + n * 4, none⟩ = some (.int .i64 (L[n]).num) ∧ wr.cell? ⟨b, o + n * 4 + 1, none⟩ = some (.bool (L[n]).dir) ∧ wr.cell? ⟨b, o + n * 4 + 2, none⟩ = some (.slice ae (L[n]).ents.length ce) ∧ wr.cell? ⟨b, o + n * 4 + 3, none⟩ = some (.string (L[n]).data) ∧ wr.cell? ⟨b, o + (n + 1) * 4, none⟩ = some (.int .i64 (L[n + 1]).num) ∧ wr.cell? ⟨b, o + (n + 1) * 4 + 1, none⟩ = some (.bool (L[n + 1]).dir) ∧ wr.cell? ⟨b, o + (n + 1) * 4 + 2, none⟩ = some (.slice ae' (L[n + 1]).ents.length ce') ∧ wr.cell? ⟨b, o + (n + 1) * 4 + 3, none⟩ = some (.string (L[n + 1]).data)) := ⟨p1, p2, p3, p4, q1, q2, q3, q4⟩
   go_upto_region 4 with fail
   go_region_held3 (fun w' => w'.cell? ⟨b, o + n * 4, none⟩ = some (.int .i64 (L[n]).num) ∧ w'.cell? ⟨b, o + n * 4 + 1, none⟩ = some (.bool (L[n]).dir) ∧ w'.cell? ⟨b, o + n * 4 + 2, none⟩ = some (.slice ae (L[n]).ents.length ce) ∧ w'.cell? ⟨b, o + n * 4 + 3, none⟩ = some (.string (L[n]).data) ∧ w'.cell? ⟨b, o + (n + 1) * 4, none⟩ = some (.int .i64 (L[n + 1]).num) ∧ w'.cell? ⟨b, o + (n + 1) * 4 + 1, none⟩ = some (.bool (L[n + 1]).dir) ∧ w'.cell? ⟨b, o + (n + 1) * 4 + 2, none⟩ = some (.slice ae' (L[n + 1]).ents.length ce') ∧ w'.cell? ⟨b, o + (n + 1) * 4 + 3, none⟩ = some (.string (L[n + 1]).data)) (first | exact HC.out | exact z4 | go_keep)
    (first
     | (go_at_call 51; refine (by_num _ _ _ _ _ _ _ _ ⟨_, _, _, rfl⟩ ⟨_, _, _, rfl⟩).mono ?_; rintro e w4 ⟨rfl, k4⟩; have z4 := (⟨k4.cell (HC.out.1) (by simp), k4.cell (HC.out.2.1) (by simp), k4.cell (HC.out.2.2.1) (by simp), k4.cell (HC.out.2.2.2.1) (by simp), k4.cell (HC.out.2.2.2.2.1) (by simp), k4.cell (HC.out.2.2.2.2.2.1) (by simp), k4.cell (HC.out.2.2.2.2.2.2.1) (by simp), k4.cell (HC.out.2.2.2.2.2.2.2) (by simp)⟩ : w4.cell? ⟨b, o + n * 4, none⟩ = some (.int .i64 (L[n]).num) ∧ w4.cell? ⟨b, o + n * 4 + 1, none⟩ = some (.bool (L[n]).dir) ∧ w4.cell? ⟨b, o + n * 4 + 2, none⟩ = some (.slice ae (L[n]).ents.length ce) ∧ w4.cell? ⟨b, o + n * 4 + 3, none⟩ = some (.string (L[n]).data) ∧ w4.cell? ⟨b, o + (n + 1) * 4, none⟩ = some (.int .i64 (L[n + 1]).num) ∧ w4.cell? ⟨b, o + (n + 1) * 4 + 1, none⟩ = some (.bool (L[n + 1]).dir) ∧ w4.cell? ⟨b, o + (n + 1) * 4 + 2, none⟩ = some (.slice ae' (L[n + 1]).ents.length ce') ∧ w4.cell? ⟨b, o + (n + 1) * 4 + 3, none⟩ = some (.string (L[n + 1]).data)); have HK : Hid (Kept [] w w4) := (HJ.out.1.drew).trans k4 (by simp); clear k4))
   clear z4 HC
   rcases he : ltI L[n] L[n + 1] with _ | _
   ·
    have HE : Hid (false = adj ltI L) := (adj_no hlt he).symm
    rw [ltI_of, decide_eq_false_iff_not] at he
    have hge : 0 ≤ cmpI (L[n]).num (L[n + 1]).num := by omega
    clear he
    go_wp2_with fail
    go_ret
    exact ⟨ret_bool HE.out, HK.out⟩
   ·
    have HE : Hid (Kept [] w w4 ∧ ∀ j (hj : j + 1 < L.length), j < n + 1 → ltI L[j] L[j + 1] = true) := ⟨HK.out, fun j hj hjn => by
     by_cases e : j = n
     · subst e; exact he
     · exact HJ.out.2 j hj (by omega)⟩
    rw [ltI_of, decide_eq_true_eq] at he
    have hge : ¬ 0 ≤ cmpI (L[n]).num (L[n + 1]).num := by omega
    clear he HJ HK
    go_wp2_with fail
    go_roundw
    case rel => exact ⟨n + 1, by go_num, by omega, HE.out⟩
    case measure => simp [intOf]; omega
  ·
   have i1 : ¬ (n : Int) + 1 < (L.length : Int) := by omega
   have HE : Hid (true = adj ltI L) := (adj_iff.2 fun j hj => HJ.out.2 j hj (by omega)).symm
   go_wp2_with fail
   go_ret
   exact ⟨ret_bool HE.out, HJ.out.1⟩
theorem n_hash (s : ByteArray) (w : World) :
  Calls Tryz.prog 120 #[.string s] w fun e w' => e = .returned (.int .i64 (hashL (rs s 0) 7)) ∧ Kept [] w w' := by
 go_enter Tryz.func120, Tryz.ntmps120
 go_wp2_with fail
 go_loopw [3] (fun h wr => ∃ (z : Int) (j : Nat), h = .int .u32 z ∧ Hid (It w wr s j) ∧ 0 ≤ z ∧ z < 4294967296 ∧ j ≤ s.size ∧ Hid (hashL (rs s j) z = hashL (rs s 0) 7)) (fun _ wr => s.size - wr.iterPos w.heap.size)
 case atStart => exact ⟨7, 0, rfl, It.begin w s, by omega, by omega, by omega, rfl⟩
 case round =>
  obtain ⟨z, j, rfl, HI, hz, hz2, hj, HH⟩ := hrel
  by_cases hlt : j < s.size
  ·
   have hnx := next_at HI.out.here hlt
   have hw := one_width s j hlt
   have hst := step_le hlt
   have hsp := step_pos s j
   have hn := rs_next hlt
   have HN : Hid (hashL (rs s (j + max (one s j).2 1)) ((31 * z + (one s j).1) % 4294967296) = hashL (rs s 0) 7) := by
    have := HH.out
    rw [hn] at this
    exact this
   obtain ⟨W1, hW1⟩ : ∃ W1, iterTo wr w.heap.size s (j + max (one s j).2 1) = W1 := ⟨_, rfl⟩
   have hI1 : It w W1 s (j + max (one s j).2 1) := by rw [← hW1]; exact HI.out.next _
   rw [hW1] at hnx
   have HJ : Hid (It w W1 s (j + max (one s j).2 1) ∧ wr.iterPos w.heap.size = j) := ⟨hI1, HI.out.pos⟩
   clear hI1 hW1 HI HH hn
   obtain ⟨hw1, hw2, hw3, hw4, hw5⟩ := hw
   clear hw5 hw2
   generalize (one s j).1 = r at *
   generalize max (one s j).2 1 = m at *
   go_wp2_with fail
   go_roundw
   case rel => exact ⟨(31 * z + r) % 4294967296, j + m, by go_num, HJ.out.1, by omega, by omega, hst, HN.out⟩
   case measure =>
    have m1 := HJ.out.1.pos
    have m2 := HJ.out.2
    simp only [m1, m2]
    omega
  ·
   have hnx := next_none HI.out.here hlt
   have HE : Hid (z = hashL (rs s 0) 7) := by
    have := HH.out
    rw [rs_end hlt] at this
    exact this
   clear HH
   go_wp2_with fail
   go_ret
   exact ⟨ret_int HE.out, HI.out.kept⟩
theorem n_bucket (s : ByteArray) (w : World) :
  Calls Tryz.prog 77 #[.string s] w fun e w' => e = .returned (.int .i64 (hashL (rs s 0) 7 % 8)) ∧ Kept [] w w' := by
 have hr := hashL_range (rs s 0) 7 (by omega)
 have HC : Hid (_) := n_hash s w
 obtain ⟨z, hz⟩ : ∃ z, hashL (rs s 0) 7 = z := ⟨_, rfl⟩
 rw [hz] at hr HC ⊢
 obtain ⟨h1, h2⟩ := hr
 clear hz
 go_enter Tryz.func77, Tryz.ntmps77
 go_wp2_with fail
 refine Calls.mono HC.out ?_
 rintro e w1 ⟨rfl, hk⟩
 have HK : Hid (_) := hk
 clear hk
 go_wp2_with fail
 go_ret
 exact ⟨rfl, HK.out⟩
def rowF (n : Nat) (F : Nat → Value) : Array Value := ((List.range n).map F).toArray
def updV (F : Nat → Value) (i : Nat) (v : Value) : Nat → Value := fun j => if j = i then v else F j
theorem rowF_get {n : Nat} (F : Nat → Value) {i : Nat} (h : i < n) : (rowF n F)[i]? = some (F i) := by
 simp [rowF, h]
theorem rowF_set {n : Nat} (F : Nat → Value) {i : Nat} (v : Value) : (rowF n F).setIfInBounds i v = rowF n (updV F i v) := by
 apply Array.ext'
 apply List.ext_getElem?
 intro j
 unfold rowF updV
 simp only [List.setIfInBounds_toArray, List.getElem?_set, List.length_map, List.length_range, List.getElem?_map]
 by_cases hj : j < n
 ·
  simp only [List.getElem?_range, hj]
  by_cases e : i = j
  · subst e; simp [hj]
  · simp [e, Ne.symm e]
 ·
  by_cases e : i = j
  · subst e; simp [hj]
  · simp [e, hj]
theorem rowF_zeros (n : Nat) : i64s (List.replicate n 0) = rowF n (fun _ => .int .i64 0) := by
 apply Array.ext'
 unfold i64s rowF
 simp [List.map_const']
theorem block_set {w : World} {g : Nat} {cs : Array Value} {t : TypeId} (h : w.heap[g]? = some (.cells cs t (0, 0))) (i : Nat) (v : Value) : (w.setCell ⟨g, i, none⟩ v).heap[g]? = some (.cells (cs.setIfInBounds i v) t (0, 0)) := heap_setCell_same _ _ _ _ _ _ h
theorem block_other {w : World} {g k i : Nat} {v : Value} (h : k ≠ g) : (w.setCell ⟨g, i, none⟩ v).heap[k]? = w.heap[k]? := Below.heap_setCell _ _ _ _ h
end Go.Proofs.YtffncojcnbhblaaGreatDoor
