/-
  Joined of my texts Cs Fb St Ln.
-/
import Derived.Test.YtffncojcnbhblaaGreatDoorJc21
import Derived.Test.YtffncojcnbhblaaGreatDoorJc20
set_option linter.unusedVariables false
set_option linter.unusedSimpArgs false
set_option maxRecDepth 100000
set_option maxHeartbeats 8000000
namespace Go.Proofs.YtffncojcnbhblaaGreatDoor
open Go.RowKit
@[reducible] def shutS (S : Sta) (j : Nat) : Sta := ⟨S.ino, S.opn.eraseIdx j, S.made⟩
def freeN (D : List Ds) (c : Int) : Nat → List Int
 | 0 => []
 | n + 1 => if (fdP D c (n : Int)).isNone then freeN D c n ++ [(n : Int)] else freeN D c n
def freeR (D : List Ds) (c : Int) : List Int := freeN D c 4
theorem freeN_le (D : List Ds) (c : Int) : ∀ n, (freeN D c n).length ≤ n
 | 0 => Nat.le_refl _
 | n + 1 => by
  have := freeN_le D c n
  unfold freeN
  split
  · simp only [List.length_append, List.length_cons, List.length_nil]; omega
  · omega
theorem p_free {w : World} {B : Nat} {c : Cal} {pk : Value} {p : Pl} {S : Sta} (h : Rd w B c pk p S) :
  Calls Tryz.prog 135 #[.pointer (some ⟨B, 0, none⟩)] w fun e w' => ∃ v, e = .returned v ∧ Own w' w.heap.size v (freeR S.opn c.core) ∧ Kept [] w w' := by
 have HR : Hid (_) := h
 clear h
 go_enter Tryz.func135, Tryz.ntmps135
 go_wp2_with fail
 go_loopw [3, 5] (fun u i wr => ∃ n : Nat, i = .int .i64 (n : Int) ∧ n ≤ 4 ∧ ∃ a m k, u = .slice a m k ∧ Hid (Kept [] w wr ∧ Own wr w.heap.size (.slice a m k) (freeN S.opn c.core n))) (fun _ i _ => (4 - intOf i).toNat)
 case atStart => exact ⟨0, rfl, by omega, _, _, _, rfl, Kept.refl _ _, Own.nil _ _⟩
 case round =>
  obtain ⟨n, rfl, hn, a, m, k, rfl, HJ⟩ := hrel
  by_cases hlt : n < 4
  ·
   have i0 : (0 : Int) ≤ (n : Int) := by omega
   have i1 : (n : Int) < 4 := by omega
   have HR1 : Hid (_) := HR.out.kept HJ.out.1
   go_wp2_with fail
   refine (p_fd HR1.out (n : Int)).mono ?_
   rintro e w1 ⟨rfl, k1⟩
   have HK1 : Hid (Kept [] w w1) := HJ.out.1.trans k1 (by simp)
   have HO1 : Hid (Own w1 w.heap.size (.slice a m k) (freeN S.opn c.core n)) := HJ.out.2.kept k1
   clear k1 HJ HR1
   rcases hf : fdP S.opn c.core (n : Int) with _ | j
   ·
    have HN : Hid (freeN S.opn c.core (n + 1) = freeN S.opn c.core n ++ [(n : Int)]) := by show _ = _; rw [freeN, hf]; rfl
    have hle := freeN_le S.opn c.core n
    obtain ⟨v', w', hr, hk6, ho6⟩ := own_append HK1.out HO1.out (n : Int) (by omega) 25
    have HAp : Hid (_) := hr
    have HO6 : Hid (Kept [] w w' ∧ Own w' w.heap.size v' (freeN S.opn c.core (n + 1))) := ⟨hk6, by rw [HN.out]; exact ho6⟩
    obtain ⟨a2, m2, k2, hv2⟩ : ∃ a m k, v' = .slice a m k := by
     rcases ho6.form with ⟨e, -⟩ | ⟨g, cap, cur, e, -⟩
     · exact ⟨_, _, _, e⟩
     · exact ⟨_, _, _, e⟩
    subst hv2
    clear hr hk6 ho6 hf hle HN HK1 HO1
    unfold ixI
    go_wp2_with (first
     | (at_builtin; refine wpList_append_run _ rfl _ _ 25 25 rfl _ _ rfl rfl _ _ HAp.out ?_))
    go_roundw
    case rel => exact ⟨n + 1, by go_num, by omega, _, _, _, rfl, HO6.out⟩
    case measure => simp [intOf]; omega
   ·
    have HN : Hid (freeN S.opn c.core (n + 1) = freeN S.opn c.core n) := by show _ = _; rw [freeN, hf]; rfl
    have HO6 : Hid (Kept [] w w1 ∧ Own w1 w.heap.size (.slice a m k) (freeN S.opn c.core (n + 1))) := ⟨HK1.out, by rw [HN.out]; exact HO1.out⟩
    have j0 : ¬ (j : Int) < 0 := by omega
    clear hf HN HK1 HO1
    unfold ixI
    go_wp2_with fail
    go_roundw
    case rel => exact ⟨n + 1, by go_num, by omega, _, _, _, rfl, HO6.out⟩
    case measure => simp [intOf]; omega
  ·
   have i1 : ¬ (n : Int) < 4 := by omega
   have h4 : n = 4 := by omega
   subst h4
   go_wp2_with fail
   go_ret
   exact ⟨_, rfl, HJ.out.2, HJ.out.1⟩
theorem p_open_bad {w0 w : World} {B : Nat} {c : Cal} {pk v1 v2 v3 : Value} {ev : List Value} {S : Sta} (h : Cb w0 w B c pk v1 v2 v3 ev S) {num code : Int} (hf : findR S.ino c.path = (num, code)) (hc : code ≠ 0) :
  Calls Tryz.prog 104 #[.pointer (some ⟨B, 0, none⟩)] w (Out w0 w B c pk v1 v2 v3 ev S (.error code)) := by
 obtain ⟨W1, R, HWR, HKR, HRb, HC1, HRo, HRw, HRl, p, e1, e2, e3, hrd, f1, f3, HR, HV⟩ := prg h
 have HBd : Hid (Bd S) := h.bd
 have HF : Hid (_) := hf
 have HE : Hid (_) := hc
 have d5 := hrd.c5
 clear h e1 e2 e3 f1 f3 hrd hf hc
 go_enter Tryz.func104, Tryz.ntmps104
 go_upto_region 1 with fail
 rw [HWR.out.1, HWR.out.2]
 clear HWR
 go_wp2_with fail
 refine (found_bad HR.out c.path HF.out HE.out).mono ?_
 rintro e w1 ⟨rfl, k1⟩
 exact ⟨rfl, Out.err rfl (HC1.out.kept k1) (FrB.kept (HKR.out.trans k1 (by simp)))⟩
theorem Cb.numAt {w0 w : World} {B : Nat} {c : Cal} {pk v1 v2 v3 : Value} {ev : List Value} {S : Sta} (h : Cb w0 w B c pk v1 v2 v3 ev S) {g c1 : Nat} (hv1 : v1 = .slice (some ⟨g, 0, none⟩) S.ino.length c1) {j : Nat} (hj : j < S.ino.length) : w.cell? ⟨g, j * 4, none⟩ = some (.int .i64 (S.ino[j]).num) := by
 have h2 := h.os.ino
 have hv : j < ev.length := by rw [h.os.evl]; exact hj
 rw [hv1] at h2
 rw [h2.cellAt (j * 4) (by omega), (inoC_get hj hv).1]
end Go.Proofs.YtffncojcnbhblaaGreatDoor
