/-
  Joined of my texts Op.
-/
import Derived.Test.YtffncojcnbhblaaGreatDoorJd23
import Derived.Test.YtffncojcnbhblaaGreatDoorTk
set_option linter.unusedVariables false
set_option linter.unusedSimpArgs false
set_option maxRecDepth 100000
set_option maxHeartbeats 8000000
namespace Go.Proofs.YtffncojcnbhblaaGreatDoor
open List renaming setIfInBounds_toArray → lz0, set_cons_zero → lz1, set_cons_succ → lz2, getElem_toArray → lz3, getElem_cons_zero → lz4, getElem_cons_succ → lz5
open Go.RowKit
def headI (xs : List Int) : Int := wordAt xs 0
theorem p_least {w : World} {H : Nat} {v : Value} {xs : List Int} (h : Own w H v xs) (hx : 0 < xs.length) :
  Calls Tryz.prog 22 #[v] w fun e w' => e = .returned (.int .i64 (headI xs)) ∧ Kept [] w w' := by
 rcases h.form with ⟨-, e⟩ | ⟨g, cap, cur, hv, -⟩
 · rw [e] at hx; simp at hx
 subst hv
 have hc := h.lies.2.2.2 0 hx
 have i1 : (0 : Int) < (xs.length : Int) := by omega
 clear h
 go_enter Tryz.func22, Tryz.ntmps22
 go_wp2_with fail
 go_ret
 exact ⟨rfl, Kept.refl _ _⟩
def ixW (xs : List Int) (z : Int) : Option Nat := xs.findIdx? (fun x => x == z)
theorem ix_int {w : World} {g cap : Nat} {xs : List Int} (hc : ∀ i, i < xs.length → w.cell? ⟨g, i, none⟩ = some (.int .i64 (wordAt xs i))) (hn : xs.length ≤ 9223372036854775807) (z : Int) :
  Calls Tryz.prog 40 #[.slice (some ⟨g, 0, none⟩) xs.length cap, .int .i64 z] w fun e w' => e = .returned (.int .i64 (ixI (ixW xs z))) ∧ Kept [] w w' := by
 have HC : Hid (_) := hc
 clear hc
 have wA : ∀ n (hn : n < xs.length), wordAt xs n = xs[n] := fun n hn => by unfold wordAt; rw [List.getD_eq_getElem?_getD, List.getElem?_eq_getElem hn]; rfl
 have HW : Hid (_) := wA
 clear wA
 go_enter Tryz.func40, Tryz.ntmps40
 go_wp2_with fail
 go_loopw [8] (fun i wr => ∃ n : Nat, i = .int .i64 (n : Int) ∧ n ≤ xs.length ∧ Hid (wr = w ∧ ∀ j (hj : j < xs.length), j < n → (xs[j] == z) = false)) (fun i _ => (xs.length - intOf i).toNat)
 case atStart => exact ⟨0, rfl, by omega, rfl, fun j _ hj => by omega⟩
 case round =>
  obtain ⟨n, rfl, hn, HJ⟩ := hrel
  have hwr := HJ.out.1
  by_cases hlt : n < xs.length
  ·
   have i0 : (0 : Int) ≤ (n : Int) := by omega
   have i1 : (n : Int) < (xs.length : Int) := by omega
   have c0 := HC.out n hlt
   rw [HW.out n hlt, ← hwr] at c0
   obtain ⟨x, hx⟩ : ∃ x, xs[n] = x := ⟨_, rfl⟩
   rw [hx] at c0
   have HX : Hid (_) := hx
   have HWr : Hid (_) := hwr
   clear hx hwr
   rcases he : (x == z) with _ | _
   ·
    have he2 : ¬ z = x := fun e => by rw [e] at he; simp at he
    have he3 : (z == x) = false := by simpa using he2
    have HE : Hid (∀ j (hj : j < xs.length), j < n + 1 → (xs[j] == z) = false) := fun j hj hjn => by
     by_cases e : j = n
     · subst e; rw [HX.out]; exact he
     · exact HJ.out.2 j hj (by omega)
    clear HJ he
    go_wp2_with fail
    go_roundw
    case rel => exact ⟨n + 1, by go_num, by omega, HWr.out, HE.out⟩
    case measure => simp [intOf]; omega
   ·
    have he2 : z = x := by have := he; simp at this; exact this.symm
    have HE : Hid (ixW xs z = some n) := idx_some hlt (by rw [HX.out]; exact he) HJ.out.2
    subst he2
    clear HJ he
    go_wp2_with fail
    go_ret
    exact ⟨ret_int (by rw [HE.out]; rfl), by rw [HWr.out]; exact Kept.refl _ _⟩
  ·
   have i1 : ¬ (n : Int) < (xs.length : Int) := by omega
   have HE : Hid (ixW xs z = none) := idx_none fun j hj => HJ.out.2 j hj (by omega)
   have HWr : Hid (_) := hwr
   clear HJ hwr
   go_wp2_with fail
   go_ret
   exact ⟨ret_int (by rw [HE.out]; rfl), by rw [HWr.out]; exact Kept.refl _ _⟩
theorem has_int {w : World} {g cap : Nat} {xs : List Int} (hc : ∀ i, i < xs.length → w.cell? ⟨g, i, none⟩ = some (.int .i64 (wordAt xs i))) (hn : xs.length ≤ 9223372036854775807) (z : Int) :
  Calls Tryz.prog 26 #[.slice (some ⟨g, 0, none⟩) xs.length cap, .int .i64 z] w fun e w' => e = .returned (.bool (ixW xs z).isSome) ∧ Kept [] w w' := by
 have HC : Hid (_) := hc
 clear hc
 go_enter Tryz.func26, Tryz.ntmps26
 go_wp2_with fail
 refine (ix_int HC.out hn z).mono ?_
 rintro e w1 ⟨rfl, k1⟩
 have HK : Hid (_) := k1
 clear k1
 rcases hr : ixW xs z with _ | i
 ·
  have HH : Hid (_) := hr
  clear hr
  unfold ixI
  go_wp2_with fail
  go_ret
  exact ⟨ret_bool (by rw [HH.out]; rfl), HK.out⟩
 ·
  have i2 : (0 : Int) ≤ (i : Int) := by omega
  have i3 : decide ((i : Int) ≥ 0) = true := decide_eq_true i2
  have HH : Hid (_) := hr
  clear hr
  unfold ixI
  go_wp2_with fail
  go_ret
  exact ⟨ret_bool (by rw [HH.out]; rfl), HK.out⟩
def toldI (xs : List Int) (z : Int) : Int := if (ixW xs z).isSome then z else headI xs
theorem p_told {w : World} {H : Nat} {v : Value} {xs : List Int} (h : Own w H v xs) (hx : 0 < xs.length) (hn : xs.length ≤ 9223372036854775807) {X : Nat} {z : Int} (hX : w.cell? ⟨X, 1, none⟩ = some (.int .i64 z)) :
  Calls Tryz.prog 25 #[v, .pointer (some ⟨X, 0, none⟩)] w fun e w' => e = .returned (.int .i64 (toldI xs z)) ∧ Kept [] w w' := by
 rcases h.form with ⟨-, e⟩ | ⟨g, cap, cur, hv, -⟩
 · rw [e] at hx; simp at hx
 subst hv
 have HC : Hid (_) := h.lies.2.2.2
 have HX : Hid (_) := hX
 have i1 : (0 : Int) < (xs.length : Int) := by omega
 clear h
 go_enter Tryz.func25, Tryz.ntmps25
 go_wp2_with fail
 refine (has_int HC.out hn z).mono ?_
 rintro e w1 ⟨rfl, k1⟩
 have HK : Hid (Kept [] w w1) := k1
 have c1 := k1.cell HX.out (by simp)
 have c2 : w1.cell? ⟨g, 0, none⟩ = some (.int .i64 (wordAt xs 0)) := k1.cell (HC.out 0 hx) (by simp)
 clear k1 hX
 rcases hr : (ixW xs z).isSome with _ | _
 ·
  have HE : Hid (toldI xs z = wordAt xs 0) := by show _ = _; unfold toldI headI; rw [hr]; rfl
  clear hr
  go_wp2_with fail
  go_ret
  exact ⟨ret_int HE.out.symm, HK.out⟩
 ·
  have HE : Hid (toldI xs z = z) := by show _ = _; unfold toldI; rw [hr]; rfl
  clear hr
  go_wp2_with fail
  go_ret
  exact ⟨ret_int HE.out.symm, HK.out⟩
theorem Cb.opn {w0 w w' : World} {B : Nat} {c : Cal} {pk v1 v2 v3 : Value} {ev : List Value} {S : Sta} (h : Cb w0 w B c pk v1 v2 v3 ev S) {v2' : Value} {D : List Ds} (r : w'.ownsRow w0.heap.size 83 3 v2' D.length (desC D)) (kk : Kept v2.ownBlock.toList w w') (hb : ∀ b, v2'.ownBlock = some b → v2.ownBlock = some b ∨ w.heap.size ≤ b) (hl : D.length ≤ 5864062014634) :
  Cb w0 (w'.setCell ⟨B, 9, none⟩ v2') B c pk v1 v2' v3 ev ⟨S.ino, D, S.made⟩ ∧ FrB B w (w'.setCell ⟨B, 9, none⟩ v2') v1 v2 v3 ev v1 v2' v3 ev := by
 have hB := h.off B (by simp)
 have hBl := lt_of_heap h.box
 have hBk : B ∉ v2.ownBlock.toList := fun hm => by
  rw [Option.mem_toList] at hm
  exact hB.2.1 hm
 have no : ∀ {u : Value}, Ap u v2 → ∀ y ∈ v2.ownBlock.toList, u.ownBlock ≠ some y := fun hu y hy e => by
  rw [Option.mem_toList] at hy
  exact hu y e hy
 have newAp : ∀ {u : Value}, Ap u v2 → (∀ b, u.ownBlock = some b → b < w.heap.size) → Ap u v2' := fun hu hl b hb1 hb2 => by
  rcases hb b hb2 with h1 | h1
  · exact hu b hb1 h1
  · have := hl b hb1; omega
 have hos : Os w' w0.heap.size v1 v2' v3 ev ⟨S.ino, D, S.made⟩ := by
  refine ⟨row_keep h.os.ino kk (no h.os.a12), h.os.evl, fun i hi hv => row_keep (h.os.ent i hi hv) kk (no (h.os.ae _ (List.getElem_mem hv)).2.1.symm), r, row_keep h.os.mad kk (no h.os.a23.symm), newAp h.os.a12 (fun b hb => (h.os.ino.lt b hb).2), h.os.a13, (newAp h.os.a23.symm (fun b hb => (h.os.mad.lt b hb).2)).symm, fun v hv => ?_, h.os.aee⟩
  obtain ⟨x1, x2, x3⟩ := h.os.ae v hv
  obtain ⟨j, hj, rfl⟩ := List.getElem_of_mem hv
  exact ⟨x1, (newAp x2.symm (fun b hb => ((h.os.ent j (by rw [← h.os.evl]; exact hj) hj).lt b hb).2)).symm, x3⟩
 have offs : ∀ Z, Z < w.heap.size → Off [Z] v1 v2 v3 ev → Off [Z] v1 v2' v3 ev := fun Z hZ ho => by
  have hz := ho Z (by simp)
  exact off_of ⟨hz.1, fun e => by
   rcases hb Z e with h1 | h1
   · exact hz.2.1 h1
   · omega, hz.2.2.1, hz.2.2.2⟩
 have hbx : w'.heap[B]? = _ := (kk.block B hBl hBk).trans h.box
 refine ⟨⟨(h.k.trans kk (fun x hx => by rw [Option.mem_toList] at hx; exact Or.inr (h.os.opn.lt x hx).1)).setCell (Or.inr h.lo) _, ?_, hos.keep kept_set (offs B hBl h.off), offs B hBl h.off, h.lo, h.tab, ⟨h.bd.n1, hl, h.bd.n3, h.bd.n4, h.bd.w1, h.bd.d1, h.bd.e1⟩⟩, ?_⟩
 ·
  rw [block_set hbx]
  rfl
 ·
  refine ⟨Nat.le_trans kk.size (kept_set (w := w') (B := B) (i := 9)).size, fun Z hZ hBZ ho => ⟨?_, offs Z hZ ho⟩⟩
  have hz := ho Z (by simp)
  rw [block_other hBZ, kk.block Z hZ (fun hm => by rw [Option.mem_toList] at hm; exact hz.2.1 hm)]
theorem p_open_dir {w0 w : World} {B : Nat} {c : Cal} {pk v1 v2 v3 : Value} {ev : List Value} {S : Sta} (h : Cb w0 w B c pk v1 v2 v3 ev S) {num : Int} {f : Nat} (hf : findR S.ino c.path = (num, 0)) (hat0 : atR S.ino num = some f) (hf0 : f < S.ino.length) (hd : (S.ino[f]).dir = true) :
  Calls Tryz.prog 104 #[.pointer (some ⟨B, 0, none⟩)] w (Out w0 w B c pk v1 v2 v3 ev S (.error 8)) := by
 obtain ⟨W1, R, HWR, HKR, HRb, HC1, HRo, HRw, HRl, p, e1, e2, e3, hrd, f1, f3, HR, HV⟩ := prg h
 have HBd : Hid (Bd S) := h.bd
 have HF : Hid (findR S.ino c.path = (num, 0) ∧ atR S.ino num = some f) := ⟨hf, hat0⟩
 obtain ⟨b1, o1, ae, ce, ha, -⟩ := hrd.sv.ino f hf0
 have ho1 : o1 = 0 := by
  obtain ⟨g, hg⟩ := f1 _ ha
  simp only [Addr.mk.injEq, and_true] at hg
  exact hg.2
 subst ho1
 have HA : Hid (p.a1 = some ⟨b1, 0, none⟩) := ha
 have d5 := hrd.c5
 have HDt : Hid (_) := hd
 clear h e1 e2 e3 f1 f3 hrd hf hat0 ha hd
 go_enter Tryz.func104, Tryz.ntmps104
 go_upto_region 1 with fail
 rw [HWR.out.1, HWR.out.2]
 clear HWR
 go_wp2_with fail
 refine (found_ok HR.out c.path HF.out.1 HF.out.2 HA.out).mono ?_
 rintro e w1 ⟨rfl, k1⟩
 rw [Nat.zero_add]
 have HK1 : Hid (Kept [] w w1) := HKR.out.trans k1 (by simp)
 have HC2 : Hid (_) := HC1.out.kept k1
 have HR2 : Hid (_) := HR.out.kept k1
 have HB1 : Hid (w1.heap[R]? = _) := (k1.block _ (lt_of_heap HRb.out) (by simp)).trans HRb.out
 obtain ⟨b2, o2, ae2, ce2, ha2, q0, q1, q2, q3, q4, q5, q6⟩ := HR2.out.sv.ino f hf0
 rw [HA.out] at ha2
 simp only [Option.some.injEq, Addr.mk.injEq, and_true] at ha2
 obtain ⟨hb2, ho2⟩ := ha2
 subst hb2 ho2
 rw [Nat.zero_add] at q0 q1 q2 q3
 obtain ⟨D, hD⟩ : ∃ D, (S.ino[f]).data = D := ⟨_, rfl⟩
 have HD : Hid (D.size ≤ 140737488351232) := by rw [← hD]; exact HBd.out.d1 _ (List.getElem_mem hf0)
 rw [hD] at q3
 have HDe : Hid (_) := hD
 obtain ⟨di, hdi⟩ : ∃ di, (S.ino[f]).dir = di := ⟨_, rfl⟩
 rw [hdi] at q1
 have HDi : Hid (_) := hdi
 obtain ⟨nu, hnu⟩ : ∃ nu, (S.ino[f]).num = nu := ⟨_, rfl⟩
 rw [hnu] at q0
 have HNu : Hid (_) := hnu
 obtain ⟨E, hE⟩ : ∃ E, (S.ino[f]).ents = E := ⟨_, rfl⟩
 rw [hE] at q2 q4 q5
 have HEe : Hid (_) := hE
 have HEn : Hid (EntA w1 ae2 E) := q4
 have HV1 : Hid (v1 = .slice (some ⟨b1, 0, none⟩) S.ino.length p.c1) := by show _ = _; rw [HV.out.1, HA.out]
 have HRg : Hid (R ≠ b1) := fun e => (HRo.out.1 R (by simp)).1 (by rw [HV1.out, e]; rfl)
 clear hD hdi hnu hE q4 q5 q6
 clear k1 HR HC1 HRb d5
 have hdt : di = true := by rw [← HDi.out]; exact HDt.out
 subst hdt
 go_wp2_with fail
 refine (p_if 8 (by decide) w1).mono ?_
 rintro e w9 ⟨rfl, hw⟩
 subst hw
 exact ⟨rfl, Out.err rfl HC2.out (FrB.kept HK1.out)⟩
theorem p_open_full {w0 w : World} {B : Nat} {c : Cal} {pk v1 v2 v3 : Value} {ev : List Value} {S : Sta} (h : Cb w0 w B c pk v1 v2 v3 ev S) {num : Int} {f : Nat} (hf : findR S.ino c.path = (num, 0)) (hat0 : atR S.ino num = some f) (hf0 : f < S.ino.length) (hd : (S.ino[f]).dir = false) (hn : freeR S.opn c.core = []) :
  Calls Tryz.prog 104 #[.pointer (some ⟨B, 0, none⟩)] w (Out w0 w B c pk v1 v2 v3 ev S (.error 10)) := by
 obtain ⟨W1, R, HWR, HKR, HRb, HC1, HRo, HRw, HRl, p, e1, e2, e3, hrd, f1, f3, HR, HV⟩ := prg h
 have HBd : Hid (Bd S) := h.bd
 have HF : Hid (findR S.ino c.path = (num, 0) ∧ atR S.ino num = some f) := ⟨hf, hat0⟩
 obtain ⟨b1, o1, ae, ce, ha, -⟩ := hrd.sv.ino f hf0
 have ho1 : o1 = 0 := by
  obtain ⟨g, hg⟩ := f1 _ ha
  simp only [Addr.mk.injEq, and_true] at hg
  exact hg.2
 subst ho1
 have HA : Hid (p.a1 = some ⟨b1, 0, none⟩) := ha
 have d5 := hrd.c5
 have HDt : Hid (_) := hd
 have HNf : Hid (_) := hn
 clear h e1 e2 e3 f1 f3 hrd hf hat0 ha hd hn
 go_enter Tryz.func104, Tryz.ntmps104
 go_upto_region 1 with fail
 rw [HWR.out.1, HWR.out.2]
 clear HWR
 go_wp2_with fail
 refine (found_ok HR.out c.path HF.out.1 HF.out.2 HA.out).mono ?_
 rintro e w1 ⟨rfl, k1⟩
 rw [Nat.zero_add]
 have HK1 : Hid (Kept [] w w1) := HKR.out.trans k1 (by simp)
 have HC2 : Hid (_) := HC1.out.kept k1
 have HR2 : Hid (_) := HR.out.kept k1
 have HB1 : Hid (w1.heap[R]? = _) := (k1.block _ (lt_of_heap HRb.out) (by simp)).trans HRb.out
 obtain ⟨b2, o2, ae2, ce2, ha2, q0, q1, q2, q3, q4, q5, q6⟩ := HR2.out.sv.ino f hf0
 rw [HA.out] at ha2
 simp only [Option.some.injEq, Addr.mk.injEq, and_true] at ha2
 obtain ⟨hb2, ho2⟩ := ha2
 subst hb2 ho2
 rw [Nat.zero_add] at q0 q1 q2 q3
 obtain ⟨D, hD⟩ : ∃ D, (S.ino[f]).data = D := ⟨_, rfl⟩
 have HD : Hid (D.size ≤ 140737488351232) := by rw [← hD]; exact HBd.out.d1 _ (List.getElem_mem hf0)
 rw [hD] at q3
 have HDe : Hid (_) := hD
 obtain ⟨di, hdi⟩ : ∃ di, (S.ino[f]).dir = di := ⟨_, rfl⟩
 rw [hdi] at q1
 have HDi : Hid (_) := hdi
 obtain ⟨nu, hnu⟩ : ∃ nu, (S.ino[f]).num = nu := ⟨_, rfl⟩
 rw [hnu] at q0
 have HNu : Hid (_) := hnu
 obtain ⟨E, hE⟩ : ∃ E, (S.ino[f]).ents = E := ⟨_, rfl⟩
 rw [hE] at q2 q4 q5
 have HEe : Hid (_) := hE
 have HEn : Hid (EntA w1 ae2 E) := q4
 have HV1 : Hid (v1 = .slice (some ⟨b1, 0, none⟩) S.ino.length p.c1) := by show _ = _; rw [HV.out.1, HA.out]
 have HRg : Hid (R ≠ b1) := fun e => (HRo.out.1 R (by simp)).1 (by rw [HV1.out, e]; rfl)
 clear hD hdi hnu hE q4 q5 q6
 clear k1 HR HC1 HRb d5
 have hdt : di = false := by rw [← HDi.out]; exact HDt.out
 subst hdt
 go_wp2_with fail
 refine (p_if_no 8 w1).mono ?_
 rintro e w9 ⟨rfl, hw⟩
 have hw2 := hw.symm
 subst hw2
 clear q0 q1 q2 q3
 go_wp2_with fail
 refine (p_free HR2.out).mono ?_
 rintro e w5 ⟨v, rfl, ho5, k5⟩
 have HOw : Hid (Own w5 w1.heap.size v (freeR S.opn c.core)) := ho5
 have HC5 : Hid (_) := HC2.out.kept k5
 have HR5 : Hid (_) := HR2.out.kept k5
 have HK5 : Hid (Kept [] w w5) := HK1.out.trans k5 (by simp)
 have HB5 : Hid (w5.heap[R]? = _) := (k5.block _ (lt_of_heap HB1.out) (by simp)).trans HB1.out
 obtain ⟨xs, hxs⟩ : ∃ xs, freeR S.opn c.core = xs := ⟨_, rfl⟩
 rw [hxs] at HOw
 have HXs : Hid (_) := hxs
 clear ho5 k5 hxs
 have hx0 : xs = [] := by rw [← HXs.out]; exact HNf.out
 obtain ⟨a9, m9, hv9⟩ : ∃ a m, v = .slice a 0 m := by
  rcases HOw.out.form with ⟨e9, -⟩ | ⟨g9, cap9, cur9, e9, -⟩
  · exact ⟨_, _, e9⟩
  · rw [hx0] at e9; exact ⟨_, _, e9⟩
 subst hv9
 clear hx0
 go_wp2_with fail
 refine (p_if 10 (by decide) w5).mono ?_
 rintro e w9 ⟨rfl, hw⟩
 subst hw
 exact ⟨rfl, Out.err rfl HC5.out (FrB.kept HK5.out)⟩
theorem cell_next {w : World} {B i j : Nat} {v : Value} (h : j ≠ i) : (w.setCell ⟨B, i, none⟩ v).cell? ⟨B, j, none⟩ = w.cell? ⟨B, j, none⟩ := by
 rw [World.cell?_setCell_other]
 intro e
 simp only [Addr.mk.injEq, and_true, true_and] at e
 exact h e.symm
theorem p_open_least {w0 w : World} {B : Nat} {c : Cal} {v1 v2 v3 : Value} {ev : List Value} {S : Sta} (h : Cb w0 w B c (.func (.func 22) #[] #[]) v1 v2 v3 ev S) {num : Int} {f : Nat} (hf : findR S.ino c.path = (num, 0)) (hat0 : atR S.ino num = some f) (hf0 : f < S.ino.length) (hd : (S.ino[f]).dir = false) (hn : 0 < (freeR S.opn c.core).length) (hadj : adj ltD S.opn = true) (hnl : S.opn.length < 5864062014634) :
  Calls Tryz.prog 104 #[.pointer (some ⟨B, 0, none⟩)] w (Out w0 w B c (.func (.func 22) #[] #[]) v1 v2 v3 ev S (.ok (⟨S.ino, insR ltD S.opn (c.core, headI (freeR S.opn c.core), (S.ino[f]).num), S.made⟩, ⟨0, headI (freeR S.opn c.core), 0, false, ⟨#[]⟩, []⟩))) := by
 obtain ⟨W1, R, HWR, HKR, HRb⟩ := boxR w #[.int .i64 0, .int .i64 0, .int .i64 0, .bool false, .string ⟨#[]⟩, .slice none 0 0] 31
 have HC1 : Hid (Cb w0 W1 B c (.func (.func 22) #[] #[]) v1 v2 v3 ev S) := h.kept HKR.out
 have HRo : Hid (Off [R] v1 v2 v3 ev ∧ R ≠ B) := h.new (Nat.le_of_eq HWR.out.2)
 have HRw : Hid (w.heap.size ≤ R) := Nat.le_of_eq HWR.out.2
 have HRl : Hid (w0.heap.size ≤ R) := by have := h.k.size; rw [← HWR.out.2]; exact this
 obtain ⟨p, e1, e2, e3, hrd, f1, f3⟩ := HC1.out.rd
 have HR : Hid (Rd W1 B c (.func (.func 22) #[] #[]) p S) := hrd
 have HV : Hid (v1 = .slice p.a1 S.ino.length p.c1 ∧ v2 = .slice p.a2 S.opn.length p.c2 ∧ v3 = .slice p.a3 S.made.length p.c3 ∧ (∀ x, p.a1 = some x → ∃ g, x = ⟨g, 0, none⟩) ∧ (∀ x, p.a3 = some x → ∃ g, x = ⟨g, 0, none⟩)) := ⟨e1, e2, e3, f1, f3⟩
 have HBd : Hid (Bd S) := h.bd
 have HF : Hid (findR S.ino c.path = (num, 0) ∧ atR S.ino num = some f) := ⟨hf, hat0⟩
 obtain ⟨b1, o1, ae, ce, ha, -⟩ := hrd.sv.ino f hf0
 have ho1 : o1 = 0 := by
  obtain ⟨g, hg⟩ := f1 _ ha
  simp only [Addr.mk.injEq, and_true] at hg
  exact hg.2
 subst ho1
 have HA : Hid (p.a1 = some ⟨b1, 0, none⟩) := ha
 have d5 := hrd.c5
 have HDt : Hid (_) := hd
 have HNf : Hid (_) := hn
 have HAdj : Hid (_) := hadj
 have HNl : Hid (_) := hnl
 clear h e1 e2 e3 f1 f3 hrd hf hat0 ha hd hn hadj hnl
 go_enter Tryz.func104, Tryz.ntmps104
 go_upto_region 1 with fail
 rw [HWR.out.1, HWR.out.2]
 clear HWR
 go_wp2_with fail
 refine (found_ok HR.out c.path HF.out.1 HF.out.2 HA.out).mono ?_
 rintro e w1 ⟨rfl, k1⟩
 rw [Nat.zero_add]
 have HK1 : Hid (Kept [] w w1) := HKR.out.trans k1 (by simp)
 have HC2 : Hid (_) := HC1.out.kept k1
 have HR2 : Hid (_) := HR.out.kept k1
 have HB1 : Hid (w1.heap[R]? = _) := (k1.block _ (lt_of_heap HRb.out) (by simp)).trans HRb.out
 obtain ⟨b2, o2, ae2, ce2, ha2, q0, q1, q2, q3, q4, q5, q6⟩ := HR2.out.sv.ino f hf0
 rw [HA.out] at ha2
 simp only [Option.some.injEq, Addr.mk.injEq, and_true] at ha2
 obtain ⟨hb2, ho2⟩ := ha2
 subst hb2 ho2
 rw [Nat.zero_add] at q0 q1 q2 q3
 obtain ⟨D, hD⟩ : ∃ D, (S.ino[f]).data = D := ⟨_, rfl⟩
 have HD : Hid (D.size ≤ 140737488351232) := by rw [← hD]; exact HBd.out.d1 _ (List.getElem_mem hf0)
 rw [hD] at q3
 have HDe : Hid (_) := hD
 obtain ⟨di, hdi⟩ : ∃ di, (S.ino[f]).dir = di := ⟨_, rfl⟩
 rw [hdi] at q1
 have HDi : Hid (_) := hdi
 obtain ⟨nu, hnu⟩ : ∃ nu, (S.ino[f]).num = nu := ⟨_, rfl⟩
 rw [hnu] at q0
 have HNu : Hid (_) := hnu
 obtain ⟨E, hE⟩ : ∃ E, (S.ino[f]).ents = E := ⟨_, rfl⟩
 rw [hE] at q2 q4 q5
 have HEe : Hid (_) := hE
 have HEn : Hid (EntA w1 ae2 E) := q4
 have HV1 : Hid (v1 = .slice (some ⟨b1, 0, none⟩) S.ino.length p.c1) := by show _ = _; rw [HV.out.1, HA.out]
 have HRg : Hid (R ≠ b1) := fun e => (HRo.out.1 R (by simp)).1 (by rw [HV1.out, e]; rfl)
 clear hD hdi hnu hE q4 q5 q6
 clear k1 HR HC1 HRb d5
 have hdt : di = false := by rw [← HDi.out]; exact HDt.out
 subst hdt
 go_wp2_with fail
 refine (p_if_no 8 w1).mono ?_
 rintro e w9 ⟨rfl, hw⟩
 have hw2 := hw.symm
 subst hw2
 clear q0 q1 q2 q3
 go_wp2_with fail
 refine (p_free HR2.out).mono ?_
 rintro e w5 ⟨v, rfl, ho5, k5⟩
 have HOw : Hid (Own w5 w1.heap.size v (freeR S.opn c.core)) := ho5
 have HC5 : Hid (_) := HC2.out.kept k5
 have HR5 : Hid (_) := HR2.out.kept k5
 have HK5 : Hid (Kept [] w w5) := HK1.out.trans k5 (by simp)
 have HB5 : Hid (w5.heap[R]? = _) := (k5.block _ (lt_of_heap HB1.out) (by simp)).trans HB1.out
 obtain ⟨xs, hxs⟩ : ∃ xs, freeR S.opn c.core = xs := ⟨_, rfl⟩
 rw [hxs] at HOw
 have HXs : Hid (_) := hxs
 clear ho5 k5 hxs
 have hx0 : 0 < xs.length := by rw [← HXs.out]; exact HNf.out
 have hx4 : xs.length ≤ 4 := by rw [← HXs.out]; exact freeN_le _ _ _
 obtain ⟨a9, m9, hv9⟩ : ∃ a m, v = .slice a xs.length m := by
  rcases HOw.out.form with ⟨e9, e8⟩ | ⟨g9, cap9, cur9, e9, -⟩
  · rw [e8] at hx0; simp at hx0
  · exact ⟨_, _, e9⟩
 subst hv9
 have hxi : ¬ (xs.length : Int) = 0 := by omega
 have hxb : ((xs.length : Int) == 0) = false := by simpa using hxi
 have hxc : (xs.length == 0) = false := by rw [beq_eq_false_iff_ne]; omega
 have hx63 : xs.length ≤ 9223372036854775807 := by omega
 go_wp2_with fail
 refine (p_if_no 10 w5).mono ?_
 rintro e w9 ⟨rfl, hw⟩
 have hw2 := hw.symm
 subst hw2
 have d11 := HR5.out.c11
 have HX0 : Hid (0 < xs.length) := hx0
 clear hx0
 go_wp2_with fail
 refine (p_least HOw.out HX0.out).mono ?_
 rintro e w6 ⟨rfl, k6⟩
 obtain ⟨fd, hfd⟩ : ∃ fd, headI xs = fd := ⟨_, rfl⟩
 have HFd : Hid (headI (freeR S.opn c.core) = fd) := by show _ = _; rw [HXs.out]; exact hfd
 rw [hfd]
 have HC6 : Hid (_) := HC5.out.kept k6
 have HR6 : Hid (_) := HR5.out.kept k6
 have HK6 : Hid (Kept [] w w6) := HK5.out.trans k6 (by simp)
 have HB6 : Hid (w6.heap[R]? = _) := (k6.block _ (lt_of_heap HB5.out) (by simp)).trans HB5.out
 have HSo : Hid (w6.cell? ⟨B, 1, none⟩ = some (.int .i64 c.core) ∧ w6.cell? ⟨b1, f * 4, none⟩ = some (.int .i64 nu)) := ⟨HR6.out.c1, by have h9 := HC6.out.numAt HV1.out (j := f) hf0; rw [HNu.out] at h9; exact h9⟩
 have HNB : Hid (B ∉ v2.ownBlock.toList ∧ b1 ∉ v2.ownBlock.toList) := ⟨fun hm => by
  rw [Option.mem_toList] at hm
  exact (HC6.out.off B (by simp)).2.1 hm, fun hm => by
  rw [Option.mem_toList] at hm
  exact HC6.out.os.a12 b1 (by rw [HV1.out]; rfl) hm⟩
 have HPd : Hid (∀ W, Kept [] w6 W → Calls Tryz.prog 136 #[.slice p.a2 S.opn.length p.c2, .agg #[.int .i64 c.core, .int .i64 fd, .int .i64 nu], .func (.func 56) #[] #[]] W (InsR w0.heap.size 83 3 v2 (S.opn.length + 1) (desC (insR ltD S.opn (c.core, fd, nu))) W)) := fun W hW => by
  have h9 := (HC6.out.kept hW)
  have := put_des h9.os.opn h9.k.size h9.bd.n2 HAdj.out (c.core, fd, nu)
  rw [HV.out.2.1] at this ⊢
  exact this
 have d9 : w6.cell? ⟨B, 9, none⟩ = some (.slice p.a2 S.opn.length p.c2) := HR6.out.c9
 have d9d : w6.drew.cell? ⟨B, 9, none⟩ = some (.slice p.a2 S.opn.length p.c2) := d9
 have HBb : Hid (b1 ≠ B) := fun e => (HC6.out.off B (by simp)).1 (by rw [HV1.out, e]; rfl)
 have HSs : Hid (∀ (W : World) (v : Value), (W.cell? ⟨B, 1, none⟩ = some (.int .i64 c.core) ∧ W.cell? ⟨b1, f * 4, none⟩ = some (.int .i64 nu)) → ((W.setCell ⟨B, 9, none⟩ v).cell? ⟨B, 1, none⟩ = some (.int .i64 c.core) ∧ (W.setCell ⟨B, 9, none⟩ v).cell? ⟨b1, f * 4, none⟩ = some (.int .i64 nu))) := fun W v hW => ⟨by rw [cell_next (by decide)]; exact hW.1, by rw [cellO HBb.out]; exact hW.2⟩
 clear k6 hfd d11 hxi hxb hxc hx63 hx4
 go_upto_region 6 with fail
 refine wp_region_held_drew (S := fun w' => w'.cell? ⟨B, 1, none⟩ = some (.int .i64 c.core) ∧ w'.cell? ⟨b1, f * 4, none⟩ = some (.int .i64 nu)) (by kernel_rfl) ?_ (fun hHeld => ?_)
 · exact HSo.out
 refine tkA 0 rfl ?_
 refine tkA 1 rfl ?_
 refine tkA 2 rfl ?_
 refine tkA 3 rfl ?_
 refine tkA 4 rfl ?_
 refine tkA 6 rfl ?_
 refine tkA 7 rfl ?_
 refine tkA 8 rfl ?_
 refine tkA 9 rfl ?_
 refine tkA 10 rfl ?_
 refine tkA 11 rfl ?_
 refine tkA 12 rfl ?_
 refine tkA 13 rfl ?_
 refine tkA 14 rfl ?_
 refine tkA 15 rfl ?_
 refine tkA 16 rfl ?_
 refine wpAnyH_ready (rs := [5]) (by kernel_rfl) (by simp) ?_
 refine AllReadyH.cons rfl (fun K hK => ?_) AllReadyH.nil
 go_simp
 refine hK.out _ _ ?_ (fun hHeld => ?_)
 · exact hHeld
 clear hK K
 try simp only [Act.put, lz0, lz1, lz2, lz3, lz4, lz5]
 refine wpAnyH_ready (rs := [17]) (by kernel_rfl) (by simp) ?_
 refine AllReadyH.cons rfl (fun K hK => ?_) AllReadyH.nil
 go_simp
 refine (HPd.out _ (Kept.refl _ _).drew).mono ?_
 rintro e w7 ⟨v7, rfl, r7, k7, h7⟩
 have hk7 : Kept v2.ownBlock.toList w6 w7 := (Kept.refl _ _).drew.trans k7 (fun x hx => Or.inl hx)
 have z7 := (⟨hk7.cell HSo.out.1 HNB.out.1, hk7.cell HSo.out.2 HNB.out.2⟩ : w7.cell? ⟨B, 1, none⟩ = some (.int .i64 c.core) ∧ w7.cell? ⟨b1, f * 4, none⟩ = some (.int .i64 nu))
 have h7b : ∀ b, v7.ownBlock = some b → v2.ownBlock = some b ∨ w6.heap.size ≤ b := h7
 have hcb := HC6.out.opn (D := insR ltD S.opn (c.core, fd, nu)) (by rw [insR_length]; exact r7) hk7 h7b (by rw [insR_length]; have := HNl.out; omega)
 have HC7 : Hid (_) := hcb.1
 have HF7 : Hid (_) := hcb.2
 have hbx : w7.heap[B]? = _ := (hk7.block B (lt_of_heap HC6.out.box) HNB.out.1).trans HC6.out.box
 have c7 : w7.cell? ⟨B, 9, none⟩ = some (.slice p.a2 S.opn.length p.c2) := by rw [← HV.out.2.1]; exact cellB hbx
 have f7 := frozen_of hbx 9
 obtain ⟨a7, c7', hv7, -⟩ := row_form r7
 subst hv7
 clear r7 k7 h7 hk7 h7b hcb hbx
 go_wp2_with fail
 refine hK.out _ _ ?_ (fun hHeld => ?_)
 · exact z7
 clear hK K
 try simp only [Act.put, lz0, lz1, lz2, lz3, lz4, lz5]
 refine tkA 18 rfl ?_
 refine tkA 19 rfl ?_
 refine tkA 20 rfl ?_
 refine wpAnyH_ready (rs := [21]) (by kernel_rfl) (by simp) ?_
 refine AllReadyH.cons rfl (fun K hK => ?_) AllReadyH.nil
 go_simp
 refine hK.out _ _ ?_ (fun hHeld => ?_)
 · exact HSs.out _ _ hHeld
 clear hK K
 try simp only [Act.put, lz0, lz1, lz2, lz3, lz4, lz5]
 refine wpAnyH_done (by kernel_rfl) ?_ _
 have h7 := HF7.out.2 R (lt_of_heap HB6.out) HRo.out.2 HRo.out.1
 have HB7 : Hid ((w7.setCell ⟨B, 9, none⟩ (.slice a7 (S.opn.length + 1) c7')).heap[R]? = _) := h7.1.trans HB6.out
 have HO7 : Hid (_) := h7.2
 have HF8 : Hid (FrB B w (w7.setCell ⟨B, 9, none⟩ (.slice a7 (S.opn.length + 1) c7')) v1 v2 v3 ev v1 (.slice a7 (S.opn.length + 1) c7') v3 ev) := (FrB.kept HK6.out).trans HF7.out
 obtain ⟨W8, hW8⟩ : ∃ W8, w7.setCell ⟨B, 9, none⟩ (.slice a7 (S.opn.length + 1) c7') = W8 := ⟨_, rfl⟩
 rw [hW8] at HC7 HB7 HF8 ⊢
 clear hW8 h7 HF7 z7 c7 f7 d9 d9d hHeld HPd
 obtain ⟨g0, g1, g2, g3, g4, g5⟩ := cz6 HB7.out
 obtain ⟨z0, z1, z2, z3, z4, z5⟩ := fz6 HB7.out
 go_wp2_with fail
 (try simp only [Exit.inBlock, Exit.then])
 refine bodyPost_ret (results_cell_row rfl _ _ R 31 #[.int .i64 0, .int .i64 fd, .int .i64 0, .bool false, .string ⟨#[]⟩, .slice none 0 0] (0, 0) _ rfl (block_res HB7.out _ _ _ _ _ _) Tryz.underlying31 rfl (by kernel_rfl)) rfl ?_
 exact Out.val (by rw [HFd.out, HNu.out]) rfl rfl (HC7.out.res HRl.out HO7.out HRo.out.2 _ _ _ _ _ _) (FrB.res HF8.out HRw.out _ _ _ _ _ _)
theorem p_open_told {w0 w : World} {X : Nat} {B : Nat} {c : Cal} {v1 v2 v3 : Value} {ev : List Value} {S : Sta} (h : Cb w0 w B c (.func (.func 25) #[] #[.pointer (some ⟨X, 0, none⟩)]) v1 v2 v3 ev S) {num : Int} {f : Nat} (hf : findR S.ino c.path = (num, 0)) (hat0 : atR S.ino num = some f) (hf0 : f < S.ino.length) (hd : (S.ino[f]).dir = false) (hn : 0 < (freeR S.opn c.core).length) (hadj : adj ltD S.opn = true) (hnl : S.opn.length < 5864062014634) {z : Int} (hX : w0.cell? ⟨X, 1, none⟩ = some (.int .i64 z)) :
  Calls Tryz.prog 104 #[.pointer (some ⟨B, 0, none⟩)] w (Out w0 w B c (.func (.func 25) #[] #[.pointer (some ⟨X, 0, none⟩)]) v1 v2 v3 ev S (.ok (⟨S.ino, insR ltD S.opn (c.core, toldI (freeR S.opn c.core) z, (S.ino[f]).num), S.made⟩, ⟨0, toldI (freeR S.opn c.core) z, 0, false, ⟨#[]⟩, []⟩))) := by
 obtain ⟨W1, R, HWR, HKR, HRb⟩ := boxR w #[.int .i64 0, .int .i64 0, .int .i64 0, .bool false, .string ⟨#[]⟩, .slice none 0 0] 31
 have HC1 : Hid (Cb w0 W1 B c (.func (.func 25) #[] #[.pointer (some ⟨X, 0, none⟩)]) v1 v2 v3 ev S) := h.kept HKR.out
 have HRo : Hid (Off [R] v1 v2 v3 ev ∧ R ≠ B) := h.new (Nat.le_of_eq HWR.out.2)
 have HRw : Hid (w.heap.size ≤ R) := Nat.le_of_eq HWR.out.2
 have HRl : Hid (w0.heap.size ≤ R) := by have := h.k.size; rw [← HWR.out.2]; exact this
 obtain ⟨p, e1, e2, e3, hrd, f1, f3⟩ := HC1.out.rd
 have HR : Hid (Rd W1 B c (.func (.func 25) #[] #[.pointer (some ⟨X, 0, none⟩)]) p S) := hrd
 have HV : Hid (v1 = .slice p.a1 S.ino.length p.c1 ∧ v2 = .slice p.a2 S.opn.length p.c2 ∧ v3 = .slice p.a3 S.made.length p.c3 ∧ (∀ x, p.a1 = some x → ∃ g, x = ⟨g, 0, none⟩) ∧ (∀ x, p.a3 = some x → ∃ g, x = ⟨g, 0, none⟩)) := ⟨e1, e2, e3, f1, f3⟩
 have HBd : Hid (Bd S) := h.bd
 have HF : Hid (findR S.ino c.path = (num, 0) ∧ atR S.ino num = some f) := ⟨hf, hat0⟩
 obtain ⟨b1, o1, ae, ce, ha, -⟩ := hrd.sv.ino f hf0
 have ho1 : o1 = 0 := by
  obtain ⟨g, hg⟩ := f1 _ ha
  simp only [Addr.mk.injEq, and_true] at hg
  exact hg.2
 subst ho1
 have HA : Hid (p.a1 = some ⟨b1, 0, none⟩) := ha
 have d5 := hrd.c5
 have HDt : Hid (_) := hd
 have HNf : Hid (_) := hn
 have HAdj : Hid (_) := hadj
 have HNl : Hid (_) := hnl
 have HX : Hid (_) := hX
 clear h e1 e2 e3 f1 f3 hrd hf hat0 ha hd hn hadj hnl hX
 go_enter Tryz.func104, Tryz.ntmps104
 go_upto_region 1 with fail
 rw [HWR.out.1, HWR.out.2]
 clear HWR
 go_wp2_with fail
 refine (found_ok HR.out c.path HF.out.1 HF.out.2 HA.out).mono ?_
 rintro e w1 ⟨rfl, k1⟩
 rw [Nat.zero_add]
 have HK1 : Hid (Kept [] w w1) := HKR.out.trans k1 (by simp)
 have HC2 : Hid (_) := HC1.out.kept k1
 have HR2 : Hid (_) := HR.out.kept k1
 have HB1 : Hid (w1.heap[R]? = _) := (k1.block _ (lt_of_heap HRb.out) (by simp)).trans HRb.out
 obtain ⟨b2, o2, ae2, ce2, ha2, q0, q1, q2, q3, q4, q5, q6⟩ := HR2.out.sv.ino f hf0
 rw [HA.out] at ha2
 simp only [Option.some.injEq, Addr.mk.injEq, and_true] at ha2
 obtain ⟨hb2, ho2⟩ := ha2
 subst hb2 ho2
 rw [Nat.zero_add] at q0 q1 q2 q3
 obtain ⟨D, hD⟩ : ∃ D, (S.ino[f]).data = D := ⟨_, rfl⟩
 have HD : Hid (D.size ≤ 140737488351232) := by rw [← hD]; exact HBd.out.d1 _ (List.getElem_mem hf0)
 rw [hD] at q3
 have HDe : Hid (_) := hD
 obtain ⟨di, hdi⟩ : ∃ di, (S.ino[f]).dir = di := ⟨_, rfl⟩
 rw [hdi] at q1
 have HDi : Hid (_) := hdi
 obtain ⟨nu, hnu⟩ : ∃ nu, (S.ino[f]).num = nu := ⟨_, rfl⟩
 rw [hnu] at q0
 have HNu : Hid (_) := hnu
 obtain ⟨E, hE⟩ : ∃ E, (S.ino[f]).ents = E := ⟨_, rfl⟩
 rw [hE] at q2 q4 q5
 have HEe : Hid (_) := hE
 have HEn : Hid (EntA w1 ae2 E) := q4
 have HV1 : Hid (v1 = .slice (some ⟨b1, 0, none⟩) S.ino.length p.c1) := by show _ = _; rw [HV.out.1, HA.out]
 have HRg : Hid (R ≠ b1) := fun e => (HRo.out.1 R (by simp)).1 (by rw [HV1.out, e]; rfl)
 clear hD hdi hnu hE q4 q5 q6
 clear k1 HR HC1 HRb d5
 have hdt : di = false := by rw [← HDi.out]; exact HDt.out
 subst hdt
 go_wp2_with fail
 refine (p_if_no 8 w1).mono ?_
 rintro e w9 ⟨rfl, hw⟩
 have hw2 := hw.symm
 subst hw2
 clear q0 q1 q2 q3
 go_wp2_with fail
 refine (p_free HR2.out).mono ?_
 rintro e w5 ⟨v, rfl, ho5, k5⟩
 have HOw : Hid (Own w5 w1.heap.size v (freeR S.opn c.core)) := ho5
 have HC5 : Hid (_) := HC2.out.kept k5
 have HR5 : Hid (_) := HR2.out.kept k5
 have HK5 : Hid (Kept [] w w5) := HK1.out.trans k5 (by simp)
 have HB5 : Hid (w5.heap[R]? = _) := (k5.block _ (lt_of_heap HB1.out) (by simp)).trans HB1.out
 obtain ⟨xs, hxs⟩ : ∃ xs, freeR S.opn c.core = xs := ⟨_, rfl⟩
 rw [hxs] at HOw
 have HXs : Hid (_) := hxs
 clear ho5 k5 hxs
 have hx0 : 0 < xs.length := by rw [← HXs.out]; exact HNf.out
 have hx4 : xs.length ≤ 4 := by rw [← HXs.out]; exact freeN_le _ _ _
 obtain ⟨a9, m9, hv9⟩ : ∃ a m, v = .slice a xs.length m := by
  rcases HOw.out.form with ⟨e9, e8⟩ | ⟨g9, cap9, cur9, e9, -⟩
  · rw [e8] at hx0; simp at hx0
  · exact ⟨_, _, e9⟩
 subst hv9
 have hxi : ¬ (xs.length : Int) = 0 := by omega
 have hxb : ((xs.length : Int) == 0) = false := by simpa using hxi
 have hxc : (xs.length == 0) = false := by rw [beq_eq_false_iff_ne]; omega
 have hx63 : xs.length ≤ 9223372036854775807 := by omega
 go_wp2_with fail
 refine (p_if_no 10 w5).mono ?_
 rintro e w9 ⟨rfl, hw⟩
 have hw2 := hw.symm
 subst hw2
 have d11 := HR5.out.c11
 have HX0 : Hid (0 < xs.length) := hx0
 clear hx0
 go_wp2_with fail
 refine (p_told HOw.out HX0.out (by omega) (HC5.out.k.cell HX.out (by simp))).mono ?_
 rintro e w6 ⟨rfl, k6⟩
 obtain ⟨fd, hfd⟩ : ∃ fd, toldI xs z = fd := ⟨_, rfl⟩
 have HFd : Hid (toldI (freeR S.opn c.core) z = fd) := by show _ = _; rw [HXs.out]; exact hfd
 rw [hfd]
 have HC6 : Hid (_) := HC5.out.kept k6
 have HR6 : Hid (_) := HR5.out.kept k6
 have HK6 : Hid (Kept [] w w6) := HK5.out.trans k6 (by simp)
 have HB6 : Hid (w6.heap[R]? = _) := (k6.block _ (lt_of_heap HB5.out) (by simp)).trans HB5.out
 have HSo : Hid (w6.cell? ⟨B, 1, none⟩ = some (.int .i64 c.core) ∧ w6.cell? ⟨b1, f * 4, none⟩ = some (.int .i64 nu)) := ⟨HR6.out.c1, by have h9 := HC6.out.numAt HV1.out (j := f) hf0; rw [HNu.out] at h9; exact h9⟩
 have HNB : Hid (B ∉ v2.ownBlock.toList ∧ b1 ∉ v2.ownBlock.toList) := ⟨fun hm => by
  rw [Option.mem_toList] at hm
  exact (HC6.out.off B (by simp)).2.1 hm, fun hm => by
  rw [Option.mem_toList] at hm
  exact HC6.out.os.a12 b1 (by rw [HV1.out]; rfl) hm⟩
 have HPd : Hid (∀ W, Kept [] w6 W → Calls Tryz.prog 136 #[.slice p.a2 S.opn.length p.c2, .agg #[.int .i64 c.core, .int .i64 fd, .int .i64 nu], .func (.func 56) #[] #[]] W (InsR w0.heap.size 83 3 v2 (S.opn.length + 1) (desC (insR ltD S.opn (c.core, fd, nu))) W)) := fun W hW => by
  have h9 := (HC6.out.kept hW)
  have := put_des h9.os.opn h9.k.size h9.bd.n2 HAdj.out (c.core, fd, nu)
  rw [HV.out.2.1] at this ⊢
  exact this
 have d9 : w6.cell? ⟨B, 9, none⟩ = some (.slice p.a2 S.opn.length p.c2) := HR6.out.c9
 have d9d : w6.drew.cell? ⟨B, 9, none⟩ = some (.slice p.a2 S.opn.length p.c2) := d9
 have HBb : Hid (b1 ≠ B) := fun e => (HC6.out.off B (by simp)).1 (by rw [HV1.out, e]; rfl)
 have HSs : Hid (∀ (W : World) (v : Value), (W.cell? ⟨B, 1, none⟩ = some (.int .i64 c.core) ∧ W.cell? ⟨b1, f * 4, none⟩ = some (.int .i64 nu)) → ((W.setCell ⟨B, 9, none⟩ v).cell? ⟨B, 1, none⟩ = some (.int .i64 c.core) ∧ (W.setCell ⟨B, 9, none⟩ v).cell? ⟨b1, f * 4, none⟩ = some (.int .i64 nu))) := fun W v hW => ⟨by rw [cell_next (by decide)]; exact hW.1, by rw [cellO HBb.out]; exact hW.2⟩
 clear k6 hfd d11 hxi hxb hxc hx63 hx4
 go_upto_region 6 with fail
 refine wp_region_held_drew (S := fun w' => w'.cell? ⟨B, 1, none⟩ = some (.int .i64 c.core) ∧ w'.cell? ⟨b1, f * 4, none⟩ = some (.int .i64 nu)) (by kernel_rfl) ?_ (fun hHeld => ?_)
 · exact HSo.out
 refine tkA 0 rfl ?_
 refine tkA 1 rfl ?_
 refine tkA 2 rfl ?_
 refine tkA 3 rfl ?_
 refine tkA 4 rfl ?_
 refine tkA 6 rfl ?_
 refine tkA 7 rfl ?_
 refine tkA 8 rfl ?_
 refine tkA 9 rfl ?_
 refine tkA 10 rfl ?_
 refine tkA 11 rfl ?_
 refine tkA 12 rfl ?_
 refine tkA 13 rfl ?_
 refine tkA 14 rfl ?_
 refine tkA 15 rfl ?_
 refine tkA 16 rfl ?_
 refine wpAnyH_ready (rs := [5]) (by kernel_rfl) (by simp) ?_
 refine AllReadyH.cons rfl (fun K hK => ?_) AllReadyH.nil
 go_simp
 refine hK.out _ _ ?_ (fun hHeld => ?_)
 · exact hHeld
 clear hK K
 try simp only [Act.put, lz0, lz1, lz2, lz3, lz4, lz5]
 refine wpAnyH_ready (rs := [17]) (by kernel_rfl) (by simp) ?_
 refine AllReadyH.cons rfl (fun K hK => ?_) AllReadyH.nil
 go_simp
 refine (HPd.out _ (Kept.refl _ _).drew).mono ?_
 rintro e w7 ⟨v7, rfl, r7, k7, h7⟩
 have hk7 : Kept v2.ownBlock.toList w6 w7 := (Kept.refl _ _).drew.trans k7 (fun x hx => Or.inl hx)
 have z7 := (⟨hk7.cell HSo.out.1 HNB.out.1, hk7.cell HSo.out.2 HNB.out.2⟩ : w7.cell? ⟨B, 1, none⟩ = some (.int .i64 c.core) ∧ w7.cell? ⟨b1, f * 4, none⟩ = some (.int .i64 nu))
 have h7b : ∀ b, v7.ownBlock = some b → v2.ownBlock = some b ∨ w6.heap.size ≤ b := h7
 have hcb := HC6.out.opn (D := insR ltD S.opn (c.core, fd, nu)) (by rw [insR_length]; exact r7) hk7 h7b (by rw [insR_length]; have := HNl.out; omega)
 have HC7 : Hid (_) := hcb.1
 have HF7 : Hid (_) := hcb.2
 have hbx : w7.heap[B]? = _ := (hk7.block B (lt_of_heap HC6.out.box) HNB.out.1).trans HC6.out.box
 have c7 : w7.cell? ⟨B, 9, none⟩ = some (.slice p.a2 S.opn.length p.c2) := by rw [← HV.out.2.1]; exact cellB hbx
 have f7 := frozen_of hbx 9
 obtain ⟨a7, c7', hv7, -⟩ := row_form r7
 subst hv7
 clear r7 k7 h7 hk7 h7b hcb hbx
 go_wp2_with fail
 refine hK.out _ _ ?_ (fun hHeld => ?_)
 · exact z7
 clear hK K
 try simp only [Act.put, lz0, lz1, lz2, lz3, lz4, lz5]
 refine tkA 18 rfl ?_
 refine tkA 19 rfl ?_
 refine tkA 20 rfl ?_
 refine wpAnyH_ready (rs := [21]) (by kernel_rfl) (by simp) ?_
 refine AllReadyH.cons rfl (fun K hK => ?_) AllReadyH.nil
 go_simp
 refine hK.out _ _ ?_ (fun hHeld => ?_)
 · exact HSs.out _ _ hHeld
 clear hK K
 try simp only [Act.put, lz0, lz1, lz2, lz3, lz4, lz5]
 refine wpAnyH_done (by kernel_rfl) ?_ _
 have h7 := HF7.out.2 R (lt_of_heap HB6.out) HRo.out.2 HRo.out.1
 have HB7 : Hid ((w7.setCell ⟨B, 9, none⟩ (.slice a7 (S.opn.length + 1) c7')).heap[R]? = _) := h7.1.trans HB6.out
 have HO7 : Hid (_) := h7.2
 have HF8 : Hid (FrB B w (w7.setCell ⟨B, 9, none⟩ (.slice a7 (S.opn.length + 1) c7')) v1 v2 v3 ev v1 (.slice a7 (S.opn.length + 1) c7') v3 ev) := (FrB.kept HK6.out).trans HF7.out
 obtain ⟨W8, hW8⟩ : ∃ W8, w7.setCell ⟨B, 9, none⟩ (.slice a7 (S.opn.length + 1) c7') = W8 := ⟨_, rfl⟩
 rw [hW8] at HC7 HB7 HF8 ⊢
 clear hW8 h7 HF7 z7 c7 f7 d9 d9d hHeld HPd
 obtain ⟨g0, g1, g2, g3, g4, g5⟩ := cz6 HB7.out
 obtain ⟨z0, z1, z2, z3, z4, z5⟩ := fz6 HB7.out
 go_wp2_with fail
 (try simp only [Exit.inBlock, Exit.then])
 refine bodyPost_ret (results_cell_row rfl _ _ R 31 #[.int .i64 0, .int .i64 fd, .int .i64 0, .bool false, .string ⟨#[]⟩, .slice none 0 0] (0, 0) _ rfl (block_res HB7.out _ _ _ _ _ _) Tryz.underlying31 rfl (by kernel_rfl)) rfl ?_
 exact Out.val (by rw [HFd.out, HNu.out]) rfl rfl (HC7.out.res HRl.out HO7.out HRo.out.2 _ _ _ _ _ _) (FrB.res HF8.out HRw.out _ _ _ _ _ _)
end Go.Proofs.YtffncojcnbhblaaGreatDoor
