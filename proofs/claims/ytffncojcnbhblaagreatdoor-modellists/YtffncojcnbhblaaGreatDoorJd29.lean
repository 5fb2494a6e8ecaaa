/-
  Joined of my texts Qb Qc Qd Qe.
-/
import Derived.Test.YtffncojcnbhblaaGreatDoorJd28
import Derived.Test.YtffncojcnbhblaaGreatDoorJd8
import Derived.BigQuiet
import Derived.Deep.CutRange
import Derived.Deep.CutBlock
import Derived.Test.YtffncojcnbhblaaGreatDoorJd7
set_option linter.unusedVariables false
set_option linter.unusedSimpArgs false
set_option maxRecDepth 100000
set_option maxHeartbeats 8000000
namespace Go.Proofs.YtffncojcnbhblaaGreatDoor
open Go.RowKit
theorem byte_list {a : ByteArray} {i : Nat} (h : i < a.size) : ∃ h' : i < a.toList.length, (a.toList[i]'h').toNat = (a[i]'h).toNat := by
 have e : a.toList = a.data.toList := ByteArray.toList_eq ..
 have hl : i < a.data.toList.length := by simpa using h
 refine ⟨by rw [e]; exact hl, ?_⟩
 congr 1
 have : a.toList[i]? = a.data.toList[i]? := by rw [e]
 rw [List.getElem?_eq_getElem (by rw [e]; exact hl), List.getElem?_eq_getElem hl] at this
 have h2 := Option.some.inj this
 rw [h2]
 rfl
theorem toList_len (a : ByteArray) : a.toList.length = a.size := by rw [ByteArray.toList_eq]; simp
theorem f_below (a b : ByteArray) (w : World) (ha : a.size ≤ 12) (hb : b.size ≤ 12) :
  Calls Tryz.prog 11 #[.string a, .string b] w fun e w' => e = .returned (.bool (below a b)) ∧ ∃ m, w' = w.drewN m := by
 go_enter Tryz.func11, Tryz.ntmps11
 go_wp2_with fail
 go_loopw [5] (fun i wr => ∃ j m : Nat, i = .int .i64 (j : Int) ∧ j ≤ 12 ∧ j ≤ a.size ∧ Hid (wr = w.drewN m ∧ lx (a.toList.drop j) (b.toList.drop j) = below a b)) (fun i _ => (12 - intOf i).toNat)
 case atStart => exact ⟨0, 0, rfl, by omega, by omega, rfl, rfl⟩
 case round =>
  obtain ⟨j, m, rfl, hj, hja, HJ⟩ := hrel
  by_cases h1 : j < a.size ∧ j < b.size
  ·
   obtain ⟨h1, h2⟩ := h1
   have i0 : (0 : Int) ≤ (j : Int) := by omega
   have i1 : (j : Int) < (a.size : Int) := by omega
   have i2 : (j : Int) < (b.size : Int) := by omega
   obtain ⟨p1, q1⟩ := byte_list h1
   obtain ⟨p2, q2⟩ := byte_list h2
   obtain ⟨x, hx⟩ : ∃ x, (a[j]'h1).toNat = x := ⟨_, rfl⟩
   obtain ⟨y, hy⟩ : ∃ y, (b[j]'h2).toNat = y := ⟨_, rfl⟩
   by_cases hxy : x = y
   ·
    have H2 : Hid (lx (a.toList.drop (j + 1)) (b.toList.drop (j + 1)) = below a b) := by
     have := lx_drop_eq p1 p2 (by rw [q1, q2, hx, hy, hxy])
     rw [HJ.out.2] at this
     exact this.symm
    have t0 : (((a[j]'h1).toNat : Int) == ((b[j]'h2).toNat : Int)) = true := by rw [hx, hy, hxy]; simp
    have t1 : (((a[j]'h1).toNat : Int) != ((b[j]'h2).toNat : Int)) = false := by rw [hx, hy, hxy]; simp
    have t2 : (a[j]'h1).toNat = (b[j]'h2).toNat := by rw [hx, hy, hxy]
    have hw : Hid (_) := HJ.out.1
    clear q1 q2 hx hy HJ
    go_wp2_with fail
    go_quiet (fail)
    go_wp2
    go_roundw
    case rel => exact ⟨j + 1, m + nq, by go_num, by omega, by omega, by rw [hw.out, World.drewN_drewN], H2.out⟩
    case measure => simp [intOf]; omega
   ·
    have hne : (a.toList[j]'p1).toNat ≠ (b.toList[j]'p2).toNat := by rw [q1, q2, hx, hy]; exact hxy
    have H2 : Hid (decide (((a[j]'h1).toNat : Int) < ((b[j]'h2).toNat : Int)) = below a b) := by
     have := lx_drop_lt p1 p2 hne
     rw [HJ.out.2, q1, q2] at this
     rw [Hid, this]
     simp
    have t0 : (((a[j]'h1).toNat : Int) == ((b[j]'h2).toNat : Int)) = false := by rw [hx, hy]; simp; omega
    have t1 : (((a[j]'h1).toNat : Int) != ((b[j]'h2).toNat : Int)) = true := by rw [hx, hy]; simp; omega
    have t2 : ¬ (a[j]'h1).toNat = (b[j]'h2).toNat := by rw [hx, hy]; exact hxy
    have hw : Hid (_) := HJ.out.1
    clear q1 q2 hx hy HJ hne
    go_wp2_with fail
    go_quiet (fail)
    go_wp2
    go_quiet (fail)
    go_wp2
    go_ret
    exact ⟨ret_bool (by simpa using H2.out), by rw [hw.out, World.drewN_drewN, World.drewN_drewN]; exact ⟨_, rfl⟩⟩
  ·
   have hw : Hid (_) := HJ.out.1
   have H2 : Hid (decide ((a.size : Int) < (b.size : Int)) = below a b) := by
    have := lx_drop_end (l := a.toList) (m := b.toList) (i := j) (by rw [toList_len, toList_len]; omega)
    rw [HJ.out.2, toList_len, toList_len] at this
    rw [Hid, this]
    simp only [decide_eq_decide]
    omega
   clear HJ
   by_cases h2 : j < a.size
   ·
    have i1 : (j : Int) < (a.size : Int) := by omega
    have i2 : ¬ (j : Int) < (b.size : Int) := by omega
    go_wp2_with fail
    go_ret
    exact ⟨ret_bool (by simpa using H2.out), by rw [hw.out]; exact ⟨_, rfl⟩⟩
   ·
    have i1 : ¬ (j : Int) < (a.size : Int) := by omega
    go_wp2_with fail
    go_ret
    exact ⟨ret_bool (by simpa using H2.out), by rw [hw.out]; exact ⟨_, rfl⟩⟩
def GivenP (M : List Int) (num : Int) : Prop := 2 ≤ num ∧ ∃ z, M[((num - 2) % 8).toNat]? = some z ∧ (num - 2) / 8 < z
theorem given_iff (M : List Int) {num : Int} {m : Nat} (hm : num - 2 = (m : Int)) : GivenP M num ↔ ∃ z, M[m % 8]? = some z ∧ ((m / 8 : Nat) : Int) < z := by
 unfold GivenP
 have e5 : ((num - 2) % 8).toNat = m % 8 := by omega
 have e6 : (num - 2) / 8 = ((m / 8 : Nat) : Int) := by omega
 rw [e5, e6]
 exact ⟨fun g => g.2, fun g => ⟨by omega, g⟩⟩
theorem r_given {w : World} {p : Pl} {S : Sta} (h : Sv w p S) (num : Int) (hn : num ≤ 9223372036854775807) (r : Bool) (hr : r = true ↔ GivenP S.made num) :
  Calls Tryz.prog 86 #[sval p S, .int .i64 num] w fun e w' => e = .returned (.bool r) ∧ Kept [] w w' := by
 have hb := h.boxed
 obtain ⟨W0, hW0⟩ : ∃ W0, W0 = w.alloc (sbox p S) := ⟨_, rfl⟩
 obtain ⟨X, hX⟩ : ∃ X, w.heap.size = X := ⟨_, rfl⟩
 rw [← hW0, hX] at hb
 have HW : Hid (w.alloc (sbox p S) = W0 ∧ w.heap.size = X) := ⟨hW0.symm, hX⟩
 have HB : Hid (_) := hb
 have hn1 := h.n1
 have hn2 := h.n2
 have hn3 := h.n3
 unfold lim at hn1 hn2 hn3
 clear hW0 hX hb h
 have HR : Hid (_) := hr
 clear hr
 have q0 := HB.out.x0
 have q1 := HB.out.x1
 have q2 := HB.out.x2
 by_cases h2 : num < 2
 ·
  have HF : Hid (false = r) := by
   show _ = _
   rcases hr2 : r with _ | _
   · rfl
   · have := (HR.out.1 hr2).1; omega
  go_enter Tryz.func86, Tryz.ntmps86
  go_upto_region 1 with fail
  rw [HW.out.1, HW.out.2]
  go_wp2_with fail
  go_ret
  exact ⟨ret_bool HF.out, HB.out.k⟩
 ·
  obtain ⟨m, hm⟩ : ∃ m : Nat, num - 2 = (m : Int) := ⟨(num - 2).toNat, by omega⟩
  have HG : Hid (_) := given_iff S.made hm
  have e1 : (num - 2) % 8 = ((m % 8 : Nat) : Int) := by omega
  have e2 : (num - 2) / 8 = ((m / 8 : Nat) : Int) := by omega
  have hc8 : m % 8 < 8 := by omega
  obtain ⟨c, hc⟩ : ∃ c, m % 8 = c := ⟨_, rfl⟩
  obtain ⟨d, hd⟩ : ∃ d, m / 8 = d := ⟨_, rfl⟩
  have HE : Hid (_ ∧ _) := ⟨e1, e2⟩
  rw [hc, hd] at HE
  rw [hc, hd] at HG
  rw [hc] at hc8
  clear e1 e2 hc hd hm
  by_cases hl : c < S.made.length
  ·
   obtain ⟨b, o, ha, h1⟩ := HB.out.sv.mad c hl
   rw [ha] at q2
   obtain ⟨z, hz⟩ : ∃ z, S.made[c] = z := ⟨_, rfl⟩
   rw [hz] at h1
   have HF : Hid (decide ((d : Int) < z) = r) := by
    show _ = _
    rcases hr2 : r with _ | _
    ·
     rw [decide_eq_false_iff_not]
     intro hlt
     have := HR.out.2 (HG.out.2 ⟨z, by rw [List.getElem?_eq_getElem hl, hz], hlt⟩)
     rw [hr2] at this
     cases this
    ·
     rw [decide_eq_true_eq]
     obtain ⟨z', g1, g2⟩ := HG.out.1 (HR.out.1 hr2)
     rw [List.getElem?_eq_getElem hl, hz] at g1
     have := Option.some.inj g1
     omega
   have i0 : (c : Int) < (S.made.length : Int) := by omega
   have i1 : (0 : Int) ≤ (c : Int) := by omega
   clear HG ha hz
   go_enter Tryz.func86, Tryz.ntmps86
   go_upto_region 1 with fail
   rw [HW.out.1, HW.out.2]
   go_upto_region 4 with fail
   rw [HE.out.1]
   go_wp2_with fail
   go_ret
   refine ⟨?_, HB.out.k⟩
   first
    | exact ret_bool HF.out
    | (rw [HE.out.2]; exact ret_bool HF.out)
    | (simp only [HE.out.2]; exact ret_bool HF.out)
  ·
   have HF : Hid (false = r) := by
    show _ = _
    rcases hr2 : r with _ | _
    · rfl
    ·
     obtain ⟨z', g1, g2⟩ := HG.out.1 (HR.out.1 hr2)
     rw [List.getElem?_eq_none (by omega)] at g1
     cases g1
   have i0 : ¬ (c : Int) < (S.made.length : Int) := by omega
   clear HG
   go_enter Tryz.func86, Tryz.ntmps86
   go_upto_region 1 with fail
   rw [HW.out.1, HW.out.2]
   go_upto_region 4 with fail
   rw [HE.out.1]
   go_wp2_with fail
   go_ret
   exact ⟨ret_bool HF.out, HB.out.k⟩
theorem fls {r : Bool} {P : Prop} (hr : r = true ↔ P) (h : P → False) : false = r := by
 rcases hr2 : r with _ | _
 · rfl
 · exact absurd (hr.1 hr2) h
theorem tru {r : Bool} {P : Prop} (hr : r = true ↔ P) (h : P) : true = r := (hr.2 h).symm
def OkD (S : Sta) (i : Nat) (d : Ds) : Prop :=
 0 ≤ d.1 ∧ d.1 < (S.made.length : Int) ∧ 0 ≤ d.2.1 ∧ d.2.1 < 4 ∧ (∃ k x, atR S.ino d.2.2 = some k ∧ S.ino[k]? = some x ∧ x.dir = false) ∧ ∀ o, 0 < i → S.opn[i - 1]? = some o → o.1 < d.1 ∨ (o.1 = d.1 ∧ o.2.1 < d.2.1)
def OpenP (S : Sta) : Prop := ∀ i d, S.opn[i]? = some d → OkD S i d
theorem r_open {w : World} {p : Pl} {S : Sta} (h : Sv w p S) (r : Bool) (hr : r = true ↔ OpenP S) :
  Calls Tryz.prog 84 #[sval p S] w fun e w' => e = .returned (.bool r) ∧ Kept [] w w' := by
 have hb := h.boxed
 obtain ⟨W0, hW0⟩ : ∃ W0, W0 = w.alloc (sbox p S) := ⟨_, rfl⟩
 obtain ⟨X, hX⟩ : ∃ X, w.heap.size = X := ⟨_, rfl⟩
 rw [← hW0, hX] at hb
 have HW : Hid (w.alloc (sbox p S) = W0 ∧ w.heap.size = X) := ⟨hW0.symm, hX⟩
 have HB : Hid (_) := hb
 have hn1 := h.n1
 have hn2 := h.n2
 have hn3 := h.n3
 unfold lim at hn1 hn2 hn3
 clear hW0 hX hb h
 have HR : Hid (_) := hr
 clear hr
 go_enter Tryz.func84, Tryz.ntmps84
 go_wp2_with fail
 rw [HW.out.1, HW.out.2]
 clear HW
 go_loopw [3] (fun i wr => ∃ n : Nat, i = .int .i64 (n : Int) ∧ n ≤ S.opn.length ∧ Hid (Bx w wr X p S ∧ ∀ j d, j < n → S.opn[j]? = some d → OkD S j d)) (fun i _ => (S.opn.length - intOf i).toNat)
 case atStart => exact ⟨0, rfl, by omega, HB.out, fun j d hj => by omega⟩
 case round =>
  clear HB
  obtain ⟨n, rfl, hn, HJ⟩ := hrel
  have x0 := HJ.out.1.x0
  have x1 := HJ.out.1.x1
  have x2 := HJ.out.1.x2
  by_cases hlt : n < S.opn.length
  ·
   have i0 : (0 : Int) ≤ (n : Int) := by omega
   have i1 : (n : Int) < (S.opn.length : Int) := by omega
   obtain ⟨b, o, ha, h0, h1, h2⟩ := HJ.out.1.sv.des n hlt
   obtain ⟨D, hD0⟩ : ∃ D, S.opn[n] = D := ⟨_, rfl⟩
   have HD : Hid (S.opn[n]? = some D) := by show _ = _; rw [List.getElem?_eq_getElem hlt, hD0]
   rw [hD0] at h0 h1 h2
   rw [ha] at x1
   clear hD0
   obtain ⟨d0, d1, d2⟩ := D
   simp only at h0 h1 h2
   have HB1 : Hid (Bx w (wr.alloc (.cells #[.int .i64 d0, .int .i64 d1, .int .i64 d2] 83 (0, 0))) X p S) := HJ.out.1.kept ((Kept.refl [] wr).alloc _)
   have y0 := cell_new wr #[.int .i64 d0, .int .i64 d1, .int .i64 d2] 83 0
   have y1 := cell_new wr #[.int .i64 d0, .int .i64 d1, .int .i64 d2] 83 1
   have y2 := cell_new wr #[.int .i64 d0, .int .i64 d1, .int .i64 d2] 83 2
   obtain ⟨W1, hW1⟩ : ∃ W1, W1 = wr.alloc (.cells #[.int .i64 d0, .int .i64 d1, .int .i64 d2] 83 (0, 0)) := ⟨_, rfl⟩
   obtain ⟨Y, hY⟩ : ∃ Y, wr.heap.size = Y := ⟨_, rfl⟩
   rw [← hW1] at HB1 y0 y1 y2
   rw [hY] at y0 y1 y2
   have HW1 : Hid (_ ∧ _) := ⟨hW1.symm, hY⟩
   have HL : Hid (∀ j d, j < n → S.opn[j]? = some d → OkD S j d) := HJ.out.2
   clear hW1 hY HJ
   go_upto_region 5 with fail
   rw [HW1.out.1, HW1.out.2]
   clear HW1 x0 x1 x2 h0 h1 h2 ha
   have x0 := HB1.out.x0
   have x1 := HB1.out.x1
   have x2 := HB1.out.x2
   simp at y0 y1 y2
   go_wp2_with fail
   refine (r_at HB1.out.sv d2).mono ?_
   rintro e w2 ⟨rfl, k2⟩
   have z0 := k2.cell y0 (by simp)
   have z1 := k2.cell y1 (by simp)
   have z2 := k2.cell y2 (by simp)
   have HB2 : Hid (_) := HB1.out.kept k2
   clear k2 y0 y1 y2 x0 x1 x2 HB1
   have x0 := HB2.out.x0
   have x1 := HB2.out.x1
   have x2 := HB2.out.x2
   by_cases q0 : d0 < 0
   ·
    have e0 : decide (d0 < 0) = true := by simp only [decide_eq_true_eq]; exact q0
    as_aux_lemma =>
     have HF : Hid (false = r) := fls HR.out fun g => by
      have := (g n _ HD.out).1; omega
     clear HR HL
     go_wp2_with fail
     go_ret
     exact ⟨ret_bool HF.out, HB2.out.k⟩
   ·
    have e0 : decide (d0 < 0) = false := by simp only [decide_eq_false_iff_not]; exact q0
    by_cases q1 : (S.made.length : Int) ≤ d0
    ·
     have e1 : decide ((S.made.length : Int) ≤ d0) = true := by simp only [decide_eq_true_eq]; exact q1
     as_aux_lemma =>
      have HF : Hid (false = r) := fls HR.out fun g => by
       have := (g n _ HD.out).2.1; omega
      clear HR HL
      go_wp2_with fail
      go_ret
      exact ⟨ret_bool HF.out, HB2.out.k⟩
    ·
     have e1 : decide ((S.made.length : Int) ≤ d0) = false := by simp only [decide_eq_false_iff_not]; exact q1
     by_cases q2 : d1 < 0
     ·
      have e2 : decide (d1 < 0) = true := by simp only [decide_eq_true_eq]; exact q2
      as_aux_lemma =>
       have HF : Hid (false = r) := fls HR.out fun g => by
        have := (g n _ HD.out).2.2.1; simp only at this; omega
       clear HR HL
       go_wp2_with fail
       go_ret
       exact ⟨ret_bool HF.out, HB2.out.k⟩
     ·
      have e2 : decide (d1 < 0) = false := by simp only [decide_eq_false_iff_not]; exact q2
      by_cases q3 : 4 ≤ d1
      ·
       have e3 : decide (4 ≤ d1) = true := by simp only [decide_eq_true_eq]; exact q3
       as_aux_lemma =>
        have HF : Hid (false = r) := fls HR.out fun g => by
         have := (g n _ HD.out).2.2.2.1; simp only at this; omega
        clear HR HL
        go_wp2_with fail
        go_ret
        exact ⟨ret_bool HF.out, HB2.out.k⟩
      ·
       have e3 : decide (4 ≤ d1) = false := by simp only [decide_eq_false_iff_not]; exact q3
       rcases hat : atR S.ino d2 with _ | m
       ·
        unfold ixI
        as_aux_lemma =>
         have HF : Hid (false = r) := fls HR.out fun g => by
          obtain ⟨k, x, g1, -⟩ := (g n _ HD.out).2.2.2.2.1; rw [hat] at g1; cases g1
         clear HR HL
         go_wp2_with fail
         go_ret
         exact ⟨ret_bool HF.out, HB2.out.k⟩
       ·
        obtain ⟨hm, -⟩ := at_get hat
        obtain ⟨b, o, ae, ce, ha, g0, g1, -⟩ := HB2.out.sv.ino m hm
        rw [ha] at x0
        have hmx : S.ino[m]? = some S.ino[m] := List.getElem?_eq_getElem hm
        have m0 : (0 : Int) ≤ (m : Int) := by omega
        have m1 : (m : Int) < (S.ino.length : Int) := by omega
        have m2 : ¬ (m : Int) < 0 := by omega
        have m3 : decide ((m : Int) < 0) = false := by simp
        unfold ixI
        rcases hdir : (S.ino[m]).dir with _ | _
        ·
         rw [hdir] at g1
         have HC2 : Hid (∃ k x, atR S.ino d2 = some k ∧ S.ino[k]? = some x ∧ x.dir = false) := ⟨m, _, hat, hmx, hdir⟩
         clear hat hmx hdir g0 ha
         by_cases hn0 : n = 0
         ·
          as_aux_lemma =>
           subst hn0
           have HN : Hid (∀ j d, j < 0 + 1 → S.opn[j]? = some d → OkD S j d) := fun j d hj hd => by
            have e : j = 0 := by omega
            subst e
            rw [HD.out] at hd
            have hd2 := Option.some.inj hd
            subst hd2
            exact ⟨by simp only; omega, by simp only; omega, by simp only; omega, by simp only; omega, HC2.out, fun o h => by omega⟩
           clear HR HL HC2
           go_wp2_with fail
           go_roundw
           case rel => exact ⟨0 + 1, by go_num, by omega, HB2.out, HN.out⟩
           case measure => simp [intOf]; omega
         ·
          have hpos : (0 : Int) < (n : Int) := by omega
          have hlt1 : n - 1 < S.opn.length := by omega
          obtain ⟨b', o', ha', u0, u1, u2⟩ := HB2.out.sv.des (n - 1) hlt1
          obtain ⟨O, hO0⟩ : ∃ O, S.opn[n - 1] = O := ⟨_, rfl⟩
          have HO : Hid (S.opn[n - 1]? = some O) := by show _ = _; rw [List.getElem?_eq_getElem hlt1, hO0]
          rw [hO0] at u0 u1 u2
          rw [ha'] at x1
          obtain ⟨o0, o1, o2⟩ := O
          simp only at u0 u1 u2
          have v0 : (0 : Int) ≤ (n : Int) - 1 := by omega
          have v1 : (n : Int) - 1 < (S.opn.length : Int) := by omega
          clear hO0 ha' hlt1
          have HB3 : Hid (Bx w (w2.alloc (.cells #[.int .i64 o0, .int .i64 o1, .int .i64 o2] 83 (0, 0))) X p S) := HB2.out.kept ((Kept.refl [] w2).alloc _)
          have y0 := cell_new w2 #[.int .i64 o0, .int .i64 o1, .int .i64 o2] 83 0
          have y1 := cell_new w2 #[.int .i64 o0, .int .i64 o1, .int .i64 o2] 83 1
          have t0 := ((Kept.refl [] w2).alloc (.cells #[.int .i64 o0, .int .i64 o1, .int .i64 o2] 83 (0, 0))).cell z0 (by simp)
          have t1 := ((Kept.refl [] w2).alloc (.cells #[.int .i64 o0, .int .i64 o1, .int .i64 o2] 83 (0, 0))).cell z1 (by simp)
          obtain ⟨W3, hW3⟩ : ∃ W3, W3 = w2.alloc (.cells #[.int .i64 o0, .int .i64 o1, .int .i64 o2] 83 (0, 0)) := ⟨_, rfl⟩
          obtain ⟨Z, hZ⟩ : ∃ Z, w2.heap.size = Z := ⟨_, rfl⟩
          rw [← hW3] at HB3 y0 y1 t0 t1
          rw [hZ] at y0 y1
          have HW3 : Hid (_ ∧ _) := ⟨hW3.symm, hZ⟩
          clear hW3 hZ
          go_upto_region 10 with fail
          rw [HW3.out.1, HW3.out.2]
          clear HW3 HB2 x0 x1 x2 z0 z1 z2 u0 u1 u2 g1
          simp at y0 y1
          by_cases p0 : d0 < o0
          ·
           as_aux_lemma =>
            have HF : Hid (false = r) := fls HR.out fun g => by
             have := (g n _ HD.out).2.2.2.2.2 _ (by omega) HO.out
             simp only at this
             omega
            clear HR HL
            go_wp2_with fail
            go_ret
            exact ⟨ret_bool HF.out, HB3.out.k⟩
          ·
           have p0' : decide (d0 < o0) = false := by simp only [decide_eq_false_iff_not]; exact p0
           by_cases p1 : o0 = d0
           ·
            by_cases p2 : d1 ≤ o1
            ·
             as_aux_lemma =>
              have HF : Hid (false = r) := fls HR.out fun g => by
               have := (g n _ HD.out).2.2.2.2.2 _ (by omega) HO.out
               simp only at this
               omega
              clear HR HL
              subst p1
              go_wp2_with fail
              go_ret
              exact ⟨ret_bool HF.out, HB3.out.k⟩
            ·
             as_aux_lemma =>
              have HN : Hid (∀ j d, j < n + 1 → S.opn[j]? = some d → OkD S j d) := fun j d hj hd => by
               by_cases e : j = n
               ·
                subst e
                rw [HD.out] at hd
                have hd2 := Option.some.inj hd
                subst hd2
                refine ⟨by simp only; omega, by simp only; omega, by simp only; omega, by simp only; omega, HC2.out, fun o h ho => ?_⟩
                rw [HO.out] at ho
                have ho2 := Option.some.inj ho
                subst ho2
                simp only
                omega
               · exact HL.out j d (by omega) hd
              have p2' : decide (d1 ≤ o1) = false := by simp only [decide_eq_false_iff_not]; exact p2
              clear HR HL HC2
              subst p1
              go_wp2_with fail
              go_roundw
              case rel => exact ⟨n + 1, by go_num, by omega, HB3.out, HN.out⟩
              case measure => simp [intOf]; omega
           ·
            as_aux_lemma =>
             have HN : Hid (∀ j d, j < n + 1 → S.opn[j]? = some d → OkD S j d) := fun j d hj hd => by
              by_cases e : j = n
              ·
               subst e
               rw [HD.out] at hd
               have hd2 := Option.some.inj hd
               subst hd2
               refine ⟨by simp only; omega, by simp only; omega, by simp only; omega, by simp only; omega, HC2.out, fun o h ho => ?_⟩
               rw [HO.out] at ho
               have ho2 := Option.some.inj ho
               subst ho2
               simp only
               omega
              · exact HL.out j d (by omega) hd
             have p1' : (o0 == d0) = false := by simpa using p1
             clear HR HL HC2
             go_wp2_with fail
             go_roundw
             case rel => exact ⟨n + 1, by go_num, by omega, HB3.out, HN.out⟩
             case measure => simp [intOf]; omega
        ·
         rw [hdir] at g1
         as_aux_lemma =>
          have HF : Hid (false = r) := fls HR.out fun g => by
           obtain ⟨k, x, g1, g2, g3⟩ := (g n _ HD.out).2.2.2.2.1; rw [hat] at g1; have := Option.some.inj g1; subst this; rw [hmx] at g2; have := Option.some.inj g2; subst this; rw [hdir] at g3; cases g3
          clear hat hmx hdir
          clear HR HL
          go_wp2_with fail
          go_ret
          exact ⟨ret_bool HF.out, HB2.out.k⟩
  ·
   have i1 : ¬ (n : Int) < (S.opn.length : Int) := by omega
   have HF : Hid (true = r) := tru HR.out fun i d hd => HJ.out.2 i d (by
    rcases Nat.lt_or_ge i n with h | h
    · exact h
    · rw [List.getElem?_eq_none (by omega)] at hd; cases hd) hd
   go_wp2_with fail
   go_ret
   exact ⟨ret_bool HF.out, HJ.out.1.k⟩
inductive Reach (S : Sta) : Nat → Prop
 | root {k : Nat} : atR S.ino 1 = some k → Reach S k
 | step {j k : Nat} {x : Ino} {e : En} : Reach S j → S.ino[j]? = some x → x.dir = true → e ∈ x.ents → atR S.ino e.2 = some k → Reach S k
def el (S : Sta) (j : Nat) : Nat := ((S.ino[j]?).map fun x => x.ents.length).getD 0
def rem (S : Sta) (F : Nat → Bool) (n : Nat) : Nat := ((List.range n).map fun j => if F j then 0 else el S j).sum
def updB (F : Nat → Bool) (k : Nat) : Nat → Bool := fun j => if j = k then true else F j
theorem rem_mark (S : Sta) (F : Nat → Bool) {k : Nat} (hF : F k = false) : ∀ n, k < n → rem S (updB F k) n + el S k = rem S F n := by
 have same : ∀ n, n ≤ k → rem S (updB F k) n = rem S F n := by
  intro n hn
  unfold rem
  congr 1
  apply List.map_congr_left
  intro j hj
  rw [List.mem_range] at hj
  have e2 : updB F k j = F j := by unfold updB; rw [if_neg (by omega)]
  rw [e2]
 intro n
 induction n with
 | zero => intro h; omega
 | succ n ih =>
  intro h
  have e1 : ∀ G : Nat → Bool, rem S G (n + 1) = rem S G n + if G n then 0 else el S n := by
   intro G
   unfold rem
   rw [List.range_succ, List.map_append, List.sum_append]
   simp
  rw [e1, e1]
  by_cases e : k = n
  ·
   subst e
   rw [same k (Nat.le_refl _), hF]
   unfold updB
   simp
  ·
   have := ih (by omega)
   have e2 : updB F k n = F n := by unfold updB; rw [if_neg (by omega)]
   rw [e2]
   omega
def tot (S : Sta) : Nat := rem S (fun _ => false) S.ino.length
structure Jr (S : Sta) (F : Nat → Bool) (xs : List Int) : Prop where
 s1 : ∀ k, F k = true → Reach S k
 s2 : ∀ t ∈ xs, ∀ k, atR S.ino t = some k → Reach S k
 c0 : 1 ∈ xs ∨ ∀ k, atR S.ino 1 = some k → F k = true
 cl : ∀ j x, F j = true → S.ino[j]? = some x → x.dir = true → ∀ e ∈ x.ents, e.2 ∈ xs ∨ ∀ k, atR S.ino e.2 = some k → F k = true
 cnt : xs.length + rem S F S.ino.length ≤ 1 + tot S
theorem Jr.start (S : Sta) : Jr S (fun _ => false) [1] where
 s1 := fun k h => by cases h
 s2 := fun t ht k hk => by rw [List.mem_singleton] at ht; subst ht; exact .root hk
 c0 := Or.inl (by simp)
 cl := fun j x h => by cases h
 cnt := by simp [tot]
theorem mem_snoc {ys : List Int} {t a : Int} (h : a ∈ ys ++ [t]) : a ∈ ys ∨ a = t := by simpa using h
theorem Jr.skip {S : Sta} {F : Nat → Bool} {ys : List Int} {t : Int} (h : Jr S F (ys ++ [t])) (ht : ∀ k, atR S.ino t = some k → F k = true) : Jr S F ys where
 s1 := h.s1
 s2 := fun a ha => h.s2 a (by simp [ha])
 c0 := by
  rcases h.c0 with h1 | h1
  ·
   rcases mem_snoc h1 with h2 | h2
   · exact Or.inl h2
   · exact Or.inr (by rw [h2]; exact ht)
  · exact Or.inr h1
 cl := fun j x h1 h2 h3 e he => by
  rcases h.cl j x h1 h2 h3 e he with h4 | h4
  ·
   rcases mem_snoc h4 with h5 | h5
   · exact Or.inl h5
   · exact Or.inr (by rw [h5]; exact ht)
  · exact Or.inr h4
 cnt := by have := h.cnt; rw [List.length_append] at this; omega
def outs (x : Ino) : List Int := if x.dir then x.ents.map (·.2) else []
theorem Jr.mark {S : Sta} {F : Nat → Bool} {ys : List Int} {t : Int} {k : Nat} {x : Ino} (h : Jr S F (ys ++ [t])) (ht : atR S.ino t = some k) (hF : F k = false) (hx : S.ino[k]? = some x) : Jr S (updB F k) (ys ++ outs x) := by
 have hk : Reach S k := h.s2 t (by simp) k ht
 have up : ∀ j, F j = true → updB F k j = true := fun j hj => by unfold updB; split <;> simp [hj]
 have uk : updB F k k = true := by unfold updB; rw [if_pos rfl]
 have att : ∀ m, atR S.ino t = some m → updB F k m = true := fun m hm => by rw [ht] at hm; have := Option.some.inj hm; subst this; exact uk
 refine ⟨fun j hj => ?_, fun a ha m hm => ?_, ?_, fun j y h1 h2 h3 e he => ?_, ?_⟩
 ·
  unfold updB at hj
  by_cases e : j = k
  · rw [e]; exact hk
  · rw [if_neg e] at hj; exact h.s1 j hj
 ·
  rcases List.mem_append.1 ha with h1 | h1
  · exact h.s2 a (by simp [h1]) m hm
  ·
   unfold outs at h1
   by_cases hd : x.dir = true
   ·
    rw [if_pos hd] at h1
    obtain ⟨e, he, rfl⟩ := List.mem_map.1 h1
    exact .step hk hx hd he hm
   · rw [if_neg hd] at h1; cases h1
 ·
  rcases h.c0 with h1 | h1
  ·
   rcases mem_snoc h1 with h2 | h2
   · exact Or.inl (by simp [h2])
   · exact Or.inr (by rw [h2]; exact att)
  · exact Or.inr fun m hm => up m (h1 m hm)
 ·
  by_cases ej : j = k
  ·
   subst ej
   rw [hx] at h2
   have := Option.some.inj h2
   subst this
   left
   unfold outs
   rw [if_pos h3]
   exact List.mem_append_right _ (List.mem_map.2 ⟨e, he, rfl⟩)
  ·
   have hj : F j = true := by unfold updB at h1; rw [if_neg ej] at h1; exact h1
   rcases h.cl j y hj h2 h3 e he with h4 | h4
   ·
    rcases mem_snoc h4 with h5 | h5
    · exact Or.inl (by simp [h5])
    · exact Or.inr (by rw [h5]; exact att)
   · exact Or.inr fun m hm => up m (h4 m hm)
 ·
  have h1 := h.cnt
  obtain ⟨hkn, -⟩ := at_get ht
  have h2 := rem_mark S F hF S.ino.length hkn
  have h3 : el S k = x.ents.length := by unfold el; rw [hx]; rfl
  have h4 : (outs x).length ≤ x.ents.length := by unfold outs; split <;> simp
  rw [List.length_append] at h1 ⊢
  simp only [List.length_cons, List.length_nil] at h1
  omega
theorem Jr.all {S : Sta} {F : Nat → Bool} (h : Jr S F []) (k : Nat) : F k = true ↔ Reach S k := by
 refine ⟨h.s1 k, fun hr => ?_⟩
 induction hr with
 | root hk =>
  rcases h.c0 with h1 | h1
  · cases h1
  · exact h1 _ hk
 | step h1 h2 h3 h4 h5 ih =>
  rcases h.cl _ _ ih h2 h3 _ h4 with h6 | h6
  · cases h6
  · exact h6 _ h5
theorem info4 : (Tryz.prog.info? 4).map (fun i => (i.zero, i.size, i.bytes)) = some (some (.bool false), 1, 1) := by kernel_rfl
theorem make_bools (n : Nat) (h : n ≤ 65536) (w : World) : (Instr.makeSlice 122 (.int .i64 (n : Int)) (.int .i64 (n : Int))).run Tryz.prog w = .ok (.slice (some ⟨w.heap.size, 0, none⟩) n n) (w.alloc (.cells (rowF n fun _ => .bool false) 4)) := by
 obtain ⟨i0, hi, hz0, hz1, hz2⟩ := info_parts info4
 have := run_make (P := Tryz.prog) w 122 4 i0 (.bool false) Tryz.underlying122 hi hz0 .i64 .i64 n n (by omega) (by omega) (by rw [hz2]; omega) (by omega)
 rw [this]
 have e : madeCells (Value.bool false).cells ((n : Int).toNat * i0.size) = rowF n fun _ => .bool false := by
  apply Array.ext'
  rw [hz1]
  unfold rowF
  simp [toList_madeCells_one, Value.cells, List.map_const']
 rw [e]
 simp
structure Rk (w0 w : World) (X B : Nat) (p : Pl) (S : Sta) (F : Nat → Bool) (u : Value) (xs : List Int) : Prop where
 k : Kept [] w0 w
 hx : w.heap[X]? = some (sbox p S)
 hb : w.heap[B]? = some (.cells (rowF S.ino.length fun j => .bool (F j)) 4 (0, 0))
 ow : Own w w0.heap.size u xs
 ux : u.ownBlock ≠ some X
 ub : u.ownBlock ≠ some B
 lo : w0.heap.size ≤ B
 xb : X ≠ B
theorem Rk.kept {w0 w : World} {X B : Nat} {p : Pl} {S : Sta} {F : Nat → Bool} {u : Value} {xs : List Int} {w' : World} (h : Rk w0 w X B p S F u xs) (k : Kept [] w w') : Rk w0 w' X B p S F u xs :=
 ⟨h.k.trans k (by simp), (k.block X (lt_of_heap h.hx) (by simp)).trans h.hx, (k.block B (lt_of_heap h.hb) (by simp)).trans h.hb, h.ow.kept k, h.ux, h.ub, h.lo, h.xb⟩
theorem Rk.mark {w0 w : World} {X B : Nat} {p : Pl} {S : Sta} {F : Nat → Bool} {u : Value} {xs : List Int} (h : Rk w0 w X B p S F u xs) (k : Nat) : Rk w0 (w.setCell ⟨B, k, none⟩ (.bool true)) X B p S (updB F k) u xs := by
 refine ⟨h.k.setCell (Or.inr h.lo) _, (block_other h.xb).trans h.hx, ?_, h.ow.same fun g hg => block_other (fun e => h.ub (by rw [hg, e])), h.ux, h.ub, h.lo, h.xb⟩
 rw [block_set h.hb k (.bool true), rowF_set]
 congr 3
 funext j
 unfold updV updB
 split <;> rfl
theorem Rk.append {w0 w : World} {X B : Nat} {p : Pl} {S : Sta} {F : Nat → Bool} {u : Value} {xs : List Int} (h : Rk w0 w X B p S F u xs) (z : Int) (hn : xs.length + 1 ≤ 17592186044416) (ty : TypeId) :
  ∃ u' w', (Builtin.append_ #[25, 25] ty #[u, .slice (some ⟨w.heap.size, 0, none⟩) 1 1]).run Tryz.prog (w.alloc (.cells #[.int .i64 z] 3)) = .ok u' w' ∧ Rk w0 w' X B p S F u' (xs ++ [z]) := by
 have hka : Kept [] w (w.alloc (.cells #[.int .i64 z] 3)) := (Kept.refl [] w).alloc _
 have h1 := h.kept hka
 obtain ⟨u', w', hr, h2, h3⟩ := append_row h1.ow (Nat.le_trans h.k.size hka.size) w.heap.size 0 1 1 [z] rfl (fun i hi => by
  have : i = 0 := by simp at hi; exact hi
  subst this
  exact (cell_new w #[.int .i64 z] 3 0).trans rfl) hn ty
 have hob : ∀ g, u.ownBlock = some g → w0.heap.size ≤ g := fun g hg => (h.ow.block g hg).1
 have hkeep : ∀ g, g < (w.alloc (.cells #[.int .i64 z] 3)).heap.size → u.ownBlock ≠ some g → w'.heap[g]? = (w.alloc (.cells #[.int .i64 z] 3)).heap[g]? := fun g hg hne => (((Kept.refl u.ownBlock.toList (w.alloc (.cells #[.int .i64 z] 3))).grown h3.grown fun x hx => Or.inl (by rw [hx]; simp)).block g hg (by simpa using hne))
 refine ⟨u', w', hr, h1.k.grown h3.grown fun g hg => Or.inr (hob g hg), (hkeep X (lt_of_heap h1.hx) h.ux).trans h1.hx, (hkeep B (lt_of_heap h1.hb) h.ub).trans h1.hb, h2, fun e => ?_, fun e => ?_, h.lo, h.xb⟩
 ·
  rcases h3.at_ X e with h4 | h4
  · exact h.ux h4
  · have := lt_of_heap h1.hx; omega
 ·
  rcases h3.at_ B e with h4 | h4
  · exact h.ub h4
  · have := lt_of_heap h1.hb; omega
theorem Own.pop {w : World} {H : Nat} {g n cap : Nat} {ys : List Int} {t : Int} (h : Own w H (.slice (some ⟨g, 0, none⟩) n cap) (ys ++ [t])) : Own w H (.slice (some ⟨g, 0, none⟩) ys.length cap) ys := by
 rcases h.form with ⟨h1, -⟩ | ⟨g', c', cur, h1, h2, h3, h4, h5, h6, h7⟩
 · cases h1
 ·
  simp only [Value.slice.injEq, Option.some.injEq, Addr.mk.injEq, and_true] at h1
  obtain ⟨rfl, rfl, rfl⟩ := h1
  rw [List.length_append] at h4 h7
  simp only [List.length_cons, List.length_nil] at h4 h7
  refine ⟨by simp, Or.inr ⟨g, cap, cur, rfl, h2, h3, by omega, h5, by simpa using h6, ?_⟩⟩
  have h8 : (cur.toList.take (ys.length + 1)).take ys.length = (List.map (Value.int .i64) (ys ++ [t])).take ys.length := by rw [h7]
  rw [List.take_take, Nat.min_eq_left (by omega)] at h8
  simpa using h8
def remM (S : Sta) (B : Nat) (w : World) : Nat := ((List.range S.ino.length).map fun j => match w.cell? ⟨B, j, none⟩ with
 | some (.bool true) => 0
 | _ => el S j).sum
theorem remM_eq {S : Sta} {B : Nat} {w : World} {F : Nat → Bool} (h : w.heap[B]? = some (.cells (rowF S.ino.length fun j => .bool (F j)) 4 (0, 0))) : remM S B w = rem S F S.ino.length := by
 unfold remM rem
 congr 1
 apply List.map_congr_left
 intro j hj
 rw [List.mem_range] at hj
 rw [cellB h, rowF_get _ hj]
 rcases F j with _ | _ <;> rfl
def lenOf : Value → Nat
 | .slice _ n _ => n
 | _ => 0
end Go.Proofs.YtffncojcnbhblaaGreatDoor
