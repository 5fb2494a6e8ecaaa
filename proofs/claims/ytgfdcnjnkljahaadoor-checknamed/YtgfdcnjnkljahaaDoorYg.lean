/-
  What is found from the root on: the walk.
-/
import Derived.Test.YtgfdcnjnkljahaaDoorYe
namespace Go.Proofs.YtgfdcnjnkljahaaDoor
open Go.RowKit Go.Lib Go.Maps
set_option linter.unusedVariables false

/-- What is left to find, read off memory. -/
def leftAt (w : World) (bf Q : Nat) : Nat :=
  (match w.heap[bf]? with
  | some (.cells cs _ _) => 2 * cs.toList.countP (fun v => match v with | .bool b => !b | _ => false)
  | _ => 0) + (match w.cell? ⟨Q, 0, none⟩ with
  | some (.slice _ n _) => n
  | _ => 0)

theorem count_bcs (l : List Bool) : (bcs l).toList.countP (fun v => match v with | .bool b => !b | _ => false) = l.countP (fun b => !b) := by
  unfold bcs
  simp only [List.countP_map]
  rfl

theorem Ws.leftAt {U w : World} {h : Wh} {p : Pl} {S : Sta} {n : Nat} {g1 g2 g3 : Int → Option Int} {P Q H : Nat} {v : Value} {s : List Bool × List Nat} (a : Ws U w h p S n g1 g2 g3 P Q H v s) : leftAt w h.bf Q = left s := by
  obtain ⟨b, c, rfl, -⟩ := a.val
  unfold Go.Proofs.YtgfdcnjnkljahaaDoor.leftAt left
  rw [a.lk.fnd, cellB a.p2]
  dsimp only
  rw [count_bcs]
  rfl

theorem Ws.pop {U w : World} {h : Wh} {p : Pl} {S : Sta} {n : Nat} {g1 g2 g3 : Int → Option Int} {P Q H g m c : Nat} {s : List Bool × List Nat} (a : Ws U w h p S n g1 g2 g3 P Q H (.slice (some ⟨g, 0, none⟩) m c) s) (k : Nat) (hk : k ≤ s.2.length) :
    Ws U (w.setCell ⟨Q, 0, none⟩ (.slice (some ⟨g, 0, none⟩) k c)) h p S n g1 g2 g3 P Q H (.slice (some ⟨g, 0, none⟩) k c) (s.1, s.2.take k) := by
  have hlt := a.lt
  have hne := a.ne
  have huq := a.uq
  have hgH : H ≤ g := (World.ownsRow.lt a.row g rfl).1
  have k5 : Kept [Q] w (w.setCell ⟨Q, 0, none⟩ (.slice (some ⟨g, 0, none⟩) k c)) := (Kept.refl _ _).setCell (Or.inl (by simp)) _
  refine ⟨a.lk.others k5 (fun x hx => by simp at hx; subst hx; exact ⟨huq.1, hne.2.1, hne.2.2.1, hne.2.2.2.1, hne.2.2.2.2.1, hne.2.2.2.2.2.1⟩), ?_, ?_, ?_, hlt, hne, huq, a.len, ?_, fun i hi => a.ok i (List.mem_of_mem_take hi)⟩
  · rw [k5.block P (lt_of_heap a.p1) (by simp; exact hne.1)]; exact a.p1
  · rw [Go.heap_setCell_same w Q 0 _ _ _ a.p2]; rfl
  · refine row_same (w := w) ?_ (fun x hx => k5.block x (by have := (World.ownsRow.lt a.row g rfl).2; simp [Value.ownBlock] at hx; omega) (by simp [Value.ownBlock] at hx; simp; omega))
    obtain ⟨h1, h2⟩ := a.row
    have hlen : (s.2.take k).length = k := by simp; omega
    dsimp only
    rw [hlen, List.map_take]
    rcases h2 with ⟨h3, h4⟩ | ⟨g', cap, cur, h3, h4, h5, h6, h7, h8, h9⟩
    · cases h3
    · injection h3 with e1 e2 e3
      injection e1 with e1
      injection e1 with e1
      subst e1 e3
      refine ⟨by rw [List.length_take]; simp; omega, Or.inr ⟨g, c, cur, rfl, h4, h5, by omega, h7, h8, ?_⟩⟩
      rw [← h9, List.take_take]
      congr 1
      omega
  · have := a.lf
    unfold left at this ⊢
    simp only [List.length_take]
    omega

theorem findE_len (g : Int → Option Int) (E : List En) : ∀ s, (findE g E s).1.length = s.1.length := by
  induction E with
  | nil => intro s; rfl
  | cons e E ih =>
    intro s
    rw [findE, ih]
    unfold finds
    split
    · split
      · simp
      · rfl
    · rfl

set_option maxRecDepth 100000 in
set_option maxHeartbeats 16000000 in
theorem t_walk {U w : World} {h : Wh} {p : Pl} {S : Sta} {n : Nat} {g1 g2 g3 : Int → Option Int} {fd : List Bool} (a : Lk U w h p S n g1 g2 g3 fd) (hv : Sv U p S) (hf : Few S) (hg : Gok g1 S.ino.length) (hfl : fd.length = S.ino.length) :
    Calls Tryd.prog 28 #[.pointer (some ⟨h.X, 0, none⟩)] w fun e w' => e = .returned (.tuple #[]) ∧ Lk U w' h p S n g1 g2 g3 (walkF 301 S.ino g1 (finds g1 1 (fd, []))) := by
  obtain ⟨W, P, HW, kw, hP, hQ⟩ := two_boxes w #[.pointer (some ⟨h.X, 0, none⟩)] #[.slice none 0 0] 51 25
  have eP : w.heap.size = P := HW.out.2
  have hsz : W.heap.size = P + 2 := by rw [← HW.out.1, ← eP]; simp
  have hx := lt_of_heap a.blk
  have hb1 := a.m1.block
  have hb2 := a.m2.block
  have hb3 := a.m3.block
  have hbf := lt_of_heap a.fnd
  have hus := a.kept.size
  have hWs : Ws U W h p S n g1 g2 g3 P (P + 1) (P + 2) (.slice none 0 0) (fd, []) :=
    ⟨a.same kw, hP, hQ, World.ownsRow_nil _ _ _ _, by omega, by omega, by omega, hfl, by
      have := List.countP_le_length (l := fd) (p := fun b => !b)
      have := hf.n1
      unfold left; simp only [List.length_nil]; omega, fun i hi => by simp at hi⟩
  have HWs : Hid (_) := hWs
  have HG : Hid (Gok g1 S.ino.length) := hg
  have HV : Hid (Sv U p S) := hv
  have HF : Hid (Few S) := hf
  have HH : Hid (P + 2 ≤ W.heap.size) := by show _ ≤ _; omega
  clear hx hb1 hb2 hb3 hbf hus hP hQ a hWs kw hsz eP hg hv hf
  obtain ⟨T, hT⟩ : ∃ T, T = walkF 301 S.ino g1 (finds g1 1 (fd, [])) := ⟨_, rfl⟩
  rw [← hT]
  have HT : Hid (T = walkF 301 S.ino g1 (finds g1 1 (fd, []))) := hT
  clear hT
  go_enter Tryd.func28, Tryd.ntmps28
  go_upto_region 3 with fail
  rw [HW.out.1, HW.out.2]
  clear HW
  go_wp2_with fail
  refine (t_find HWs.out HG.out 1 (wf_of (by omega) (by omega)) HH.out).mono ?_
  rintro e w5 ⟨rfl, v5, h5⟩
  have HW5 : Hid (Ws U w5 h p S n g1 g2 g3 P (P + 1) (P + 2) v5 (finds g1 1 (fd, []))) := h5
  have HL5 : Hid (left (finds g1 1 (fd, [])) < 301) := by have := h5.lf; show _ < _; omega
  clear h5 HWs HH
  go_wp2_with fail
  go_loopw [4] (fun _ wr => ∃ (k : Nat) (v1 : Value) (s : List Bool × List Nat), left s < k ∧ Hid (Ws U wr h p S n g1 g2 g3 P (P + 1) (P + 2) v1 s ∧ walkF k S.ino g1 s = T)) (fun _ wr => leftAt wr h.bf (P + 1))
  case atStart => exact ⟨301, v5, _, HL5.out, HW5.out, HT.out.symm⟩
  case round =>
    obtain ⟨k, v1, s, hk, HJ⟩ := hrel
    obtain ⟨hW, hK⟩ := HJ.out
    obtain ⟨b, c, rfl, hcc, hsl⟩ := hW.val
    have c2 : wr.cell? ⟨P + 1, 0, none⟩ = some (.slice b s.2.length c) := cellB hW.p2
    cases k with
    | zero => omega
    | succ k =>
      rcases Nat.eq_zero_or_pos s.2.length with h0 | h0
      · have HE : Hid (s.1 = T) := by show _ = _; rw [← hK, walkF, if_pos h0]
        have z1 : ¬ (0 : Int) < (s.2.length : Int) := by omega
        have HW1 : Hid (_) := hW
        clear hW hK hsl HJ h0
        go_wp2_with fail
        go_end0
        exact ⟨rfl, by have := HW1.out.lk; rw [HE.out] at this; exact this⟩
      · obtain ⟨m, hm⟩ : ∃ m, s.2.length = m + 1 := ⟨s.2.length - 1, by omega⟩
        obtain ⟨g, rfl, r0⟩ := hsl m (by omega)
        obtain ⟨i, hi⟩ : ∃ i, i = s.2[m]'(by omega) := ⟨_, rfl⟩
        rw [← hi] at r0
        have hil : i < S.ino.length := by rw [hi]; exact hW.ok _ (List.getElem_mem _)
        obtain ⟨x, hx⟩ : ∃ x, x = S.ino[i] := ⟨_, rfl⟩
        have hxa : inoAt S.ino (s.2.getD (s.2.length - 1) 0) = x := by
          have e1 : s.2.length - 1 = m := by omega
          have e2 : s.2.getD m 0 = i := by rw [hi, List.getD_eq_getElem?_getD, List.getElem?_eq_getElem (by omega)]; rfl
          rw [e1, e2, hx]; unfold inoAt; simp [hil]
        have hxm : x ∈ S.ino := by rw [hx]; exact List.getElem_mem hil
        have HN : Hid (walkF k S.ino g1 (findE g1 (entsOfI x) (s.1, s.2.take m)) = T) := by
          show _ = _; rw [← hK, walkF, if_neg (by omega), hxa]
          have e1 : s.2.length - 1 = m := by omega
          rw [e1]
        obtain ⟨bi, oi, ae, ce, ea, i0, i1, i2, i3, i4, i5, -⟩ := HV.out.ino i hil
        have i0 := hW.lk.kept.cell i0 (by simp)
        have i1 := hW.lk.kept.cell i1 (by simp)
        have i2 := hW.lk.kept.cell i2 (by simp)
        have i3 := hW.lk.kept.cell i3 (by simp)
        rw [← hx] at i0 i1 i2 i3 i4 i5
        have p0 : wr.cell? ⟨P, 0, none⟩ = some (.pointer (some ⟨h.X, 0, none⟩)) := cellB hW.p1
        have x0 : wr.cell? ⟨h.X, 0, none⟩ = some (.slice (some ⟨bi, oi, none⟩) S.ino.length p.c1) := by rw [cellB hW.lk.blk, ← ea]; rfl
        have HEn : Hid (EntA U ae x.ents ∧ x.ents.length ≤ ce) := ⟨i4, i5⟩
        have z1 : (0 : Int) < (s.2.length : Int) := by omega
        have z2 : (s.2.length : Int) - 1 = (m : Int) := by omega
        have z3 : (m : Int) < (s.2.length : Int) := by omega
        have z4 : (0 : Int) ≤ (m : Int) := by omega
        have z5 : (0 : Int) ≤ (i : Int) := by omega
        have z6 : (i : Int) < (S.ino.length : Int) := by omega
        have z7 : m ≤ c := by omega
        have z8 : s.2.length ≤ 300 := by have := hW.lf; unfold left at this; omega
        have HW1 : Hid (Ws U wr h p S n g1 g2 g3 P (P + 1) (P + 2) (.slice (some ⟨g, 0, none⟩) s.2.length c) s) := hW
        have HX : Hid (x ∈ S.ino) := hxm
        have HM : Hid (s.2.length = m + 1) := hm
        clear hW hK hsl HJ h0 hm hi hx hxa hxm ea i4 i5 hcc
        go_upto_region 6 with fail
        have kz := (Kept.refl [] wr).alloc (.cells #[.int .i64 0, .bool false, .slice none 0 0, .string ⟨#[]⟩] 31 (0, 0))
        have i0 := kz.cell i0 (by simp)
        have i1 := kz.cell i1 (by simp)
        have i2 := kz.cell i2 (by simp)
        have i3 := kz.cell i3 (by simp)
        have c2 := kz.cell c2 (by simp)
        have p0 := kz.cell p0 (by simp)
        have x0 := kz.cell x0 (by simp)
        have r0 := kz.cell r0 (by simp)
        clear kz
        obtain ⟨V, Y, HVY, kv, b1⟩ := one_box wr #[.int .i64 x.num, .bool x.dir, .slice ae x.ents.length ce, .string x.data] 31
        have kd : Kept [] wr V.drew := kv.drew
        have hWv := HW1.out.same kd
        have HWv : Hid (_) := hWv
        have HL0 : Hid (left s = leftAt wr h.bf (P + 1)) := HW1.out.leftAt.symm
        have HY : Hid (V.heap[Y]? = some (.cells #[.int .i64 x.num, .bool x.dir, .slice ae x.ents.length ce, .string x.data] 31 (0, 0))) := b1
        have HYP : Hid (P + 2 ≤ Y) := by
          have e : wr.heap.size = Y := HVY.out.2
          have e1 : P + 1 < wr.heap.size := lt_of_heap HW1.out.p2
          show _ ≤ _; omega
        clear kd hWv kv b1
        go_region
        rw [HVY.out.1, HVY.out.2]
        clear HVY i0 i1 i2 i3 c2 p0 x0 r0
        have q2 : V.cell? ⟨P + 1, 0, none⟩ = some (.slice (some ⟨g, 0, none⟩) s.2.length c) := cellB (w := V) HWv.out.p2
        have f2 : V.frozen? ⟨P + 1, 0, none⟩ = false := by have hq : V.heap[P + 1]? = some (.cells #[.slice (some ⟨g, 0, none⟩) s.2.length c] 25 (0, 0)) := HWv.out.p2; simp [World.frozen?, hq]
        obtain ⟨W7, hW7⟩ : ∃ W7, (V.setCell ⟨P + 1, 0, none⟩ (.slice (some ⟨g, 0, none⟩) m c)).drew = W7 := ⟨_, rfl⟩
        have h7 : Ws U W7 h p S n g1 g2 g3 P (P + 1) (P + 2) (.slice (some ⟨g, 0, none⟩) m c) (s.1, s.2.take m) := by
          rw [← hW7]; exact HWv.out.pop m (by have := HM.out; omega)
        have y7 : W7.heap[Y]? = some (.cells #[.int .i64 x.num, .bool x.dir, .slice ae x.ents.length ce, .string x.data] 31 (0, 0)) := by
          rw [← hW7]; show (V.setCell _ _).heap[Y]? = _
          rw [Below.heap_setCell _ _ _ _ (fun e => by have := HYP.out; simp at e; omega)]; exact HY.out
        have HW7 : Hid (_ = W7) := hW7
        have HT7 : Hid (Ws U W7 h p S n g1 g2 g3 P (P + 1) (P + 2) (.slice (some ⟨g, 0, none⟩) m c) (s.1, s.2.take m)) := h7
        have HL7 : Hid (left (s.1, s.2.take m) < left s) := by have := HM.out; unfold left; simp only [List.length_take]; show _ < _; omega
        clear hW7 h7 HWv
        go_upto_region 8 with fail
        rw [HW7.out]
        clear HW7 q2 f2
        obtain ⟨aE, cE, hv, hEA⟩ : ∃ aE cE, (if x.dir = true then Value.slice ae x.ents.length ce else .slice none 0 0) = .slice aE (entsOfI x).length cE ∧ EntA U aE (entsOfI x) := by
          unfold entsOfI
          cases x.dir
          · exact ⟨none, 0, rfl, fun i hi => by simp at hi⟩
          · exact ⟨ae, ce, rfl, HEn.out.1⟩
        have HEA : Hid (EntA U aE (entsOfI x)) := hEA
        have HEw : Hid (∀ e ∈ entsOfI x, Wf e.2) := by
          unfold entsOfI; cases x.dir
          · intro e he; simp at he
          · exact HF.out.w2 x HX.out
        have hEl : (entsOfI x).length ≤ 100 := by
          unfold entsOfI; cases x.dir
          · simp
          · exact HF.out.e1 x HX.out
        have HV0 : Hid (_ = _) := hv
        clear hv hEA
        generalize hEE : entsOfI x = E at *
        have z0 : W7.cell? ⟨Y, 0, none⟩ = some (.int .i64 x.num) := cellB y7
        have z1 : W7.cell? ⟨Y, 1, none⟩ = some (.bool x.dir) := cellB y7
        have z2 : W7.cell? ⟨Y, 2, none⟩ = some (.slice ae x.ents.length ce) := cellB y7
        have z3 : W7.cell? ⟨Y, 3, none⟩ = some (.string x.data) := cellB y7
        clear hEE y7 HY HEn
        go_wp2_with fail
        refine (t_entriesOf x.num x.dir ae x.ents.length ce x.data _).mono ?_
        rintro e w8 ⟨rfl, k8⟩
        rw [HV0.out]
        have HT8 : Hid (_) := HT7.out.same k8
        clear k8 z0 z1 z2 z3 HT7
        go_wp2_with fail
        go_loopw [34] (fun ix wr => ∃ (j : Nat) (v2 : Value) (s2 : List Bool × List Nat), ix = .int .i64 (j : Int) ∧ j ≤ E.length ∧ Hid (Ws U wr h p S n g1 g2 g3 P (P + 1) (P + 2) v2 s2 ∧ left s2 ≤ left (s.1, s.2.take m) ∧ findE g1 (E.drop j) s2 = findE g1 E (s.1, s.2.take m))) (fun ix _ => (E.length - intOf ix).toNat)
        case atStart => exact ⟨0, _, _, rfl, by omega, HT8.out, Nat.le_refl _, rfl⟩
        case round =>
          obtain ⟨j, v2, s2, rfl, hj, HJ2⟩ := hrel
          obtain ⟨hW2, hL2, hE2⟩ := HJ2.out
          by_cases hlj : j < E.length
          · obtain ⟨be, oe, ee, t0, t1⟩ := HEA.out j hlj
            have t0 := hW2.lk.kept.cell t0 (by simp)
            have t1 := hW2.lk.kept.cell t1 (by simp)
            obtain ⟨y, hy⟩ : ∃ y, y = E[j] := ⟨_, rfl⟩
            have hwy : Wf y.2 := by rw [hy]; exact HEw.out _ (List.getElem_mem hlj)
            rw [← hy] at t0 t1
            have hd : E.drop j = y :: E.drop (j + 1) := by rw [hy]; exact List.drop_eq_getElem_cons hlj
            rw [hd] at hE2
            have HE2 : Hid (findE g1 (E.drop (j + 1)) (finds g1 y.2 s2) = findE g1 E (s.1, s.2.take m)) := hE2
            have HL2 : Hid (left (finds g1 y.2 s2) ≤ left (s.1, s.2.take m)) := Nat.le_trans (finds_left HG.out y.2 s2 hW2.len) hL2
            obtain ⟨V2, Z, HZ, kz, bz⟩ := one_box wr #[.string y.1, .int .i64 y.2] 33
            have HV2 : Hid (_) := hW2.same kz
            have z1 : V2.cell? ⟨Z, 1, none⟩ = some (.int .i64 y.2) := cellB bz
            have HH2 : Hid (P + 2 ≤ V2.heap.size) := by
              have e1 := kz.size
              have e2 : P + 1 < wr.heap.size := lt_of_heap hW2.p2
              show _ ≤ _; omega
            have HWy : Hid (Wf y.2) := hwy
            subst ee
            have j0 : (0 : Int) ≤ (j : Int) := by omega
            have j1 : (j : Int) < (E.length : Int) := by omega
            clear hW2 hL2 hE2 hy hd kz bz HJ2 hwy HT8
            go_upto_region 11 with fail
            rw [HZ.out.1, HZ.out.2]
            clear HZ t0 t1
            go_wp2_with fail
            refine (t_find HV2.out HG.out y.2 HWy.out HH2.out).mono ?_
            rintro e w9 ⟨rfl, v9, h9⟩
            have HT9 : Hid (_) := h9
            clear h9 z1
            go_wp2_with fail
            go_roundw
            case rel => exact ⟨j + 1, _, _, by go_num, by omega, HT9.out, HL2.out, HE2.out⟩
            case measure => simp [intOf]; omega
          · have ej : j = E.length := by omega
            have hg2 : s2 = findE g1 E (s.1, s.2.take m) := by rw [← hE2, ej, List.drop_length]; rfl
            have HT9 : Hid (_) := hW2
            have HL9 : Hid (left s2 < left s) := by have := HL7.out; show _ < _; omega
            have HN9 : Hid (walkF k S.ino g1 s2 = T) := by show _ = _; rw [hg2]; exact HN.out
            have HK9 : Hid (left s2 < k) := by have := HL7.out; show _ < _; omega
            have j1 : ¬ (j : Int) < (E.length : Int) := by omega
            clear hW2 hL2 hE2 ej hg2 HJ2 HT8
            go_wp2_with fail
            go_roundw
            case rel => exact ⟨k, _, _, HK9.out, HT9.out, HN9.out⟩
            case measure => rw [HT9.out.leftAt, ← HL0.out]; exact HL9.out

end Go.Proofs.YtgfdcnjnkljahaaDoor
