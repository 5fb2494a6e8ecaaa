/-
  Joined of my texts Yi Yj Yk.
-/
import Derived.Test.YtffncojcnbhblaaGreatDoorJd33
import Derived.Test.YtffncojcnbhblaaGreatDoorJd13
import Derived.Test.YtffncojcnbhblaaGreatDoorTk
set_option linter.unusedVariables false
set_option linter.unusedSimpArgs false
set_option maxRecDepth 100000
set_option maxHeartbeats 8000000
namespace Go.Proofs.YtffncojcnbhblaaGreatDoor
open Go.RowKit
theorem app_Entry {W w : World} (k : Kept [] W w) {u : Value} (hu : w.ownsRow W.heap.size 64 2 u 0 []) (a : Option Addr) (n c : Nat) (news : List Value) (hl : news.length = n * 2) (hn : n ≤ 5864062014634)
  (hc : ∀ j v, news[j]? = some v → ∃ b o, a = some ⟨b, o, none⟩ ∧ w.cell? ⟨b, o + j, none⟩ = some v) (h1 : ∀ v ∈ news, v.oneCell' = true) (ty : TypeId) :
  ∃ v' w', (Builtin.append_ #[60, 60] ty #[u, .slice a n c]).run Tryz.prog w = .ok v' w' ∧ w'.ownsRow W.heap.size 64 2 v' n news ∧ Kept [] W w' := by
 obtain ⟨i0, hi, hz0, hz1, hz2⟩ := info_parts info_Entry
 rcases a with _ | x
 ·
  have hn0 : n = 0 := by
   rcases Nat.eq_zero_or_pos n with e | e
   · exact e
   ·
    obtain ⟨b, o, e1, -⟩ := hc 0 news[0] (List.getElem?_eq_getElem (by omega))
    cases e1
  subst hn0
  have hnil : news = [] := List.eq_nil_of_length_eq_zero (by omega)
  subst hnil
  refine ⟨u, w, ?_, hu, k⟩
  rcases hu.2 with ⟨h2, -⟩ | ⟨g, cap, cur, h2, -⟩
  ·
   rw [h2]
   simp [Builtin.append_, run_underlying Tryz.underlying60, sizeOf, typeInfo, hi, Builtin.lenOf, Builtin.firstCells]
  ·
   rw [h2]
   simp [Builtin.append_, run_underlying Tryz.underlying60, sizeOf, typeInfo, hi, Builtin.lenOf, Builtin.firstCells, storeCells]
 ·
  obtain ⟨v', w', hr, h2, h3, -⟩ := run_append_own_at (P := Tryz.prog) w W.heap.size 60 ty 64 i0 _ 2 24 Tryz.underlying60 hi hz0 hz1 hz2 rfl (by omega) u 0 [] hu x n c news hl (fun j v hj => by
   obtain ⟨b, o, e1, e2⟩ := hc j v hj
   rw [Option.some.inj e1, add_lit]
   exact e2) h1 (by unfold maxLen; omega) (by omega) k.size
  refine ⟨v', w', hr, by simpa using h2, k.grown h3 fun y hy => Or.inr (hu.lt y hy).1⟩
theorem app_Desc {W w : World} (k : Kept [] W w) {u : Value} (hu : w.ownsRow W.heap.size 83 3 u 0 []) (a : Option Addr) (n c : Nat) (news : List Value) (hl : news.length = n * 3) (hn : n ≤ 5864062014634)
  (hc : ∀ j v, news[j]? = some v → ∃ b o, a = some ⟨b, o, none⟩ ∧ w.cell? ⟨b, o + j, none⟩ = some v) (h1 : ∀ v ∈ news, v.oneCell' = true) (ty : TypeId) :
  ∃ v' w', (Builtin.append_ #[24, 24] ty #[u, .slice a n c]).run Tryz.prog w = .ok v' w' ∧ w'.ownsRow W.heap.size 83 3 v' n news ∧ Kept [] W w' := by
 obtain ⟨i0, hi, hz0, hz1, hz2⟩ := info_parts info_Desc
 rcases a with _ | x
 ·
  have hn0 : n = 0 := by
   rcases Nat.eq_zero_or_pos n with e | e
   · exact e
   ·
    obtain ⟨b, o, e1, -⟩ := hc 0 news[0] (List.getElem?_eq_getElem (by omega))
    cases e1
  subst hn0
  have hnil : news = [] := List.eq_nil_of_length_eq_zero (by omega)
  subst hnil
  refine ⟨u, w, ?_, hu, k⟩
  rcases hu.2 with ⟨h2, -⟩ | ⟨g, cap, cur, h2, -⟩
  ·
   rw [h2]
   simp [Builtin.append_, run_underlying Tryz.underlying24, sizeOf, typeInfo, hi, Builtin.lenOf, Builtin.firstCells]
  ·
   rw [h2]
   simp [Builtin.append_, run_underlying Tryz.underlying24, sizeOf, typeInfo, hi, Builtin.lenOf, Builtin.firstCells, storeCells]
 ·
  obtain ⟨v', w', hr, h2, h3, -⟩ := run_append_own_at (P := Tryz.prog) w W.heap.size 24 ty 83 i0 _ 3 24 Tryz.underlying24 hi hz0 hz1 hz2 rfl (by omega) u 0 [] hu x n c news hl (fun j v hj => by
   obtain ⟨b, o, e1, e2⟩ := hc j v hj
   rw [Option.some.inj e1, add_lit]
   exact e2) h1 (by unfold maxLen; omega) (by omega) k.size
  refine ⟨v', w', hr, by simpa using h2, k.grown h3 fun y hy => Or.inr (hu.lt y hy).1⟩
theorem app_int {W w : World} (k : Kept [] W w) {u : Value} (hu : w.ownsRow W.heap.size 3 1 u 0 []) (a : Option Addr) (n c : Nat) (news : List Value) (hl : news.length = n * 1) (hn : n ≤ 17592186043904)
  (hc : ∀ j v, news[j]? = some v → ∃ b o, a = some ⟨b, o, none⟩ ∧ w.cell? ⟨b, o + j, none⟩ = some v) (h1 : ∀ v ∈ news, v.oneCell' = true) (ty : TypeId) :
  ∃ v' w', (Builtin.append_ #[25, 25] ty #[u, .slice a n c]).run Tryz.prog w = .ok v' w' ∧ w'.ownsRow W.heap.size 3 1 v' n news ∧ Kept [] W w' := by
 obtain ⟨i0, hi, hz0, hz1, hz2⟩ := info_parts info_int
 rcases a with _ | x
 ·
  have hn0 : n = 0 := by
   rcases Nat.eq_zero_or_pos n with e | e
   · exact e
   ·
    obtain ⟨b, o, e1, -⟩ := hc 0 news[0] (List.getElem?_eq_getElem (by omega))
    cases e1
  subst hn0
  have hnil : news = [] := List.eq_nil_of_length_eq_zero (by omega)
  subst hnil
  refine ⟨u, w, ?_, hu, k⟩
  rcases hu.2 with ⟨h2, -⟩ | ⟨g, cap, cur, h2, -⟩
  ·
   rw [h2]
   simp [Builtin.append_, run_underlying Tryz.underlying25, sizeOf, typeInfo, hi, Builtin.lenOf, Builtin.firstCells]
  ·
   rw [h2]
   simp [Builtin.append_, run_underlying Tryz.underlying25, sizeOf, typeInfo, hi, Builtin.lenOf, Builtin.firstCells, storeCells]
 ·
  obtain ⟨v', w', hr, h2, h3, -⟩ := run_append_own_at (P := Tryz.prog) w W.heap.size 25 ty 3 i0 _ 1 8 Tryz.underlying25 hi hz0 hz1 hz2 rfl (by omega) u 0 [] hu x n c news hl (fun j v hj => by
   obtain ⟨b, o, e1, e2⟩ := hc j v hj
   rw [Option.some.inj e1, add_lit]
   exact e2) h1 (by unfold maxLen; omega) (by omega) k.size
  refine ⟨v', w', hr, by simpa using h2, k.grown h3 fun y hy => Or.inr (hu.lt y hy).1⟩
@[reducible] def inUp (S : Sta) (n : Nat) : Sta := ⟨S.ino.take n, [], []⟩
theorem Cy.opens {W1 w w' : World} {Bo : Nat} {v1 v2 : Value} {ev : List Value} {S : Sta} (h : Cy W1 w Bo v1 (.slice none 0 0) (.slice none 0 0) ev ⟨S.ino, [], []⟩) (k : Kept [] w w') (r : w'.ownsRow w.heap.size 83 3 v2 S.opn.length (desC S.opn)) :
  Cy W1 (w'.setCell ⟨Bo, 1, none⟩ v2) Bo v1 v2 (.slice none 0 0) ev ⟨S.ino, S.opn, []⟩ := by
 have h' := h.kept k
 have hnew : ∀ b, v2.ownBlock = some b → w.heap.size ≤ b := fun b hb => (r.lt b hb).1
 have hBo := lt_of_heap h.box
 have hk := h.k.size
 have kk : Kept [Bo] w' (w'.setCell ⟨Bo, 1, none⟩ v2) := kept_set
 have hoff2 : v2.ownBlock ≠ some Bo := fun e => by have := hnew _ e; omega
 have h1 : Ap v1 v2 := fun b e1 e2 => by have := (h.os.ino.lt b e1).2; have := hnew b e2; omega
 have o := h'.os.keep kk h'.off
 refine ⟨h'.k.setCell (Or.inr h.lo) _, by rw [block_set h'.box 1 v2]; rfl, ⟨o.ino, o.evl, o.ent, row_keep (row_less r hk) kk (by simpa using hoff2), o.mad, h1, o.a13, fun b e1 e2 => (by cases e2), fun v hv => ⟨(o.ae v hv).1, fun b e1 e2 => ?_, (o.ae v hv).2.2⟩, o.aee⟩, off_of ⟨(h.off Bo (by simp)).1, hoff2, by simp [Value.ownBlock], (h.off Bo (by simp)).2.2.2⟩, h.lo⟩
 obtain ⟨i, hi, rfl⟩ := List.getElem_of_mem hv
 have := ((h.os.ent i (by rw [← h.os.evl]; exact hi) hi).lt b e2).2
 have := hnew b e1
 omega
theorem Cy.mades {W1 w w' : World} {Bo : Nat} {v1 v2 v3 : Value} {ev : List Value} {S : Sta} (h : Cy W1 w Bo v1 v2 (.slice none 0 0) ev ⟨S.ino, S.opn, []⟩) (k : Kept [] w w') (r : w'.ownsRow w.heap.size 3 1 v3 S.made.length (S.made.map (Value.int .i64))) :
  Cy W1 (w'.setCell ⟨Bo, 2, none⟩ v3) Bo v1 v2 v3 ev S := by
 have h' := h.kept k
 have hnew : ∀ b, v3.ownBlock = some b → w.heap.size ≤ b := fun b hb => (r.lt b hb).1
 have hBo := lt_of_heap h.box
 have hk := h.k.size
 have kk : Kept [Bo] w' (w'.setCell ⟨Bo, 2, none⟩ v3) := kept_set
 have hoff3 : v3.ownBlock ≠ some Bo := fun e => by have := hnew _ e; omega
 have h1 : Ap v1 v3 := fun b e1 e2 => by have := (h.os.ino.lt b e1).2; have := hnew b e2; omega
 have h2 : Ap v2 v3 := fun b e1 e2 => by have := (h.os.opn.lt b e1).2; have := hnew b e2; omega
 have o := h'.os.keep kk h'.off
 refine ⟨h'.k.setCell (Or.inr h.lo) _, by rw [block_set h'.box 2 v3]; rfl, ⟨o.ino, o.evl, o.ent, o.opn, row_keep (row_less r hk) kk (by simpa using hoff3), o.a12, h1, h2, fun v hv => ⟨(o.ae v hv).1, (o.ae v hv).2.1, fun b e1 e2 => ?_⟩, o.aee⟩, off_of ⟨(h.off Bo (by simp)).1, (h.off Bo (by simp)).2.1, hoff3, (h.off Bo (by simp)).2.2.2⟩, h.lo⟩
 obtain ⟨i, hi, rfl⟩ := List.getElem_of_mem hv
 have := ((h.os.ent i (by rw [← h.os.evl]; exact hi) hi).lt b e2).2
 have := hnew b e1
 omega
theorem r_copy {w : World} {p : Pl} {S : Sta} (h : Sv w p S) (hb : Bd S) :
  Calls Tryz.prog 59 #[sval p S] w fun e w' => ∃ v1 v2 v3 ev, e = .returned (.agg #[v1, v2, v3]) ∧ Os w' w.heap.size v1 v2 v3 ev S ∧ Kept [] w w' := by
 have HBd : Hid (Bd S) := hb
 obtain ⟨W0, X, HW, HB⟩ := boxS h
 obtain ⟨W1, R, HWR, HKR, r0, r1, r2'⟩ := box3 W0 (.slice none 0 0) (.slice none 0 0) (.slice none 0 0) 27
 obtain ⟨W2, Bo, HWB, HKB, b0, b1, b2⟩ := box3 W1 (.slice none 0 0) (.slice none 0 0) (.slice none 0 0) 27
 have HB1 : Hid (_) := HB.out.kept HKR.out
 have HR0 : Hid (W1.heap[R]? = some (.cells #[.slice none 0 0, .slice none 0 0, .slice none 0 0] 27 (0, 0))) := by
  show _ = _
  rw [← HWR.out.1, ← HWR.out.2]; exact Go.heap_alloc_new _ _
 have HC1 : Hid (Cy W1 W2 Bo (.slice none 0 0) (.slice none 0 0) (.slice none 0 0) [] (inUp S 0)) := ⟨HKB.out, by rw [← HWB.out.1, ← HWB.out.2]; exact Go.heap_alloc_new _ _, ⟨World.ownsRow_nil _ _ _ _, rfl, fun i hi => (by simp at hi), World.ownsRow_nil _ _ _ _, World.ownsRow_nil _ _ _ _, fun k hk => (by cases hk), fun k hk => (by cases hk), fun k hk => (by cases hk), fun v hv => (by cases hv), List.Pairwise.nil⟩, off_of ⟨by simp [Value.ownBlock], by simp [Value.ownBlock], by simp [Value.ownBlock], fun v hv => (by cases hv)⟩, by have := HWB.out.2; omega⟩
 have HX0 : Hid (w.heap.size = X) := HW.out.2
 have hR : R = X + 1 := by rw [← HWR.out.2, ← HW.out.1, ← HW.out.2]; simp
 have hBo : Bo = X + 1 + 1 := by rw [← HWB.out.2, ← HWR.out.1, ← HW.out.1, ← HW.out.2]; simp
 clear h hb
 go_enter Tryz.func59, Tryz.ntmps59
 go_upto_region 2 with fail
 rw [HW.out.1, HW.out.2, HWR.out.1, HWB.out.1]
 subst hR hBo
 have hn1 : S.ino.length ≤ 2513169434843 := HBd.out.n1
 clear HW HWR HWB r0 r1 r2' b0 b1 b2
 have x0 := (HB1.out.kept HKB.out).x0
 go_wp2_with fail
 clear x0
 go_loopw [4] (fun i wr => ∃ (n : Nat) (v1 : Value) (ev : List Value), i = .int .i64 (n : Int) ∧ n ≤ S.ino.length ∧ Hid (Cy W1 wr (X + 1 + 1) v1 (.slice none 0 0) (.slice none 0 0) ev (inUp S n))) (fun i _ => (S.ino.length - intOf i).toNat)
 case atStart => exact ⟨0, _, _, rfl, by omega, HC1.out⟩
 case round =>
  clear HC1
  obtain ⟨n, v1, ev, rfl, hn, HJ⟩ := hrel
  have x0 := (HB1.out.kept HJ.out.k).x0
  by_cases hlt : n < S.ino.length
  ·
   have j0 : (0 : Int) ≤ (n : Int) := by omega
   have j1 : (n : Int) < (S.ino.length : Int) := by omega
   obtain ⟨b, o, ae, ce, ha, q0, q1, q2, q3, q4, q5, q6⟩ := (HB1.out.kept HJ.out.k).sv.ino n hlt
   have HA : Hid (_) := ha
   rw [ha] at x0
   obtain ⟨x, hx⟩ : ∃ x, S.ino[n] = x := ⟨_, rfl⟩
   have HXn : Hid (_) := hx
   have HBx : Hid (x.ents.length ≤ 5864062014634) := by
    show _ ≤ _
    rw [← hx]
    exact HBd.out.n4 _ (List.getElem_mem hlt)
   rw [hx] at q0 q1 q2 q3 q4 q5
   have HEn : Hid (EntA wr ae x.ents) := q4
   clear ha hx q4 q5 q6
   obtain ⟨W3, Y, HWY, HK3, c0, c1, c2', c3'⟩ := box4 wr (.int .i64 x.num) (.bool x.dir) (.slice ae x.ents.length ce) (.string x.data) 62
   go_upto_region 6 with fail
   rw [HWY.out.1, HWY.out.2]
   clear q0 q1 q2 q3 x0
   obtain ⟨ve, w4, hr4, re, k4⟩ := app_Entry (W := W3) (w := W3.alloc (.cells #[] 64 (0, 0))) ((Kept.refl [] W3).alloc _) (u := .slice (some ⟨W3.heap.size, 0, none⟩) 0 0) (World.ownsRow_made W3 #[] 0 (Nat.le_refl _) (Nat.zero_le _) (by simp)) ae x.ents.length ce (flat x.ents) (flat_length _) HBx.out (fun j v hj => by
    obtain ⟨b, o, e1, e2⟩ := ent_cells (HEn.out.kept HK3.out) j v hj
    exact ⟨b, o, e1, ((Kept.refl [] W3).alloc _).cell e2 (by simp)⟩) (flat_one _) 60
   have HZ : Hid (_) := HJ.out.start HWY.out k4 re
   obtain ⟨ave, cve, hve, -⟩ := row_form re
   subst hve
   have HAp : Hid (_) := hr4
   have hy3 : w4.heap[Y]? = some (.cells #[.int .i64 x.num, .bool x.dir, .slice ae x.ents.length ce, .string x.data] 62 (0, 0)) := by
    rw [k4.block Y (by rw [← HWY.out.1, ← HWY.out.2]; simp) (by simp), ← HWY.out.1, ← HWY.out.2]; exact Go.heap_alloc_new _ _
   have d2 := (cellB (i := 2) hy3).trans (show _ = some (Value.slice ae x.ents.length ce) from rfl)
   have f2 := frozen_of hy3 2
   have c2a : (W3.alloc (.cells #[] 64 (0, 0))).cell? ⟨Y, 2, none⟩ = some (.slice ae x.ents.length ce) := ((Kept.refl [] W3).alloc _).cell c2' (by simp)
   obtain ⟨W4, hW4⟩ : ∃ W4, w4.setCell ⟨Y, 2, none⟩ (.slice ave x.ents.length cve) = W4 := ⟨_, rfl⟩
   rw [hW4] at HZ
   have HW4 : Hid (_) := hW4
   clear hW4 k4 re hy3 c0 c1 c2' c3' HWY HK3 HEn HJ hr4
   go_upto_region 7 with (at_builtin; refine wpList_append_run _ rfl _ _ 60 60 rfl _ _ rfl rfl _ _ HAp.out ?_)
   rw [HW4.out]
   clear HW4 d2 f2 c2a HAp
   have g0 : W4.cell? ⟨Y, 0, none⟩ = some (.int .i64 x.num) := cellB HZ.out.y
   have g1 : W4.cell? ⟨Y, 1, none⟩ = some (.bool x.dir) := cellB HZ.out.y
   have g2 : W4.cell? ⟨Y, 2, none⟩ = some (.slice ave x.ents.length cve) := cellB HZ.out.y
   have g3 : W4.cell? ⟨Y, 3, none⟩ = some (.string x.data) := cellB HZ.out.y
   have g4 : W4.cell? ⟨X + 1 + 1, 0, none⟩ = some v1 := cellB HZ.out.cy.box
   obtain ⟨a1, c1, hv1, -⟩ := row_form HZ.out.cy.os.ino
   have hl : (inUp S n).ino.length = n := by simp; omega
   rw [hl] at hv1
   obtain ⟨v1', w7, hr, hform, hbox, hcy⟩ := HZ.out.append (by rw [hl]; omega) 23
   have HS : Hid (inUp S (n + 1) = ⟨(inUp S n).ino ++ [x], (inUp S n).opn, (inUp S n).made⟩) := by
    show _ = _
    unfold inUp
    simp only [Sta.mk.injEq, and_true]
    rw [List.take_succ_eq_append_getElem hlt, HXn.out]
   have HC7 : Hid (Cy W1 (w7.setCell ⟨X + 1 + 1, 0, none⟩ v1') (X + 1 + 1) v1' (.slice none 0 0) (.slice none 0 0) (ev ++ [.slice ave x.ents.length cve]) (inUp S (n + 1))) := by
    show Cy _ _ _ _ _ _ _ _
    rw [HS.out]
    exact hcy
   have h0 : w7.cell? ⟨X + 1 + 1, 0, none⟩ = some v1 := cellB hbox
   have f0 := frozen_of hbox 0
   obtain ⟨a7, n7, c7, hv7⟩ := hform
   rw [hv1] at hr h0 g4
   rw [hv7] at hr HC7
   have HAp : Hid (_) := hr
   clear hr hbox hcy hl HS hv1 hv7
   go_wp2_with (first
    | (at_builtin; refine wpList_append_run _ rfl _ _ 23 23 rfl _ _ rfl rfl _ _ HAp.out ?_))
   go_roundw
   case rel => exact ⟨n + 1, _, _, by go_num, by omega, HC7.out⟩
   case measure => simp [intOf]; omega
  ·
   have j1 : ¬ (n : Int) < (S.ino.length : Int) := by omega
   have HCe : Hid (Cy W1 wr (X + 1 + 1) v1 (.slice none 0 0) (.slice none 0 0) ev ⟨S.ino, [], []⟩) := by
    have := HJ.out
    unfold inUp at this
    rw [List.take_of_length_le (by omega)] at this
    exact this
   have HSr : Hid (Sv wr p S) := (HB1.out.kept HJ.out.k).sv
   obtain ⟨v2, w3, hr3, re3, k3⟩ := app_Desc (Kept.refl [] wr) (World.ownsRow_nil _ _ _ _) p.a2 S.opn.length p.c2 (desC S.opn) desC_length HBd.out.n2 (des_cells HSr.out.des) desC_one 24
   have HC3 : Hid (_) := HCe.out.opens k3 re3
   have hbx3 := (HCe.out.kept k3).box
   obtain ⟨W3, hW3⟩ : ∃ W3, w3.setCell ⟨X + 1 + 1, 1, none⟩ v2 = W3 := ⟨_, rfl⟩
   rw [hW3] at HC3
   obtain ⟨v3, w5, hr5, re5, k5⟩ := app_int (Kept.refl [] W3) (World.ownsRow_nil _ _ _ _) p.a3 S.made.length p.c3 (S.made.map (Value.int .i64)) (by simp) HBd.out.n3 (int_cells (HB1.out.kept HC3.out.k).sv.mad) (ints_oneCell _) 25
   have HC5 : Hid (_) := HC3.out.mades k5 re5
   have hbx5 := (HC3.out.kept k5).box
   obtain ⟨W5, hW5⟩ : ∃ W5, w5.setCell ⟨X + 1 + 1, 2, none⟩ v3 = W5 := ⟨_, rfl⟩
   rw [hW5] at HC5
   obtain ⟨aa2, cc2, hv2, -⟩ := row_form re3
   obtain ⟨aa3, cc3, hv3, -⟩ := row_form re5
   subst hv2 hv3
   obtain ⟨a1, c1, hv1, -⟩ := row_form HC5.out.os.ino
   subst hv1
   have HA3 : Hid (_) := hr3
   have HA5 : Hid (_) := hr5
   have HW3 : Hid (_) := hW3
   have HW5 : Hid (_) := hW5
   obtain ⟨o0, o1, o2, -⟩ := cells3 HCe.out.box
   have x1 := (HB1.out.kept HJ.out.k).x1
   have f31 := frozen_of hbx3 1
   have o31 : w3.cell? ⟨X + 1 + 1, 1, none⟩ = some (.slice none 0 0) := cellB hbx3
   go_upto_region 9 with (at_builtin; refine wpList_append_run _ rfl _ _ 24 24 rfl _ _ rfl rfl _ _ HA3.out ?_)
   try rw [HW3.out]
   have x2 := (HB1.out.kept HC3.out.k).x2
   have o32 : W3.cell? ⟨X + 1 + 1, 2, none⟩ = some (.slice none 0 0) := cellB HC3.out.box
   have o52 : w5.cell? ⟨X + 1 + 1, 2, none⟩ = some (.slice none 0 0) := cellB hbx5
   have f52 := frozen_of hbx5 2
   clear HA3 o0 o1 o2 x0 x1 o31 f31 HW3 hr3 re3 k3 hbx3 hW3
   go_upto_region 10 with (at_builtin; refine wpList_append_run _ rfl _ _ 25 25 rfl _ _ rfl rfl _ _ HA5.out ?_)
   try rw [HW5.out]
   clear HA5 x2 o32 o52 f52 HW5 hr5 re5 k5 hbx5 hW5
   obtain ⟨g0, g1, g2⟩ := cz3 HC5.out.box
   have hres : W5.heap[X + 1]? = some (.cells #[.slice none 0 0, .slice none 0 0, .slice none 0 0] 27 (0, 0)) := (HC5.out.k.block _ (lt_of_heap HR0.out) (by simp)).trans HR0.out
   obtain ⟨t0, t1, t2, t3, t4, t5⟩ := cells3 hres
   have hlt1 : X + 1 < W1.heap.size := lt_of_heap HR0.out
   obtain ⟨W9, hW9⟩ : ∃ W9, ((W5.setCell ⟨X + 1, 0, none⟩ (.slice a1 S.ino.length c1)).setCell ⟨X + 1, 1, none⟩ (.slice aa2 S.opn.length cc2)).setCell ⟨X + 1, 2, none⟩ (.slice aa3 S.made.length cc3) = W9 := ⟨_, rfl⟩
   have h9 : W9.heap[X + 1]? = some (.cells #[.slice a1 S.ino.length c1, .slice aa2 S.opn.length cc2, .slice aa3 S.made.length cc3] 27 (0, 0)) := by
    rw [← hW9, block_set (block_set (block_set hres 0 _) 1 _) 2 _]; rfl
   have kk : Kept [X + 1] W5 W9 := by
    rw [← hW9]; exact (((Kept.refl [X + 1] W5).setCell (Or.inl (by simp)) _).setCell (Or.inl (by simp)) _).setCell (Or.inl (by simp)) _
   have HOs : Hid (Os W9 w.heap.size (.slice a1 S.ino.length c1) (.slice aa2 S.opn.length cc2) (.slice aa3 S.made.length cc3) ev S ∧ Kept [] w W9) := by
    have hoff : Off [X + 1] (.slice a1 S.ino.length c1) (.slice aa2 S.opn.length cc2) (.slice aa3 S.made.length cc3) ev := off_of ⟨fun e => by have := HC5.out.os.ino.lt _ e; omega, fun e => by have := HC5.out.os.opn.lt _ e; omega, fun e => by have := HC5.out.os.mad.lt _ e; omega, fun v hv e => by
     obtain ⟨i, hi, rfl⟩ := List.getElem_of_mem hv
     have := (HC5.out.os.ent i (by rw [← HC5.out.os.evl]; exact hi) hi).lt _ e; omega⟩
    have h1 := HB1.out.k.size
    exact ⟨(HC5.out.os.keep kk hoff).less (by have := HX0.out; omega), (HB1.out.k.trans HC5.out.k (by simp)).trans kk (fun x hx => by rw [List.mem_singleton] at hx; subst hx; right; have := HX0.out; omega)⟩
   have HW9 : Hid (_) := hW9
   clear hW9 kk hres HC5 HJ HCe HC3
   go_wp2_with fail
   (try simp only [Exit.inBlock, Exit.then])
   rw [HW9.out]
   refine bodyPost_ret (results_cell_row rfl _ _ (X + 1) 27 #[.slice a1 S.ino.length c1, .slice aa2 S.opn.length cc2, .slice aa3 S.made.length cc3] (0, 0) _ rfl h9 Tryz.underlying27 rfl (by kernel_rfl)) rfl ?_
   exact ⟨_, _, _, rfl, ⟨_, HOs.out.1⟩, HOs.out.2⟩
theorem Hc.opn {w0 w w' : World} {X : Nat} {v1 v2 v2' v3 : Value} {ev : List Value} {S : Sta} {D : List Ds} (h : Hc w0 w X v1 v2 v3 ev S) (k : Kept [] w w') (r : w'.ownsRow w.heap.size 83 3 v2' D.length (desC D)) :
  Hc w0 (w'.setCell ⟨X, 1, none⟩ v2') X v1 v2' v3 ev ⟨S.ino, D, S.made⟩ := by
 have h' := h.kept k
 have hnew : ∀ b, v2'.ownBlock = some b → w.heap.size ≤ b := fun b hb => (r.lt b hb).1
 have hX := lt_of_heap h.box
 have hk := h.k.size
 have kk : Kept [X] w' (w'.setCell ⟨X, 1, none⟩ v2') := kept_set
 have hoff2 : v2'.ownBlock ≠ some X := fun e => by have := hnew _ e; omega
 have h1 : Ap v1 v2' := fun b e1 e2 => by have := (h.os.ino.lt b e1).2; have := hnew b e2; omega
 have h3 : Ap v2' v3 := fun b e1 e2 => by have := (h.os.mad.lt b e2).2; have := hnew b e1; omega
 have o := h'.os.keep kk h'.off
 refine ⟨by rw [block_set h'.box 1 v2']; rfl, ⟨o.ino, o.evl, o.ent, row_keep (row_less r hk) kk (by simpa using hoff2), o.mad, h1, o.a13, h3, fun v hv => ⟨(o.ae v hv).1, fun b e1 e2 => ?_, (o.ae v hv).2.2⟩, o.aee⟩, off_of ⟨(h.off X (by simp)).1, hoff2, (h.off X (by simp)).2.2.1, (h.off X (by simp)).2.2.2⟩, h.lo, h'.k.setCell (Or.inr h.lo) _⟩
 obtain ⟨i, hi, rfl⟩ := List.getElem_of_mem hv
 have := ((h.os.ent i (by rw [← h.os.evl]; exact hi) hi).lt b e2).2
 have := hnew b e1
 omega
theorem Hc.beside {w0 w : World} {X : Nat} {v1 v2 v3 : Value} {ev : List Value} {S : Sta} (h : Hc w0 w X v1 v2 v3 ev S) {Z : Nat} (hZ : w0.heap.size ≤ Z) (hX : X ≠ Z) (ho : Off [Z] v1 v2 v3 ev) (i : Nat) (v : Value) : Hc w0 (w.setCell ⟨Z, i, none⟩ v) X v1 v2 v3 ev S :=
 ⟨by rw [block_other hX]; exact h.box, h.os.keep kept_set ho, h.off, h.lo, h.k.setCell (Or.inr hZ) v⟩
@[reducible] def laidY (w : World) (Z : Nat) (u0 u1 u2 u3 u4 u5 : Value) : World := (((((w.setCell ⟨Z, 0, none⟩ u0).setCell ⟨Z, 1, none⟩ u1).setCell ⟨Z, 2, none⟩ u2).setCell ⟨Z, 3, none⟩ u3).setCell ⟨Z, 4, none⟩ u4).setCell ⟨Z, 5, none⟩ u5
theorem Hc.laidY {w0 w : World} {X : Nat} {v1 v2 v3 : Value} {ev : List Value} {S : Sta} (h : Hc w0 w X v1 v2 v3 ev S) {Z : Nat} (hZ : w0.heap.size ≤ Z) (hX : X ≠ Z) (ho : Off [Z] v1 v2 v3 ev) (u0 u1 u2 u3 u4 u5 : Value) : Hc w0 (laidY w Z u0 u1 u2 u3 u4 u5) X v1 v2 v3 ev S :=
 (((((h.beside hZ hX ho 0 u0).beside hZ hX ho 1 u1).beside hZ hX ho 2 u2).beside hZ hX ho 3 u3).beside hZ hX ho 4 u4).beside hZ hX ho 5 u5
theorem keptY {W w : World} {F : List Nat} (k : Kept F W w) {Z : Nat} (hZ : W.heap.size ≤ Z) (u0 u1 u2 u3 u4 u5 : Value) : Kept F W (laidY w Z u0 u1 u2 u3 u4 u5) :=
 (((((k.setCell (Or.inr hZ) u0).setCell (Or.inr hZ) u1).setCell (Or.inr hZ) u2).setCell (Or.inr hZ) u3).setCell (Or.inr hZ) u4).setCell (Or.inr hZ) u5
theorem blockY {w : World} {Z : Nat} {c0 c1 c2 c3 c4 c5 : Value} {t : TypeId} (h : w.heap[Z]? = some (.cells #[c0, c1, c2, c3, c4, c5] t (0, 0))) (u0 u1 u2 u3 u4 u5 : Value) : (laidY w Z u0 u1 u2 u3 u4 u5).heap[Z]? = some (.cells #[u0, u1, u2, u3, u4, u5] t (0, 0)) := by
 unfold Go.Proofs.YtffncojcnbhblaaGreatDoor.laidY
 rw [block_set (block_set (block_set (block_set (block_set (block_set h 0 _) 1 _) 2 _) 3 _) 4 _) 5 _]
 rfl
theorem r_grab {w0 w : World} {X : Nat} {v1 v3 : Value} {a2 : Option Addr} {c2 : Nat} {ev : List Value} {L : List Ino} {M : List Int} (h : Hc w0 w X v1 (.slice a2 0 c2) v3 ev ⟨L, [], M⟩) (hf : ∃ a l c, v1 = .slice a l c) (hg : ∃ a l c, v3 = .slice a l c) (core fd num : Int) :
  Calls Tryz.prog 96 #[.pointer (some ⟨X, 0, none⟩), .int .i64 core, .int .i64 fd, .int .i64 num] w fun e w' => e = .returned (.tuple #[]) ∧ ∃ a2' c2', Hc w0 w' X v1 (.slice a2' 1 c2') v3 ev ⟨L, [(core, fd, num)], M⟩ ∧ Kept [X] w w' ∧ ∀ b, (Value.slice a2' 1 c2').ownBlock = some b → w.heap.size ≤ b := by
 obtain ⟨W1, Z, HW, HKW, z0, z1, z2⟩ := box3 w (.int .i64 core) (.int .i64 fd) (.int .i64 num) 83
 have HH : Hid (_) := h.kept HKW.out
 obtain ⟨v2', w3, hr, re, k3⟩ := app_Desc (W := W1) (w := W1.alloc (.cells #[.int .i64 core, .int .i64 fd, .int .i64 num] 83 (0, 0))) ((Kept.refl [] W1).alloc _) (World.ownsRow_nil _ _ _ _) (some ⟨W1.heap.size, 0, none⟩) 1 1 (desC [(core, fd, num)]) rfl (by omega) (fun j v hj => ⟨_, _, rfl, by rw [Nat.zero_add, cell_new, ← hj]; simp [desC]⟩) desC_one 24
 have HE : Hid (Hc w0 (w3.setCell ⟨X, 1, none⟩ v2') X v1 v2' v3 ev ⟨L, [(core, fd, num)], M⟩) := HH.out.opn (D := [(core, fd, num)]) k3 re
 have HKf : Hid (Kept [X] w (w3.setCell ⟨X, 1, none⟩ v2')) := ((HKW.out.trans k3 (by simp)).mono (by simp)).setCell (Or.inl (by simp)) _
 obtain ⟨a2', c2', hv2, -⟩ := row_form re
 have hv3 : v2' = .slice a2' 1 c2' := hv2
 subst hv3
 have hbx : w3.heap[X]? = some (.cells #[v1, .slice a2 0 c2, v3] 27 (0, 0)) := (HH.out.kept k3).box
 have x1 : W1.cell? ⟨X, 1, none⟩ = some (.slice a2 0 c2) := cellB HH.out.box
 have y1 : w3.cell? ⟨X, 1, none⟩ = some (.slice a2 0 c2) := cellB hbx
 have f1 := frozen_of hbx 1
 have HNb : Hid (∀ b, (Value.slice a2' 1 c2').ownBlock = some b → w.heap.size ≤ b) := fun b hb => by have := (re.lt b hb).1; have := HKW.out.size; omega
 have HA : Hid (_) := hr
 clear h hr re k3 hv2 hbx
 go_enter Tryz.func96, Tryz.ntmps96
 go_upto_region 1 with fail
 rw [HW.out.1, HW.out.2]
 clear HW
 go_wp2_with fail
 go_loopw [9, 10, 11] (fun u dn i wr => u = .slice none 0 0 ∧ dn = .bool false ∧ i = .int .i64 0 ∧ wr = W1) (fun _ _ _ _ => 0)
 case atStart => exact ⟨rfl, rfl, rfl, rfl⟩
 case round =>
  obtain ⟨rfl, rfl, rfl, hw⟩ := hrel
  have hw2 := hw.symm
  subst hw2
  clear hw
  go_wp2_with (at_builtin; refine wpList_append_run _ rfl _ _ 24 24 rfl _ _ rfl rfl _ _ HA.out ?_)
  go_end0
  first
   | exact ⟨rfl, a2', c2', HE.out, HKf.out, HNb.out⟩
   | exact ⟨rfl, ⟨a2', c2', HE.out, HNb.out⟩, HKf.out⟩
end Go.Proofs.YtffncojcnbhblaaGreatDoor
