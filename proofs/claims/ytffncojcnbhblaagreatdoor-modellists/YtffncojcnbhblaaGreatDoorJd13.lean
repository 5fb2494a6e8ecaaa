/-
  Joined of my texts Cq Th.
-/
import Derived.Test.YtffncojcnbhblaaGreatDoorJd12
import Derived.Test.YtffncojcnbhblaaGreatDoorTk
set_option linter.unusedVariables false
set_option linter.unusedSimpArgs false
set_option maxRecDepth 100000
set_option maxHeartbeats 8000000
namespace Go.Proofs.YtffncojcnbhblaaGreatDoor
open Go.RowKit
theorem des_cells {w : World} {a : Option Addr} {D : List Ds} (h : DesA w a D) : ∀ j u, (desC D)[j]? = some u → ∃ b o, a = some ⟨b, o, none⟩ ∧ w.cell? ⟨b, o + j, none⟩ = some u := by
 intro j u hj
 have hl : j < D.length * 3 := by
  rw [← desC_length]
  rcases Nat.lt_or_ge j (desC D).length with h | h
  · exact h
  · rw [List.getElem?_eq_none h] at hj; cases hj
 obtain ⟨i, r, hr, rfl⟩ : ∃ i r, r < 3 ∧ j = i * 3 + r := ⟨j / 3, j % 3, by omega, by omega⟩
 have hi : i < D.length := by omega
 obtain ⟨b, o, ha, h0, h1, h2⟩ := h i hi
 obtain ⟨q0, q1, q2⟩ := desC_get hi
 refine ⟨b, o, ha, ?_⟩
 rcases (show r = 0 ∨ r = 1 ∨ r = 2 by omega) with rfl | rfl | rfl
 · rw [Nat.add_zero] at hj ⊢; rw [h0, ← hj, q0]
 · rw [← Nat.add_assoc, h1, ← hj, q1]
 · rw [← Nat.add_assoc, h2, ← hj, q2]
theorem int_cells {w : World} {a : Option Addr} {M : List Int} (h : IntA w a M) : ∀ j u, (M.map (Value.int .i64))[j]? = some u → ∃ b o, a = some ⟨b, o, none⟩ ∧ w.cell? ⟨b, o + j, none⟩ = some u := by
 intro j u hj
 have hl : j < M.length := by
  rcases Nat.lt_or_ge j M.length with h | h
  · exact h
  · rw [List.getElem?_eq_none (by simpa using h)] at hj; cases hj
 obtain ⟨b, o, ha, h0⟩ := h j hl
 refine ⟨b, o, ha, ?_⟩
 rw [h0, ← hj]
 simp [hl]
theorem ent_cells {w : World} {a : Option Addr} {E : List En} (h : EntA w a E) : ∀ j u, (flat E)[j]? = some u → ∃ b o, a = some ⟨b, o, none⟩ ∧ w.cell? ⟨b, o + j, none⟩ = some u := by
 intro j u hj
 have hl : j < E.length * 2 := by
  rw [← flat_length]
  rcases Nat.lt_or_ge j (flat E).length with h | h
  · exact h
  · rw [List.getElem?_eq_none h] at hj; cases hj
 obtain ⟨i, r, hr, rfl⟩ : ∃ i r, r < 2 ∧ j = i * 2 + r := ⟨j / 2, j % 2, by omega, by omega⟩
 have hi : i < E.length := by omega
 obtain ⟨b, o, ha, h0, h1⟩ := h i hi
 obtain ⟨q0, q1⟩ := flat_get E i _ (List.getElem?_eq_getElem hi)
 refine ⟨b, o, ha, ?_⟩
 rcases (show r = 0 ∨ r = 1 by omega) with rfl | rfl
 · rw [Nat.add_zero] at hj ⊢; rw [h0, ← hj, q0]
 · rw [← Nat.add_assoc, h1, ← hj, q1]
theorem clone_opn {w W : World} {p : Pl} {S : Sta} (h : Sv w p S) (hb : Bd S) (k : Kept [] w W) : Calls Tryz.prog 42 #[.slice p.a2 S.opn.length p.c2] W fun e w' => ∃ v', e = .returned v' ∧ w'.ownsRow W.heap.size 83 3 v' S.opn.length (desC S.opn) ∧ Kept [] W w' :=
 clone_Desc _ _ _ _ desC_length hb.n2 h.f2 (des_cells (h.des.kept k)) desC_one
theorem clone_mad {w W : World} {p : Pl} {S : Sta} (h : Sv w p S) (hb : Bd S) (k : Kept [] w W) : Calls Tryz.prog 43 #[.slice p.a3 S.made.length p.c3] W fun e w' => ∃ v', e = .returned v' ∧ w'.ownsRow W.heap.size 3 1 v' S.made.length (S.made.map (Value.int .i64)) ∧ Kept [] W w' :=
 clone_int _ _ _ _ (by simp) hb.n3 h.f3 (int_cells (h.mad.kept k)) (ints_oneCell _)
theorem cells3 {w : World} {B : Nat} {x y z : Value} {t : TypeId} (h : w.heap[B]? = some (.cells #[x, y, z] t (0, 0))) : w.cell? ⟨B, 0, none⟩ = some x ∧ w.cell? ⟨B, 1, none⟩ = some y ∧ w.cell? ⟨B, 2, none⟩ = some z ∧ w.frozen? ⟨B, 0, none⟩ = false ∧ w.frozen? ⟨B, 1, none⟩ = false ∧ w.frozen? ⟨B, 2, none⟩ = false :=
 ⟨cellB h, cellB h, cellB h, frozen_of h 0, frozen_of h 1, frozen_of h 2⟩
theorem own_box {W1 Wx w' : World} {o : Obj} {P : Prop} (hs : Kept [] W1 Wx ∧ P) (k : Kept [] (Wx.alloc o) w') : w'.heap[Wx.heap.size]? = some o ∧ W1.heap.size ≤ Wx.heap.size :=
 ⟨(k.block _ (by simp) (by simp)).trans (Go.heap_alloc_new _ _), hs.1.size⟩
theorem own_box2 {W1 Wx w' : World} {o : Obj} {P : Prop} (hs : Kept [] W1 Wx ∧ P) (k : Kept [] (Wx.drew.alloc o) w') : w'.heap[Wx.heap.size]? = some o ∧ W1.heap.size ≤ Wx.heap.size :=
 ⟨(k.block _ (by show Wx.heap.size < _; simp) (by simp)).trans (Go.heap_alloc_new _ _), hs.1.size⟩
theorem own_box3 {W1 Wx w' : World} {o : Obj} {P : Prop} (hs : Kept [] W1 Wx ∧ P) (k : Kept [] ((Wx.alloc o).drew) w') : w'.heap[Wx.heap.size]? = some o ∧ W1.heap.size ≤ Wx.heap.size :=
 ⟨(k.block _ (by show Wx.heap.size < (Wx.alloc o).heap.size; simp) (by simp)).trans (Go.heap_alloc_new _ _), hs.1.size⟩
theorem ck_set {W1 w : World} {X B : Nat} {v2 v3 a b c : Value} (h : Kept [] W1 w ∧ w.cell? ⟨X, 1, none⟩ = some v2 ∧ w.cell? ⟨X, 2, none⟩ = some v3) (hlo : W1.heap.size ≤ B) (hX : X < W1.heap.size) :
  Kept [] W1 (((w.setCell ⟨B, 0, none⟩ a).setCell ⟨B, 1, none⟩ b).setCell ⟨B, 2, none⟩ c) ∧ (((w.setCell ⟨B, 0, none⟩ a).setCell ⟨B, 1, none⟩ b).setCell ⟨B, 2, none⟩ c).cell? ⟨X, 1, none⟩ = some v2 ∧ (((w.setCell ⟨B, 0, none⟩ a).setCell ⟨B, 1, none⟩ b).setCell ⟨B, 2, none⟩ c).cell? ⟨X, 2, none⟩ = some v3 := by
 have hne : X ≠ B := by omega
 refine ⟨((h.1.setCell (Or.inr hlo) _).setCell (Or.inr hlo) _).setCell (Or.inr hlo) _, ?_, ?_⟩
 · rw [cellO hne, cellO hne, cellO hne]; exact h.2.1
 · rw [cellO hne, cellO hne, cellO hne]; exact h.2.2
structure Fin2 (W1 w : World) (B : Nat) (o : Obj) (va vb : Value) (Ta Tb : TypeId) (ka kb na nb : Nat) (xa xb : List Value) : Prop where
 k : Kept [] W1 w
 here : w.heap[B]? = some o
 lo : W1.heap.size ≤ B
 ra : w.ownsRow W1.heap.size Ta ka va na xa
 rb : w.ownsRow W1.heap.size Tb kb vb nb xb
 ap : Ap va vb
 pa : va.ownBlock ≠ some B
 pb : vb.ownBlock ≠ some B
theorem Fin2.out {W1 w : World} {B : Nat} {o : Obj} {va vb : Value} {Ta Tb : TypeId} {ka kb na nb : Nat} {xa xb : List Value} (F : Fin2 W1 w B o va vb Ta Tb ka kb na nb xa xb) :
 Kept [] W1 w ∧ w.heap[B]? = some o ∧ W1.heap.size ≤ B ∧ w.ownsRow W1.heap.size Ta ka va na xa ∧ w.ownsRow W1.heap.size Tb kb vb nb xb ∧ Ap va vb ∧ va.ownBlock ≠ some B ∧ vb.ownBlock ≠ some B := ⟨F.k, F.here, F.lo, F.ra, F.rb, F.ap, F.pa, F.pb⟩
theorem fin1 {W1 wa wb : World} {o : Obj} {va vb : Value} {Ta Tb : TypeId} {ka kb na nb ba bb : Nat} {xa xb : List Value} (k1 : Kept [] W1 wa) (k2 : Kept [] wa wb) (ra : wa.ownsRow ba Ta ka va na xa) (hba : W1.heap.size ≤ ba) (rb : wb.ownsRow bb Tb kb vb nb xb) (hbb : wa.heap.size ≤ bb) :
  Fin2 W1 (wb.alloc o) wb.heap.size o va vb Ta Tb ka kb na nb xa xb := by
 have h1 := k1.size
 have h2 := k2.size
 refine ⟨(k1.trans k2 (by simp)).alloc _, Go.heap_alloc_new _ _, by omega, (row_keep (row_less ra hba) k2 (by simp)).alloc _, (row_less rb (by omega)).alloc _, fun k ha hb => ?_, fun ha => ?_, fun hb => ?_⟩
 · have := ra.lt k ha; have := rb.lt k hb; omega
 · have := ra.lt _ ha; omega
 · have := rb.lt _ hb; omega
theorem fin_set {W1 w : World} {B : Nat} {x y z x' y' z' : Value} {t : TypeId} {va vb : Value} {Ta Tb : TypeId} {ka kb na nb : Nat} {xa xb : List Value} (k : Kept [] W1 w) (hb : w.heap[B]? = some (.cells #[x, y, z] t (0, 0))) (lo : W1.heap.size ≤ B)
  (ra : w.ownsRow W1.heap.size Ta ka va na xa) (rb : w.ownsRow W1.heap.size Tb kb vb nb xb) (ap : Ap va vb) (pa : va.ownBlock ≠ some B) (pb : vb.ownBlock ≠ some B) :
  Fin2 W1 (((w.setCell ⟨B, 0, none⟩ x').setCell ⟨B, 1, none⟩ y').setCell ⟨B, 2, none⟩ z') B (.cells #[x', y', z'] t (0, 0)) va vb Ta Tb ka kb na nb xa xb := by
 have kk : Kept [B] w (((w.setCell ⟨B, 0, none⟩ x').setCell ⟨B, 1, none⟩ y').setCell ⟨B, 2, none⟩ z') := (((Kept.refl [B] w).setCell (Or.inl (by simp)) _).setCell (Or.inl (by simp)) _).setCell (Or.inl (by simp)) _
 refine ⟨((k.setCell (Or.inr lo) _).setCell (Or.inr lo) _).setCell (Or.inr lo) _, ?_, lo, row_keep ra kk (by simpa using pa), row_keep rb kk (by simpa using pb), ap, pa, pb⟩
 rw [block_set (block_set (block_set hb 0 x') 1 y') 2 z']
 rfl
theorem fin2 {W1 wa wb : World} {o : Obj} {x y z x' y' z' : Value} {t : TypeId} {va vb : Value} {Ta Tb : TypeId} {ka kb na nb ba bb : Nat} {xa xb : List Value} (k1 : Kept [] W1 wa) (k2 : Kept [] (wa.alloc o) wb) (hb : wb.heap[wa.heap.size]? = some (.cells #[x, y, z] t (0, 0))) (ra : wa.ownsRow ba Ta ka va na xa) (hba : W1.heap.size ≤ ba) (rb : wb.ownsRow bb Tb kb vb nb xb) (hbb : (wa.alloc o).heap.size ≤ bb) :
  Fin2 W1 (((wb.setCell ⟨wa.heap.size, 0, none⟩ x').setCell ⟨wa.heap.size, 1, none⟩ y').setCell ⟨wa.heap.size, 2, none⟩ z') wa.heap.size (.cells #[x', y', z'] t (0, 0)) va vb Ta Tb ka kb na nb xa xb := by
 have h1 := k1.size
 have h2 := k2.size
 have h3 : (wa.alloc o).heap.size = wa.heap.size + 1 := by simp
 refine fin_set ((k1.alloc o).trans k2 (by simp)) hb (by omega) (row_keep ((row_less ra hba).alloc _) k2 (by simp)) (row_less rb (by omega)) (fun k ha hb => ?_) (fun ha => ?_) (fun hb => ?_)
 · have := ra.lt k ha; have := rb.lt k hb; omega
 · have := ra.lt _ ha; omega
 · have := rb.lt _ hb; omega
theorem fin3 {W1 wa wb : World} {x y z x' y' z' : Value} {t : TypeId} {va vb : Value} {Ta Tb : TypeId} {ka kb na nb ba bb B : Nat} {xa xb : List Value} (hB : W1.heap.size ≤ B) (k1 : Kept [] W1 wa) (k2 : Kept [] wa wb) (hb : wb.heap[B]? = some (.cells #[x, y, z] t (0, 0))) (ra : wa.ownsRow ba Ta ka va na xa) (hba : B < ba) (rb : wb.ownsRow bb Tb kb vb nb xb) (hbb : wa.heap.size ≤ bb) (hw : B < wa.heap.size) :
  Fin2 W1 (((wb.setCell ⟨B, 0, none⟩ x').setCell ⟨B, 1, none⟩ y').setCell ⟨B, 2, none⟩ z') B (.cells #[x', y', z'] t (0, 0)) va vb Ta Tb ka kb na nb xa xb := by
 have h1 := k1.size
 have h2 := k2.size
 refine fin_set (k1.trans k2 (by simp)) hb hB (row_keep (row_less ra (by omega)) k2 (by simp)) (row_less rb (by omega)) (fun k ha hb => ?_) (fun ha => ?_) (fun hb => ?_)
 · have := ra.lt k ha; have := rb.lt k hb; omega
 · have := ra.lt _ ha; omega
 · have := rb.lt _ hb; omega
theorem ck_kept {W1 w w' : World} {X : Nat} {v2 v3 : Value} (h : Kept [] W1 w ∧ w.cell? ⟨X, 1, none⟩ = some v2 ∧ w.cell? ⟨X, 2, none⟩ = some v3) (k : Kept [] w w') : Kept [] W1 w' ∧ w'.cell? ⟨X, 1, none⟩ = some v2 ∧ w'.cell? ⟨X, 2, none⟩ = some v3 :=
 ⟨h.1.trans k (by simp), k.cell h.2.1 (by simp), k.cell h.2.2 (by simp)⟩
theorem p_copied {w : World} {p : Pl} {S : Sta} (h : Sv w p S) (hb : Bd S) :
  Calls Tryz.prog 28 #[sval p S] w fun e w' => ∃ v1 v2 v3 ev, e = .returned (.agg #[v1, v2, v3]) ∧ Os w' w.heap.size v1 v2 v3 ev S ∧ Kept [] w w' := by
 have HBd : Hid (Bd S) := hb
 obtain ⟨W0, X, HW, HB⟩ := boxS h
 obtain ⟨W1, R, HWR, HKR, r0, r1, r2'⟩ := box3 W0 (.slice none 0 0) (.slice none 0 0) (.slice none 0 0) 27
 have HB1 : Hid (_) := HB.out.kept HKR.out
 have HC : Hid (Kept [] W1 W1 ∧ W1.cell? ⟨X, 1, none⟩ = some (.slice p.a2 S.opn.length p.c2) ∧ W1.cell? ⟨X, 2, none⟩ = some (.slice p.a3 S.made.length p.c3)) := ⟨Kept.refl _ _, HB1.out.x1, HB1.out.x2⟩
 clear h hb
 go_enter Tryz.func28, Tryz.ntmps28
 go_upto_region 1 with fail
 have HR0 : Hid (W1.heap[R]? = some (.cells #[.slice none 0 0, .slice none 0 0, .slice none 0 0] 27 (0, 0))) := by
  rw [← HWR.out.1, ← HWR.out.2]; exact Go.heap_alloc_new _ _
 have HX0 : Hid (w.heap.size = X) := HW.out.2
 have hR : R = X + 1 := by rw [← HWR.out.2, ← HW.out.1, ← HW.out.2]; simp
 rw [HW.out.1, HW.out.2, HWR.out.1]
 subst hR
 have HX : Hid (X < W1.heap.size) := block_lt_of_cell HB1.out.x1
 clear HW HWR
 refine Code.wp_mono (Q := fun e a w' => e = Exit.normal ∧ ∃ (Bo : Nat) (v2 v3 u7 u8 u9 u10 u11 u12 u13 : Value), a = { tmps := #[sval p S, .pointer (some ⟨X, 0, none⟩), .pointer (some ⟨X + 1, 0, none⟩), .pointer (some ⟨Bo, 0, none⟩), undef, undef, undef, u7, u8, u9, u10, u11, u12, u13, undef, undef, undef, undef, undef, undef, undef, undef, undef, undef, undef, undef, undef, undef, undef, undef, undef, undef, undef, undef, undef, undef, undef, undef, undef, undef, undef, undef, undef, undef, undef, undef, undef, undef, undef, undef, undef, undef, undef, undef, undef, undef], defers := [] } ∧
  Kept [] W1 w' ∧ w'.heap[Bo]? = some (.cells #[.slice none 0 0, v2, v3] 27 (0, 0)) ∧ W1.heap.size ≤ Bo ∧ w'.ownsRow W1.heap.size 83 3 v2 S.opn.length (desC S.opn) ∧ w'.ownsRow W1.heap.size 3 1 v3 S.made.length (S.made.map (Value.int .i64)) ∧ Ap v2 v3 ∧ v2.ownBlock ≠ some Bo ∧ v3.ownBlock ≠ some Bo) ?imp ?reg
 case reg =>
  go_region_held3 (fun w' => Kept [] W1 w' ∧ w'.cell? ⟨X, 1, none⟩ = some (.slice p.a2 S.opn.length p.c2) ∧ w'.cell? ⟨X, 2, none⟩ = some (.slice p.a3 S.made.length p.c3)) (first | exact HC.out | exact zo2 | exact zo3 | exact ck_set zo2 hlo HX.out | exact ck_set zo3 hlo HX.out | exact ck_set (by assumption) hlo HX.out | exact ck_kept (by assumption) ((Kept.refl _ _).alloc _) | exact ck_kept (by assumption) (((Kept.refl _ _).alloc _).drew) | exact ck_kept (by assumption) (Kept.refl _ _).drew | go_keep)
   (first
    | (go_at_call 42; refine (clone_opn HB1.out.sv HBd.out (And.left (by assumption))).mono ?_; rintro e wo2 ⟨v2, rfl, o2, ko2⟩; obtain ⟨av2, cv2, hv, -⟩ := row_form o2; subst hv; have zo2 := ck_kept (by assumption) ko2; first | (have hbb := own_box (by assumption) ko2; obtain ⟨hbo2, hlo⟩ := hbb; obtain ⟨ca, cb, cc, fa, fb, fc⟩ := cells3 hbo2) | (have hbb := own_box2 (by assumption) ko2; obtain ⟨hbo2, hlo⟩ := hbb; obtain ⟨ca, cb, cc, fa, fb, fc⟩ := cells3 hbo2) | (have hbb := own_box3 (by assumption) ko2; obtain ⟨hbo2, hlo⟩ := hbb; obtain ⟨ca, cb, cc, fa, fb, fc⟩ := cells3 hbo2) | (have hbo2 := (ko2.block _ (lt_of_heap hbo2) (by simp)).trans hbo2; clear ca cb cc fa fb fc; obtain ⟨ca, cb, cc, fa, fb, fc⟩ := cells3 hbo2) | (have hbo2 := (ko2.block _ (lt_of_heap hbo3) (by simp)).trans hbo3; clear ca cb cc fa fb fc; obtain ⟨ca, cb, cc, fa, fb, fc⟩ := cells3 hbo2) | skip)
    | (go_at_call 42; refine (clone_opn HB1.out.sv HBd.out ((And.left (by assumption : _ ∧ _)).drew)).mono ?_; rintro e wo2 ⟨v2, rfl, o2, ko2⟩; obtain ⟨av2, cv2, hv, -⟩ := row_form o2; subst hv; have zo2 := ck_kept (by assumption) ko2; first | (have hbb := own_box (by assumption) ko2; obtain ⟨hbo2, hlo⟩ := hbb; obtain ⟨ca, cb, cc, fa, fb, fc⟩ := cells3 hbo2) | (have hbb := own_box2 (by assumption) ko2; obtain ⟨hbo2, hlo⟩ := hbb; obtain ⟨ca, cb, cc, fa, fb, fc⟩ := cells3 hbo2) | (have hbb := own_box3 (by assumption) ko2; obtain ⟨hbo2, hlo⟩ := hbb; obtain ⟨ca, cb, cc, fa, fb, fc⟩ := cells3 hbo2) | (have hbo2 := (ko2.block _ (lt_of_heap hbo2) (by simp)).trans hbo2; clear ca cb cc fa fb fc; obtain ⟨ca, cb, cc, fa, fb, fc⟩ := cells3 hbo2) | (have hbo2 := (ko2.block _ (lt_of_heap hbo3) (by simp)).trans hbo3; clear ca cb cc fa fb fc; obtain ⟨ca, cb, cc, fa, fb, fc⟩ := cells3 hbo2) | skip)
    | (go_at_call 43; refine (clone_mad HB1.out.sv HBd.out (And.left (by assumption))).mono ?_; rintro e wo3 ⟨v3, rfl, o3, ko3⟩; obtain ⟨av3, cv3, hv, -⟩ := row_form o3; subst hv; have zo3 := ck_kept (by assumption) ko3; first | (have hbb := own_box (by assumption) ko3; obtain ⟨hbo3, hlo⟩ := hbb; obtain ⟨ca, cb, cc, fa, fb, fc⟩ := cells3 hbo3) | (have hbb := own_box2 (by assumption) ko3; obtain ⟨hbo3, hlo⟩ := hbb; obtain ⟨ca, cb, cc, fa, fb, fc⟩ := cells3 hbo3) | (have hbb := own_box3 (by assumption) ko3; obtain ⟨hbo3, hlo⟩ := hbb; obtain ⟨ca, cb, cc, fa, fb, fc⟩ := cells3 hbo3) | (have hbo3 := (ko3.block _ (lt_of_heap hbo2) (by simp)).trans hbo2; clear ca cb cc fa fb fc; obtain ⟨ca, cb, cc, fa, fb, fc⟩ := cells3 hbo3) | (have hbo3 := (ko3.block _ (lt_of_heap hbo3) (by simp)).trans hbo3; clear ca cb cc fa fb fc; obtain ⟨ca, cb, cc, fa, fb, fc⟩ := cells3 hbo3) | skip)
    | (go_at_call 43; refine (clone_mad HB1.out.sv HBd.out ((And.left (by assumption : _ ∧ _)).drew)).mono ?_; rintro e wo3 ⟨v3, rfl, o3, ko3⟩; obtain ⟨av3, cv3, hv, -⟩ := row_form o3; subst hv; have zo3 := ck_kept (by assumption) ko3; first | (have hbb := own_box (by assumption) ko3; obtain ⟨hbo3, hlo⟩ := hbb; obtain ⟨ca, cb, cc, fa, fb, fc⟩ := cells3 hbo3) | (have hbb := own_box2 (by assumption) ko3; obtain ⟨hbo3, hlo⟩ := hbb; obtain ⟨ca, cb, cc, fa, fb, fc⟩ := cells3 hbo3) | (have hbb := own_box3 (by assumption) ko3; obtain ⟨hbo3, hlo⟩ := hbb; obtain ⟨ca, cb, cc, fa, fb, fc⟩ := cells3 hbo3) | (have hbo3 := (ko3.block _ (lt_of_heap hbo2) (by simp)).trans hbo2; clear ca cb cc fa fb fc; obtain ⟨ca, cb, cc, fa, fb, fc⟩ := cells3 hbo3) | (have hbo3 := (ko3.block _ (lt_of_heap hbo3) (by simp)).trans hbo3; clear ca cb cc fa fb fc; obtain ⟨ca, cb, cc, fa, fb, fc⟩ := cells3 hbo3) | skip))
  all_goals first
   | exact ⟨rfl, _, _, _, _, _, _, _, _, _, _, rfl, (fin1 zo2.1 ko3 o2 (Nat.le_refl _) o3 (Nat.le_refl _)).out⟩
   | exact ⟨rfl, _, _, _, _, _, _, _, _, _, _, rfl, (fin2 zo2.1 ko3 hbo3 o2 (Nat.le_refl _) o3 (Nat.le_refl _)).out⟩
   | exact ⟨rfl, _, _, _, _, _, _, _, _, _, _, rfl, (fin3 hlo zo2.1 ko3 hbo3 o2 (by simp) o3 (Nat.le_refl _) (lt_of_heap hbo2)).out⟩
   | exact ⟨rfl, _, _, _, _, _, _, _, _, _, _, rfl, (fin1 zo3.1 ko2 o3 (Nat.le_refl _) o2 (Nat.le_refl _)).swap⟩
   | exact ⟨rfl, _, _, _, _, _, _, _, _, _, _, rfl, (fin2 zo3.1 ko2 hbo2 o3 (Nat.le_refl _) o2 (Nat.le_refl _)).swap⟩
   | exact ⟨rfl, _, _, _, _, _, _, _, _, _, _, rfl, (fin3 hlo zo3.1 ko2 hbo2 o3 (by simp) o2 (Nat.le_refl _) (lt_of_heap hbo3)).swap⟩
   | trace_state
 case imp =>
  rintro e a w1 ⟨rfl, Bo, v2, v3, u7, u8, u9, u10, u11, u12, u13, rfl, k1, hbo, lo, r2, r3, ap, p2, p3⟩
  have HC1 : Hid (Cy W1 w1 Bo (.slice none 0 0) v2 v3 [] (upTo S 0)) := ⟨k1, hbo, ⟨World.ownsRow_nil _ _ _ _, rfl, fun i hi => (by simp at hi), r2, r3, fun k hk => (by cases hk), fun k hk => (by cases hk), ap, fun v hv => (by cases hv), List.Pairwise.nil⟩, off_of ⟨by simp [Value.ownBlock], p2, p3, fun v hv => (by cases hv)⟩, lo⟩
  obtain ⟨a2, c2, hv2, -⟩ := row_form r2
  obtain ⟨a3, c3, hv3, -⟩ := row_form r3
  have HR2 : Hid (w1.cell? ⟨X + 1, 0, none⟩ = some (.slice none 0 0) ∧ w1.cell? ⟨X + 1, 1, none⟩ = some (.slice none 0 0) ∧ w1.cell? ⟨X + 1, 2, none⟩ = some (.slice none 0 0)) := ⟨k1.cell r0 (by simp), k1.cell r1 (by simp), k1.cell r2' (by simp)⟩
  have HB2 : Hid (_) := HB1.out.kept k1
  have x0 := HB2.out.x0
  have hn1 : S.ino.length ≤ 2513169434843 := HBd.out.n1
  subst hv2 hv3
  clear k1 hbo r2 r3 ap p2 p3 r0 r1 r2' HC
  go_wp2_with fail
  clear x0
  go_loopw [17] (fun i wr => ∃ (n : Nat) (v1 : Value) (ev : List Value), i = .int .i64 (n : Int) ∧ n ≤ S.ino.length ∧ Hid (Cy W1 wr Bo v1 (.slice a2 S.opn.length c2) (.slice a3 S.made.length c3) ev (upTo S n))) (fun i _ => (S.ino.length - intOf i).toNat)
  case atStart => exact ⟨0, _, _, rfl, by omega, HC1.out⟩
  case round =>
   obtain ⟨n, v1, ev, rfl, hn, HJ⟩ := hrel
   by_cases hlt : n < S.ino.length
   ·
    have j0 : (0 : Int) ≤ (n : Int) := by omega
    have j1 : (n : Int) < (S.ino.length : Int) := by omega
    obtain ⟨b, o, ae, ce, ha, q0, q1, q2, q3, q4, q5, q6⟩ := (HB1.out.kept HJ.out.k).sv.ino n hlt
    have HA : Hid (_) := ha
    rw [ha]
    obtain ⟨x, hx⟩ : ∃ x, S.ino[n] = x := ⟨_, rfl⟩
    have HXn : Hid (_) := hx
    have HBx : Hid (x.ents.length ≤ 5864062014634 ∧ x.data.size ≤ 140737488351232 ∧ ∀ e ∈ x.ents, e.1.size ≤ 140737488351232) := by
     rw [← hx]
     exact ⟨HBd.out.n4 _ (List.getElem_mem hlt), HBd.out.d1 _ (List.getElem_mem hlt), HBd.out.e1 _ (List.getElem_mem hlt)⟩
    rw [hx] at q0 q1 q2 q3 q4 q5
    have HEn : Hid (EntA wr ae x.ents ∧ True) := ⟨q4, q6⟩
    have hel : x.ents.length ≤ 5864062014634 := HBx.out.1
    clear ha hx q4 q5 q6
    obtain ⟨W2, Y, HWY, HK2, c0, c1, c2', c3'⟩ := box4 wr (.int .i64 x.num) (.bool x.dir) (.slice ae x.ents.length ce) (.string x.data) 62
    go_upto_region 5 with fail
    rw [HWY.out.1, HWY.out.2]
    clear q0 q1 q2 q3
    go_wp2_with fail
    refine (clone_Entry ae x.ents.length ce (flat x.ents) (flat_length _) HBx.out.1 HEn.out.2 (ent_cells (HEn.out.1.kept HK2.out)) (flat_one _)).mono ?_
    rintro e w3 ⟨ve, rfl, re, k3⟩
    have HZ : Hid (_) := HJ.out.start HWY.out k3 re
    have hy3 : w3.heap[Y]? = some (.cells #[.int .i64 x.num, .bool x.dir, .slice ae x.ents.length ce, .string x.data] 62 (0, 0)) := by
     rw [k3.block Y (by rw [← HWY.out.1, ← HWY.out.2]; simp) (by simp), ← HWY.out.1, ← HWY.out.2]; exact Go.heap_alloc_new _ _
    have d2 := (cellB (i := 2) hy3).trans (show _ = some (Value.slice ae x.ents.length ce) from rfl)
    have f2 := frozen_of hy3 2
    obtain ⟨ave, cve, hve, hvl, hvf, -⟩ := row_form re
    have HVf : Hid (∀ y, ave = some y → ∃ g, y = ⟨g, 0, none⟩) := fun y hy => by obtain ⟨g, e, -⟩ := hvf y hy; exact ⟨g, e⟩
    have HVn : Hid (ave = none → x.ents.length = 0) := fun e => by
     rcases re.2 with ⟨e1, e2⟩ | ⟨g, cap, cur, e1, -⟩
     · exact e2
     · rw [hve, e] at e1; cases e1
    subst hve
    obtain ⟨W4, hW4⟩ : ∃ W4, w3.setCell ⟨Y, 2, none⟩ (.slice ave x.ents.length cve) = W4 := ⟨_, rfl⟩
    rw [hW4] at HZ
    have HW4 : Hid (_) := hW4
    clear hW4 k3 re hy3 hvl hvf c0 c1 c2' c3' HWY HK2 HEn HJ
    go_upto_region 6 with fail
    rw [HW4.out]
    clear HW4 d2 f2
    have d2 : W4.cell? ⟨Y, 2, none⟩ = some (.slice ave x.ents.length cve) := cellB HZ.out.y
    go_wp2_with fail
    clear d2
    go_loopw [28] (fun i wr => ∃ m : Nat, i = .int .i64 (m : Int) ∧ m ≤ x.ents.length ∧ Hid (Cz W1 wr Bo Y v1 (.slice a2 S.opn.length c2) (.slice a3 S.made.length c3) ev (upTo S n) (.slice ave x.ents.length cve) x)) (fun i _ => (x.ents.length - intOf i).toNat)
    case atStart => exact ⟨0, rfl, by omega, HZ.out⟩
    case round =>
     obtain ⟨m, rfl, hm, HI⟩ := hrel
     by_cases hlm : m < x.ents.length
     ·
      have l0 : (0 : Int) ≤ (m : Int) := by omega
      have l1 : (m : Int) < (x.ents.length : Int) := by omega
      rcases ave with _ | y
      · have := HVn.out rfl; omega
      obtain ⟨g, rfl⟩ := HVf.out y rfl
      have HC : Hid (_) := HI.out.cells hlm
      have HFr : Hid (wr.frozen? ⟨g, m * 2, none⟩ = false) := HI.out.er.frozenAt _
      have HSz : Hid ((x.ents[m]).1.size ≤ 140737488351232) := HBx.out.2.2 _ (List.getElem_mem hlm)
      go_upto_region 9 with fail
      go_region_held3 (fun w' => w'.cell? ⟨Y, 2, none⟩ = some (.slice (some ⟨g, 0, none⟩) x.ents.length cve) ∧ w'.cell? ⟨g, m * 2, none⟩ = some (.string (x.ents[m]).1)) (first | exact HC.out | exact z4 | exact (HZ5.out.name hlm).cells hlm | go_keep)
       (first
        | (go_at_call 45; refine (s_clone (x.ents[m]).1 _ HSz.out).mono ?_; rintro e w5 ⟨rfl, k5⟩; have HZ5 : Hid (_) := HI.out.kept ((Kept.refl _ _).drew.trans k5 (by simp)); have z4 := HZ5.out.cells hlm; have f5 := HZ5.out.er.frozenAt (m * 2); clear k5))
      have HZ6 : Hid (_) := HZ5.out.name hlm
      clear z4 f5 HC HI HZ5 HFr
      go_wp2_with fail
      go_roundw
      case rel => exact ⟨m + 1, by go_num, by omega, HZ6.out⟩
      case measure => simp [intOf]; omega
     ·
      have l1 : ¬ (m : Int) < (x.ents.length : Int) := by omega
      have d3 : wr.cell? ⟨Y, 3, none⟩ = some (.string x.data) := cellB HI.out.y
      go_wp2_with fail
      refine (s_clone x.data _ HBx.out.2.1).mono ?_
      rintro e w5 ⟨rfl, k5⟩
      have HZ5 : Hid (_) := HI.out.kept k5
      have e3 : w5.cell? ⟨Y, 3, none⟩ = some (.string x.data) := cellB HZ5.out.y
      have f3 := frozen_of HZ5.out.y 3
      obtain ⟨W6, hW6⟩ : ∃ W6, w5.setCell ⟨Y, 3, none⟩ (.string x.data) = W6 := ⟨_, rfl⟩
      have HZ6 : Hid (_) := HZ5.out.data
      rw [hW6] at HZ6
      have HW6 : Hid (_) := hW6
      clear hW6 k5 d3 HI HZ5
      go_upto_region 12 with fail
      rw [HW6.out]
      clear HW6 e3 f3
      have g0 : W6.cell? ⟨Y, 0, none⟩ = some (.int .i64 x.num) := cellB HZ6.out.y
      have g1 : W6.cell? ⟨Y, 1, none⟩ = some (.bool x.dir) := cellB HZ6.out.y
      have g2 : W6.cell? ⟨Y, 2, none⟩ = some (.slice ave x.ents.length cve) := cellB HZ6.out.y
      have g3 : W6.cell? ⟨Y, 3, none⟩ = some (.string x.data) := cellB HZ6.out.y
      have g4 : W6.cell? ⟨Bo, 0, none⟩ = some v1 := cellB HZ6.out.cy.box
      obtain ⟨a1, c1, hv1, -⟩ := row_form HZ6.out.cy.os.ino
      have hl : (upTo S n).ino.length = n := by simp; omega
      rw [hl] at hv1
      obtain ⟨v1', w7, hr, hform, hbox, hcy⟩ := HZ6.out.append (by rw [hl]; omega) 23
      have HS : Hid (upTo S (n + 1) = ⟨(upTo S n).ino ++ [x], (upTo S n).opn, (upTo S n).made⟩) := by
       show _ = _
       unfold upTo
       simp only [Sta.mk.injEq, and_true]
       rw [List.take_succ_eq_append_getElem hlt, HXn.out]
      have HC7 : Hid (Cy W1 (w7.setCell ⟨Bo, 0, none⟩ v1') Bo v1' (.slice a2 S.opn.length c2) (.slice a3 S.made.length c3) (ev ++ [.slice ave x.ents.length cve]) (upTo S (n + 1))) := by
       show Cy _ _ _ _ _ _ _ _
       rw [HS.out]
       exact hcy
      have h0 : w7.cell? ⟨Bo, 0, none⟩ = some v1 := cellB hbox
      have f0 := frozen_of hbox 0
      obtain ⟨a7, n7, c7, hv7⟩ := hform
      rw [hv1] at hr h0 g4
      rw [hv7] at hr HC7
      have HAp : Hid (_) := hr
      clear hr hbox hcy hl HS hv1 hv7
      go_wp2_with (first
       | (at_builtin; refine wpList_append_run _ rfl _ _ 23 23 rfl _ _ rfl rfl _ _ HAp.out ?_))
      go_roundw
      case rel => exact ⟨n + 1, _, _, by go_num, by omega, HC7.out⟩
      case measure => simp [intOf]; omega
   ·
    have j1 : ¬ (n : Int) < (S.ino.length : Int) := by omega
    have HCe : Hid (Cy W1 wr Bo v1 (.slice a2 S.opn.length c2) (.slice a3 S.made.length c3) ev S) := by
     have := HJ.out
     unfold upTo at this
     rw [List.take_of_length_le (by omega)] at this
     exact this
    obtain ⟨a1, c1, hv1, -⟩ := row_form HCe.out.os.ino
    subst hv1
    obtain ⟨g0, g1, g2⟩ := cz3 HCe.out.box
    have hres : wr.heap[X + 1]? = some (.cells #[.slice none 0 0, .slice none 0 0, .slice none 0 0] 27 (0, 0)) := (HCe.out.k.block _ (lt_of_heap HR0.out) (by simp)).trans HR0.out
    obtain ⟨t0, t1, t2, t3, t4, t5⟩ := cells3 hres
    have hlt1 : X + 1 < W1.heap.size := lt_of_heap HR0.out
    obtain ⟨W9, hW9⟩ : ∃ W9, ((wr.setCell ⟨X + 1, 0, none⟩ (.slice a1 S.ino.length c1)).setCell ⟨X + 1, 1, none⟩ (.slice a2 S.opn.length c2)).setCell ⟨X + 1, 2, none⟩ (.slice a3 S.made.length c3) = W9 := ⟨_, rfl⟩
    have h9 : W9.heap[X + 1]? = some (.cells #[.slice a1 S.ino.length c1, .slice a2 S.opn.length c2, .slice a3 S.made.length c3] 27 (0, 0)) := by
     rw [← hW9, block_set (block_set (block_set hres 0 _) 1 _) 2 _]; rfl
    have kk : Kept [X + 1] wr W9 := by
     rw [← hW9]; exact (((Kept.refl [X + 1] wr).setCell (Or.inl (by simp)) _).setCell (Or.inl (by simp)) _).setCell (Or.inl (by simp)) _
    have HOs : Hid (Os W9 w.heap.size (.slice a1 S.ino.length c1) (.slice a2 S.opn.length c2) (.slice a3 S.made.length c3) ev S ∧ Kept [] w W9) := by
     have hoff : Off [X + 1] (.slice a1 S.ino.length c1) (.slice a2 S.opn.length c2) (.slice a3 S.made.length c3) ev := off_of ⟨fun e => by have := HCe.out.os.ino.lt _ e; omega, fun e => by have := HCe.out.os.opn.lt _ e; omega, fun e => by have := HCe.out.os.mad.lt _ e; omega, fun v hv e => by
      obtain ⟨i, hi, rfl⟩ := List.getElem_of_mem hv
      have := (HCe.out.os.ent i (by rw [← HCe.out.os.evl]; exact hi) hi).lt _ e; omega⟩
     have h1 := HB1.out.k.size
     exact ⟨(HCe.out.os.keep kk hoff).less (by have := HX0.out; omega), (HB1.out.k.trans HCe.out.k (by simp)).trans kk (fun x hx => by rw [List.mem_singleton] at hx; subst hx; right; have := HX0.out; omega)⟩
    have HW9 : Hid (_) := hW9
    clear hW9 kk hres HCe HJ
    go_wp2_with fail
    (try simp only [Exit.inBlock, Exit.then])
    rw [HW9.out]
    refine bodyPost_ret (results_cell_row rfl _ _ (X + 1) 27 #[.slice a1 S.ino.length c1, .slice a2 S.opn.length c2, .slice a3 S.made.length c3] (0, 0) _ rfl h9 Tryz.underlying27 rfl (by kernel_rfl)) rfl ?_
    exact ⟨_, _, _, rfl, ⟨_, HOs.out.1⟩, HOs.out.2⟩
@[reducible] def thr (code : Int) : Ending := .panicked [{ v := .iface 106 (.int .i64 code), recovered := false }]
theorem p_throw_ok (w : World) : Calls Tryz.prog 102 #[.int .i64 0] w fun e w' => e = .returned (.tuple #[]) ∧ w' = w := by
 go_enter Tryz.func102, Tryz.ntmps102
 go_wp2_with fail
 exact bodyPost_end (results_none rfl _ _ _) rfl ⟨rfl, rfl⟩
theorem p_throw (code : Int) (h : code ≠ 0) (w : World) : Calls Tryz.prog 102 #[.int .i64 code] w fun e w' => e = thr code ∧ w' = w := by
 have hb : (code != 0) = true := by simpa using h
 go_enter Tryz.func102, Tryz.ntmps102
 go_wp2_with fail
 exact ⟨rfl, rfl, rfl⟩
theorem p_if_no (code : Int) (w : World) : Calls Tryz.prog 67 #[.bool false, .int .i64 code] w fun e w' => e = .returned (.tuple #[]) ∧ w' = w := by
 go_enter Tryz.func67, Tryz.ntmps67
 go_wp2_with fail
 exact bodyPost_end (results_none rfl _ _ _) rfl ⟨rfl, rfl⟩
theorem p_if (code : Int) (h : code ≠ 0) (w : World) : Calls Tryz.prog 67 #[.bool true, .int .i64 code] w fun e w' => e = thr code ∧ w' = w := by
 have HC : Hid (_) := h
 clear h
 go_enter Tryz.func67, Tryz.ntmps67
 go_wp2_with fail
 refine (p_throw code HC.out w).mono ?_
 rintro e w1 ⟨rfl, hw⟩
 subst hw
 exact ⟨rfl, rfl, rfl⟩
structure Cal where
 kind : Int
 core : Int
 fd : Int
 off : Int
 num : Int
 path : ByteArray
 path2 : ByteArray
 data : ByteArray
@[reducible] def callC (c : Cal) (v1 v2 v3 pk : Value) : Array Value := #[.int .i64 c.kind, .int .i64 c.core, .int .i64 c.fd, .int .i64 c.off, .int .i64 c.num, .string c.path, .string c.path2, .string c.data, v1, v2, v3, pk]
structure Rd (w : World) (B : Nat) (c : Cal) (pk : Value) (p : Pl) (S : Sta) : Prop where
 sv : Sv w p S
 box : w.heap[B]? = some (.cells (callC c (.slice p.a1 S.ino.length p.c1) (.slice p.a2 S.opn.length p.c2) (.slice p.a3 S.made.length p.c3) pk) 76 (0, 0))
 tab : Tab w
theorem Rd.kept {w w' : World} {B : Nat} {c : Cal} {pk : Value} {p : Pl} {S : Sta} (h : Rd w B c pk p S) (k : Kept [] w w') : Rd w' B c pk p S :=
 ⟨h.sv.kept k, (k.block B (lt_of_heap h.box) (by simp)).trans h.box, h.tab.kept k⟩
section
variable {w : World} {B : Nat} {c : Cal} {pk : Value} {p : Pl} {S : Sta}
theorem Rd.c0 (h : Rd w B c pk p S) : w.cell? ⟨B, 0, none⟩ = some (.int .i64 c.kind) := cellB h.box
theorem Rd.c1 (h : Rd w B c pk p S) : w.cell? ⟨B, 1, none⟩ = some (.int .i64 c.core) := cellB h.box
theorem Rd.c2 (h : Rd w B c pk p S) : w.cell? ⟨B, 2, none⟩ = some (.int .i64 c.fd) := cellB h.box
theorem Rd.c3 (h : Rd w B c pk p S) : w.cell? ⟨B, 3, none⟩ = some (.int .i64 c.off) := cellB h.box
theorem Rd.c4 (h : Rd w B c pk p S) : w.cell? ⟨B, 4, none⟩ = some (.int .i64 c.num) := cellB h.box
theorem Rd.c5 (h : Rd w B c pk p S) : w.cell? ⟨B, 5, none⟩ = some (.string c.path) := cellB h.box
theorem Rd.c7 (h : Rd w B c pk p S) : w.cell? ⟨B, 7, none⟩ = some (.string c.data) := cellB h.box
theorem Rd.c8 (h : Rd w B c pk p S) : w.cell? ⟨B, 8, none⟩ = some (.slice p.a1 S.ino.length p.c1) := cellB h.box
theorem Rd.c9 (h : Rd w B c pk p S) : w.cell? ⟨B, 9, none⟩ = some (.slice p.a2 S.opn.length p.c2) := cellB h.box
theorem Rd.c10 (h : Rd w B c pk p S) : w.cell? ⟨B, 10, none⟩ = some (.slice p.a3 S.made.length p.c3) := cellB h.box
theorem Rd.c11 (h : Rd w B c pk p S) : w.cell? ⟨B, 11, none⟩ = some pk := cellB h.box
end
theorem found_bad {w : World} {B : Nat} {c : Cal} {pk : Value} {p : Pl} {S : Sta} (h : Rd w B c pk p S) (s : ByteArray) {num code : Int} (hf : findR S.ino s = (num, code)) (hc : code ≠ 0) :
  Calls Tryz.prog 134 #[.pointer (some ⟨B, 0, none⟩), .string s] w fun e w' => e = thr code ∧ Kept [] w w' := by
 have HF : Hid (_) := hf
 have HR : Hid (_) := h
 have HC : Hid (_) := hc
 have d8 := h.c8
 have d9 := h.c9
 have d10 := h.c10
 clear h hf hc
 go_enter Tryz.func134, Tryz.ntmps134
 go_wp2_with fail
 refine (p_find HR.out.sv HR.out.tab s).mono ?_
 rintro e w1 ⟨rfl, k1⟩
 have HK : Hid (_) := k1
 rw [HF.out]
 clear k1 d8 d9 d10
 go_wp2_with fail
 refine (p_throw code HC.out w1).mono ?_
 rintro e w2 ⟨rfl, hw⟩
 subst hw
 exact ⟨rfl, rfl, HK.out⟩
theorem found_ok {w : World} {B : Nat} {c : Cal} {pk : Value} {p : Pl} {S : Sta} (h : Rd w B c pk p S) (s : ByteArray) {num : Int} (hf : findR S.ino s = (num, 0)) {k b o : Nat} (hat : atR S.ino num = some k) (ha : p.a1 = some ⟨b, o, none⟩) :
  Calls Tryz.prog 134 #[.pointer (some ⟨B, 0, none⟩), .string s] w fun e w' => e = .returned (.pointer (some ⟨b, o + k * 4, none⟩)) ∧ Kept [] w w' := by
 have HF : Hid (_) := hf
 have HR : Hid (_) := h
 have HA : Hid (atR S.ino num = some k ∧ p.a1 = some ⟨b, o, none⟩) := ⟨hat, ha⟩
 have d8 := h.c8
 have d9 := h.c9
 have d10 := h.c10
 clear h hf hat ha
 go_enter Tryz.func134, Tryz.ntmps134
 go_wp2_with fail
 refine (p_find HR.out.sv HR.out.tab s).mono ?_
 rintro e w1 ⟨rfl, k1⟩
 have HR1 : Hid (_) := HR.out.kept k1
 have HK : Hid (_) := k1
 rw [HF.out]
 clear k1 d8 d9 d10
 go_wp2_with fail
 refine (p_throw_ok w1).mono ?_
 rintro e w2 ⟨rfl, hw⟩
 subst hw
 have d8 := HR1.out.c8
 have d9 := HR1.out.c9
 have d10 := HR1.out.c10
 go_wp2_with fail
 refine (p_inode_some HR1.out.sv num HA.out.1 HA.out.2).mono ?_
 rintro e w3 ⟨rfl, k3⟩
 have HK3 : Hid (_) := HK.out.trans k3 (by simp)
 clear k3 d8 d9 d10
 go_wp2_with fail
 go_ret
 exact ⟨rfl, HK3.out⟩
end Go.Proofs.YtffncojcnbhblaaGreatDoor
