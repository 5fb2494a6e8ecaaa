/-
  Joined of my texts Ye Yf Yg.
-/
import Derived.Test.YtffncojcnbhblaaGreatDoorJd32
import Derived.Test.YtffncojcnbhblaaGreatDoorJd18
import Derived.Deep.AppendLies
set_option linter.unusedVariables false
set_option linter.unusedSimpArgs false
set_option maxRecDepth 100000
set_option maxHeartbeats 8000000
namespace Go.Proofs.YtffncojcnbhblaaGreatDoor
open Go.RowKit
theorem c7_kept {w w' : World} {X b o k ce : Nat} {ae : Option Addr} {p : Pl} {S : Sta} {x : Ino} (h : w.cell? ⟨X, 0, none⟩ = some (.slice (some ⟨b, o, none⟩) S.ino.length p.c1) ∧ w.cell? ⟨X, 1, none⟩ = some (.slice p.a2 S.opn.length p.c2) ∧ w.cell? ⟨X, 2, none⟩ = some (.slice p.a3 S.made.length p.c3) ∧ w.cell? ⟨b, o + k * 4, none⟩ = some (.int .i64 x.num) ∧ w.cell? ⟨b, o + k * 4 + 1, none⟩ = some (.bool x.dir) ∧ w.cell? ⟨b, o + k * 4 + 2, none⟩ = some (.slice ae x.ents.length ce) ∧ w.cell? ⟨b, o + k * 4 + 3, none⟩ = some (.string x.data)) (k' : Kept [] w w') :
  w'.cell? ⟨X, 0, none⟩ = some (.slice (some ⟨b, o, none⟩) S.ino.length p.c1) ∧ w'.cell? ⟨X, 1, none⟩ = some (.slice p.a2 S.opn.length p.c2) ∧ w'.cell? ⟨X, 2, none⟩ = some (.slice p.a3 S.made.length p.c3) ∧ w'.cell? ⟨b, o + k * 4, none⟩ = some (.int .i64 x.num) ∧ w'.cell? ⟨b, o + k * 4 + 1, none⟩ = some (.bool x.dir) ∧ w'.cell? ⟨b, o + k * 4 + 2, none⟩ = some (.slice ae x.ents.length ce) ∧ w'.cell? ⟨b, o + k * 4 + 3, none⟩ = some (.string x.data) :=
 ⟨k'.cell h.1 (by simp), k'.cell h.2.1 (by simp), k'.cell h.2.2.1 (by simp), k'.cell h.2.2.2.1 (by simp), k'.cell h.2.2.2.2.1 (by simp), k'.cell h.2.2.2.2.2.1 (by simp), k'.cell h.2.2.2.2.2.2 (by simp)⟩
theorem own4 {Wx w' : World} {v0 v1 v2 v3 : Value} {t : TypeId} (k : Kept [] (Wx.alloc (.cells #[v0, v1, v2, v3] t (0, 0))).drew w') :
  (w'.cell? ⟨Wx.heap.size, 0, none⟩ = some v0 ∧ w'.cell? ⟨Wx.heap.size, 1, none⟩ = some v1 ∧ w'.cell? ⟨Wx.heap.size, 2, none⟩ = some v2 ∧ w'.cell? ⟨Wx.heap.size, 3, none⟩ = some v3) ∧ (w'.frozen? ⟨Wx.heap.size, 0, none⟩ = false ∧ w'.frozen? ⟨Wx.heap.size, 1, none⟩ = false ∧ w'.frozen? ⟨Wx.heap.size, 2, none⟩ = false ∧ w'.frozen? ⟨Wx.heap.size, 3, none⟩ = false) ∧ w'.heap[Wx.heap.size]? = some (.cells #[v0, v1, v2, v3] t (0, 0)) := by
 have hb : w'.heap[Wx.heap.size]? = some (.cells #[v0, v1, v2, v3] t (0, 0)) := (k.block _ (by show Wx.heap.size < (Wx.alloc _).heap.size; simp) (by simp)).trans (Go.heap_alloc_new _ _)
 exact ⟨⟨cellB hb, cellB hb, cellB hb, cellB hb⟩, ⟨frozen_of hb 0, frozen_of hb 1, frozen_of hb 2, frozen_of hb 3⟩, hb⟩
theorem set4 {W0 w' : World} {B : Nat} {v0 v1 v2 v3 u0 u1 u2 u3 : Value} {t : TypeId} (hB : W0.heap.size ≤ B) (k : Kept [] W0 w') (hb : w'.heap[B]? = some (.cells #[v0, v1, v2, v3] t (0, 0))) :
  Kept [] W0 ((((w'.setCell ⟨B, 0, none⟩ u0).setCell ⟨B, 1, none⟩ u1).setCell ⟨B, 2, none⟩ u2).setCell ⟨B, 3, none⟩ u3) ∧ ((((w'.setCell ⟨B, 0, none⟩ u0).setCell ⟨B, 1, none⟩ u1).setCell ⟨B, 2, none⟩ u2).setCell ⟨B, 3, none⟩ u3).heap[B]? = some (.cells #[u0, u1, u2, u3] t (0, 0)) := by
 refine ⟨(((k.setCell (Or.inr hB) _).setCell (Or.inr hB) _).setCell (Or.inr hB) _).setCell (Or.inr hB) _, ?_⟩
 rw [block_set (block_set (block_set (block_set hb 0 u0) 1 u1) 2 u2) 3 u3]
 rfl
theorem r_full {w : World} {p : Pl} {S : Sta} (h : Sv w p S) {d : Int} {k : Nat} (hat : atR S.ino d = some k) {x : Ino} (hx : S.ino[k]? = some x) (t : ByteArray) (ht : t.size ≤ 12) {bt : Nat} (hbt : bkt t = (bt : Int)) (hnm : ∀ e ∈ x.ents, e.1.size ≤ 12 ∧ e.1.toList ≠ []) :
   Calls Tryz.prog 91 #[sval p S, .int .i64 d, .string t, .string ⟨#[]⟩] w fun e w' => e = .returned (.bool (decide (4 ≤ inB x.ents bt))) ∧ Kept [] w w' := by
 obtain ⟨hkl, hxe⟩ := List.getElem?_eq_some_iff.1 hx
 obtain ⟨W0, X, HW, HB⟩ := boxS h
 have hel : x.ents.length ≤ 140737488355328 := by have := h.n4 _ (List.getElem_mem hkl); rw [hxe] at this; exact this
 obtain ⟨b, o, ae, ce, ha, q0, q1, q2, q3, q4, -⟩ := HB.out.sv.ino k hkl
 rw [hxe] at q0 q1 q2 q3 q4
 obtain ⟨x0, x1, x2⟩ := HB.out.block
 rw [ha] at x0
 have k0 : (0 : Int) ≤ (k : Int) := by omega
 have k1 : (k : Int) < (S.ino.length : Int) := by omega
 have HAt : Hid (∀ W, Sv W p S → Calls Tryz.prog 94 #[.agg #[.slice (some ⟨b, o, none⟩) S.ino.length p.c1, .slice p.a2 S.opn.length p.c2, .slice p.a3 S.made.length p.c3], .int .i64 d] W fun e w' => e = .returned (.int .i64 (k : Int)) ∧ Kept [] W w') := fun W hW => by
   have := r_at hW d
   unfold sval at this
   rw [ha, hat] at this
   exact this
 have HNm : Hid (_) := hnm
 have HTs : Hid (t.size ≤ 12 ∧ bkt t = (bt : Int)) := ⟨ht, hbt⟩
 have HEn : Hid (EntA W0 ae x.ents) := q4
 have HCW : Hid (W0.cell? ⟨X, 0, none⟩ = some (.slice (some ⟨b, o, none⟩) S.ino.length p.c1) ∧ W0.cell? ⟨X, 1, none⟩ = some (.slice p.a2 S.opn.length p.c2) ∧ W0.cell? ⟨X, 2, none⟩ = some (.slice p.a3 S.made.length p.c3) ∧ W0.cell? ⟨b, o + k * 4, none⟩ = some (.int .i64 x.num) ∧ W0.cell? ⟨b, o + k * 4 + 1, none⟩ = some (.bool x.dir) ∧ W0.cell? ⟨b, o + k * 4 + 2, none⟩ = some (.slice ae x.ents.length ce) ∧ W0.cell? ⟨b, o + k * 4 + 3, none⟩ = some (.string x.data)) := ⟨x0, x1, x2, q0, q1, q2, q3⟩
 have HC0 : Hid (W0.drew.cell? ⟨X, 0, none⟩ = some (.slice (some ⟨b, o, none⟩) S.ino.length p.c1) ∧ W0.drew.cell? ⟨X, 1, none⟩ = some (.slice p.a2 S.opn.length p.c2) ∧ W0.drew.cell? ⟨X, 2, none⟩ = some (.slice p.a3 S.made.length p.c3) ∧ W0.drew.cell? ⟨b, o + k * 4, none⟩ = some (.int .i64 x.num) ∧ W0.drew.cell? ⟨b, o + k * 4 + 1, none⟩ = some (.bool x.dir) ∧ W0.drew.cell? ⟨b, o + k * 4 + 2, none⟩ = some (.slice ae x.ents.length ce) ∧ W0.drew.cell? ⟨b, o + k * 4 + 3, none⟩ = some (.string x.data)) := c7_kept ⟨x0, x1, x2, q0, q1, q2, q3⟩ (Kept.refl _ _).drew
 clear h hat hx hxe ha q0 q1 q2 q3 q4 x0 x1 x2 hnm ht hbt
 go_enter Tryz.func91, Tryz.ntmps91
 go_upto_region 2 with fail
 rw [HW.out.1, HW.out.2]
 clear HW
 go_cut [10] from 12 (fun u wx => ∃ Z : Nat, u = .pointer (some ⟨Z, 0, none⟩) ∧ Hid (Kept [] W0 wx ∧ wx.heap[Z]? = some (.cells #[.int .i64 x.num, .bool x.dir, .slice ae x.ents.length ce, .string x.data] 62 (0, 0))))
 case first =>
  go_region_held3 (fun w' => w'.cell? ⟨X, 0, none⟩ = some (.slice (some ⟨b, o, none⟩) S.ino.length p.c1) ∧ w'.cell? ⟨X, 1, none⟩ = some (.slice p.a2 S.opn.length p.c2) ∧ w'.cell? ⟨X, 2, none⟩ = some (.slice p.a3 S.made.length p.c3) ∧ w'.cell? ⟨b, o + k * 4, none⟩ = some (.int .i64 x.num) ∧ w'.cell? ⟨b, o + k * 4 + 1, none⟩ = some (.bool x.dir) ∧ w'.cell? ⟨b, o + k * 4 + 2, none⟩ = some (.slice ae x.ents.length ce) ∧ w'.cell? ⟨b, o + k * 4 + 3, none⟩ = some (.string x.data)) (first | exact HC0.out | exact z4 | exact c7_kept HCW.out (set4 (Nat.le_refl _) HK1.out hbo).1 | exact c7_kept z4 ((Kept.refl _ _).alloc _) | exact c7_kept (by assumption) ((Kept.refl _ _).alloc _) | exact c7_kept HC0.out ((Kept.refl _ _).alloc _) | exact c7_kept HC0.out (((Kept.refl _ _).alloc _).trans (Kept.refl _ _).drew (by simp)) | go_keep)
   (first
     | (go_at_call 94; refine (HAt.out _ (HB.out.sv.kept (Kept.refl _ _).drew)).mono ?_; rintro e w1 ⟨rfl, k1'⟩; have z4 := c7_kept HC0.out k1'; have HK1 : Hid (Kept [] W0 w1) := ((Kept.refl _ _).drew).trans k1' (by simp); clear k1')
     | (go_at_call 94; refine (HAt.out _ (HB.out.sv.kept (((Kept.refl _ _).alloc _).drew))).mono ?_; rintro e w1 ⟨rfl, k1'⟩; have z4 := c7_kept (by assumption) k1'; have ho4 := own4 k1'; obtain ⟨⟨n0, n1, n2, n3⟩, ⟨f0, f1, f2, f3⟩, hbo⟩ := ho4; have HK1 : Hid (Kept [] W0 w1) := (((Kept.refl _ _).alloc _).drew).trans k1' (by simp); clear k1'))
  ·
    go_wp2
    go_meet
    case rel => exact ⟨_, rfl, HK1.out.alloc _, Go.heap_alloc_new _ _⟩
  ·
    clear n0 n1 n2 n3 f0 f1 f2 f3
    have h4 := set4 (u0 := .int .i64 x.num) (u1 := .bool x.dir) (u2 := .slice ae x.ents.length ce) (u3 := .string x.data) (Nat.le_refl _) HK1.out hbo
    obtain ⟨W9, hW9⟩ : ∃ W9, (((w1.setCell ⟨W0.heap.size, 0, none⟩ (.int .i64 x.num)).setCell ⟨W0.heap.size, 1, none⟩ (.bool x.dir)).setCell ⟨W0.heap.size, 2, none⟩ (.slice ae x.ents.length ce)).setCell ⟨W0.heap.size, 3, none⟩ (.string x.data) = W9 := ⟨_, rfl⟩
    rw [hW9] at h4 ⊢
    have H4 : Hid (_ ∧ _) := h4
    clear h4 hW9 hbo
    go_wp2
    go_meet
    case rel => exact ⟨_, rfl, H4.out⟩
 case rest =>
   obtain ⟨Z, rfl, HZ⟩ := hcut
   have y2 : wc.cell? ⟨Z, 2, none⟩ = some (.slice ae x.ents.length ce) := cellB HZ.out.2
   go_wp2_with fail
   clear y2
   go_loopw [9, 11] (fun u i wr => ∃ n : Nat, u = .int .i64 ((inB (x.ents.take n) bt : Nat) : Int) ∧ i = .int .i64 (n : Int) ∧ n ≤ x.ents.length ∧ Hid (Kept [] wc wr)) (fun _ i _ => (x.ents.length - intOf i).toNat)
   case atStart => exact ⟨0, by simp [inB], rfl, by omega, Kept.refl _ _⟩
   case round =>
     obtain ⟨n, rfl, rfl, hn, HJ⟩ := hrel
     have y2 : wr.cell? ⟨Z, 2, none⟩ = some (.slice ae x.ents.length ce) := HJ.out.cell (cellB HZ.out.2) (by simp)
     by_cases hlt : n < x.ents.length
     ·
      have i0 : (0 : Int) ≤ (n : Int) := by omega
      have i1 : (n : Int) < (x.ents.length : Int) := by omega
      obtain ⟨g, og, hg, e0, -⟩ := ((HEn.out.kept HZ.out.1).kept HJ.out) n hlt
      rw [hg] at y2
      have HG : Hid (_) := hg
      have HNn : Hid (_) := HNm.out _ (List.getElem_mem hlt)
      have HTk : Hid (_) := inB_take (b := bt) hlt
      have hql : inB (x.ents.take n) bt ≤ n := by
       have := List.countP_le_length (p := fun e : En => bkt e.1 == (bt : Int)) (l := x.ents.take n)
       rw [List.length_take] at this
       unfold inB
       omega
      obtain ⟨q, hq⟩ : ∃ q, inB (x.ents.take n) bt = q := ⟨_, rfl⟩
      rw [hq] at HTk hql ⊢
      obtain ⟨te, hte⟩ : ∃ te, (x.ents[n]).1 = te := ⟨_, rfl⟩
      rw [hte] at e0 HNn HTk
      have hne : (te.toList == []) = false := by simpa using HNn.out.2
      have hne2 : (te.toList != []) = true := by simpa using HNn.out.2
      have hne3 : te.toList.isEmpty = false := by simpa using HNn.out.2
      obtain ⟨be, hbe⟩ : ∃ be : Nat, bkt te = (be : Int) := ⟨(bkt te).toNat, by have := bkt_range te; omega⟩
      have HBe : Hid (_) := hbe
      clear hg hq hte hbe
      go_wp2_with fail
      refine (rbucket_as te be HNn.out.1 HBe.out _).mono ?_
      rintro e w4 ⟨rfl, hw4⟩
      subst hw4
      go_wp2_with fail
      refine (rbucket_as t bt HTs.out.1 HTs.out.2 _).mono ?_
      rintro e w5 ⟨rfl, hw5⟩
      subst hw5
      by_cases hbq : be = bt
      ·
       have b1 : ((be : Int) == (bt : Int)) = true := by rw [hbq]; simp
       have HT2 : Hid (inB (x.ents.take (n + 1)) bt = q + 1) := by show _ = _; rw [HTk.out, HBe.out, hbq, if_pos rfl]
       clear hbq HTk
       go_wp2_with fail
       go_roundw
       case rel => exact ⟨n + 1, by rw [HT2.out]; go_num, by go_num, by omega, HJ.out⟩
       case measure => simp [intOf]; omega
      ·
       have b1 : ((be : Int) == (bt : Int)) = false := by simp; omega
       have HT2 : Hid (inB (x.ents.take (n + 1)) bt = q) := by show _ = _; rw [HTk.out, HBe.out, if_neg (by omega)]; omega
       clear hbq HTk
       go_wp2_with fail
       go_roundw
       case rel => exact ⟨n + 1, by rw [HT2.out], by go_num, by omega, HJ.out⟩
       case measure => simp [intOf]; omega
     ·
      have i1 : ¬ (n : Int) < (x.ents.length : Int) := by omega
      have HE : Hid (inB (x.ents.take n) bt = inB x.ents bt) := by show _ = _; rw [List.take_of_length_le (by omega)]
      rw [HE.out]
      go_wp2_with fail
      go_ret
      exact ⟨by simp; omega, (HB.out.k.trans HZ.out.1 (by simp)).trans HJ.out (by simp)⟩
structure Hc (w0 w : World) (X : Nat) (v1 v2 v3 : Value) (ev : List Value) (S : Sta) : Prop where
 box : w.heap[X]? = some (.cells #[v1, v2, v3] 27 (0, 0))
 os : Os w w0.heap.size v1 v2 v3 ev S
 off : Off [X] v1 v2 v3 ev
 lo : w0.heap.size ≤ X
 k : Kept [] w0 w
theorem Hc.kept {w0 w w' : World} {X : Nat} {v1 v2 v3 : Value} {ev : List Value} {S : Sta} (h : Hc w0 w X v1 v2 v3 ev S) (k : Kept [] w w') : Hc w0 w' X v1 v2 v3 ev S :=
 ⟨(k.block _ (lt_of_heap h.box) (by simp)).trans h.box, h.os.kept k, h.off, h.lo, h.k.trans k (by simp)⟩
theorem ent_more {W w : World} {u : Value} {E : List En} (h : w.ownsRow W.heap.size 64 2 u E.length (flat E)) (k : Kept [] W w) (e : En) (hn : E.length + 1 ≤ 5864062014635) (ty : TypeId) :
  ∃ a c w', (Builtin.append_ #[60, 60] ty #[u, .slice (some ⟨w.heap.size, 0, none⟩) 1 1]).run Tryz.prog (w.alloc (.cells #[.string e.1, .int .i64 e.2] 64)) = .ok (.slice a (E.length + 1) c) w' ∧ w'.ownsRow W.heap.size 64 2 (.slice a (E.length + 1) c) (E ++ [e]).length (flat (E ++ [e])) ∧ Kept [] W w' := by
 obtain ⟨i0, hi, hz0, hz1, hz2⟩ := info_parts info_Entry
 have kw : Kept [] w (w.alloc (.cells #[.string e.1, .int .i64 e.2] 64)) := (Kept.refl [] w).alloc _
 have h2 := row_keep h kw (by simp)
 have hc : ∀ j v, ([.string e.1, .int .i64 e.2] : List Value)[j]? = some v → (w.alloc (.cells #[.string e.1, .int .i64 e.2] 64)).cell? ((⟨w.heap.size, 0, none⟩ : Addr).add j) = some v := fun j v hj => by
  rw [add_lit, Nat.zero_add, cell_new, ← hj]
  simp
 obtain ⟨g, cap, w', hr, r1, gr, hg, hgl⟩ := run_append_lies (P := Tryz.prog) (w := w.alloc (.cells #[.string e.1, .int .i64 e.2] 64)) 60 ty W.heap.size 64 i0 _ 2 24 Tryz.underlying60 hi hz0 hz1 hz2 rfl (by omega) u E.length (flat E) h2 ⟨w.heap.size, 0, none⟩ 1 1 _ rfl hc (by
  intro v hv
  simp only [List.mem_cons, List.not_mem_nil, or_false] at hv
  rcases hv with rfl | rfl <;> rfl) (by omega) (by unfold maxLen; omega) (by omega) (by have := k.size; have := kw.size; omega) _ rfl
 refine ⟨_, _, w', hr, ?_, ?_⟩
 ·
  rw [List.length_append, flat_append]
  exact r1
 ·
  refine (k.trans kw (by simp)).grown gr fun x hx => Or.inr ?_
  exact (h.lt x hx).1
def putP (E : List En) (q : Nat) (e : En) (n : Nat) : List En := if n ≤ q then E.take n else E.take q ++ e :: (E.take n).drop q
theorem putP_len {E : List En} {q : Nat} {e : En} {n : Nat} (hq : q ≤ E.length) (hn : n ≤ E.length) : (putP E q e n).length ≤ n + 1 := by
 unfold putP
 split
 · rw [List.length_take]; omega
 · rw [List.length_append, List.length_cons, List.length_drop, List.length_take, List.length_take]; omega
theorem putP_low {E : List En} {q : Nat} {e : En} {n : Nat} (h : n < E.length) (hq : n < q) : putP E q e (n + 1) = putP E q e n ++ [E[n]] := by
 unfold putP
 rw [if_pos (by omega), if_pos (by omega), List.take_succ_eq_append_getElem h]
theorem putP_at {E : List En} {e : En} {n : Nat} (h : n < E.length) : putP E n e (n + 1) = (putP E n e n ++ [e]) ++ [E[n]] := by
 unfold putP
 rw [if_neg (by omega), if_pos (Nat.le_refl _), List.take_succ_eq_append_getElem h, List.append_assoc]
 congr 1
 have hl : (E.take n).length = n := by rw [List.length_take]; omega
 rw [List.drop_append_of_le_length (by omega), List.drop_eq_nil_of_le (by omega)]
 rfl
theorem putP_high {E : List En} {q : Nat} {e : En} {n : Nat} (h : n < E.length) (hq : q < n) : putP E q e (n + 1) = putP E q e n ++ [E[n]] := by
 unfold putP
 rw [if_neg (by omega), if_neg (by omega), List.take_succ_eq_append_getElem h, List.append_assoc]
 congr 1
 have hl : (E.take n).length = n := by rw [List.length_take]; omega
 rw [List.drop_append_of_le_length (by omega)]
 rfl
theorem x3_kept {w w' : World} {X : Nat} {u0 u1 u2 : Value} (h : w.cell? ⟨X, 0, none⟩ = some u0 ∧ w.cell? ⟨X, 1, none⟩ = some u1 ∧ w.cell? ⟨X, 2, none⟩ = some u2) (k : Kept [] w w') : w'.cell? ⟨X, 0, none⟩ = some u0 ∧ w'.cell? ⟨X, 1, none⟩ = some u1 ∧ w'.cell? ⟨X, 2, none⟩ = some u2 :=
 ⟨k.cell h.1 (by simp), k.cell h.2.1 (by simp), k.cell h.2.2 (by simp)⟩
theorem where_facts {E : List En} {t : ByteArray} {num : Int} (hno : ∀ e ∈ E, e.1 ≠ t) : whereR ltE E (t, num) ≤ E.length ∧ (∀ n (hn : n < E.length), n < whereR ltE E (t, num) → below t (E[n]).1 = false) ∧ ∀ n (hn : n < E.length), n = whereR ltE E (t, num) → below t (E[n]).1 = true := by
 refine ⟨where_le, fun n hn hq => ?_, fun n hn hq => ?_⟩
 ·
  have h := List.not_of_lt_findIdx (p := fun y : En => !(ltE y (t, num))) (xs := E) (i := n) hq
  have h2 : below (E[n]).1 t = true := by simpa [ltE] using h
  cases h3 : below t (E[n]).1 with
  | false => rfl
  | true => have := below_trans h2 h3; rw [below_irrefl] at this; cases this
 ·
  have hq' : E.findIdx (fun y : En => !(ltE y (t, num))) < E.length := by unfold whereR at hq; omega
  have h := List.findIdx_getElem (w := hq')
  have e1 : E[E.findIdx (fun y : En => !(ltE y (t, num)))] = E[n] := by congr 1; unfold whereR at hq; omega
  rw [e1] at h
  have h2 : below (E[n]).1 t = false := by simpa [ltE] using h
  rcases below_tri t (E[n]).1 with e | e | e
  · exact absurd e.symm (hno _ (List.getElem_mem hn))
  · exact e
  · rw [h2] at e; cases e
theorem r_put {w0 w : World} {X g c1 c2 c3 : Nat} {a2 a3 : Option Addr} {ev : List Value} {S : Sta} (h : Hc w0 w X (.slice (some ⟨g, 0, none⟩) S.ino.length c1) (.slice a2 S.opn.length c2) (.slice a3 S.made.length c3) ev S) (hb : Bd S) {d : Int} {k : Nat} (hat : atR S.ino d = some k) (hk : k < S.ino.length) {E : List En} (hE : (S.ino[k]).ents = E) (t : ByteArray) (num : Int) (ht : t.size ≤ 12) (hsz : ∀ e ∈ E, e.1.size ≤ 12) (hno : ∀ e ∈ E, e.1 ≠ t) :
  Calls Tryz.prog 92 #[.pointer (some ⟨X, 0, none⟩), .int .i64 d, .string t, .int .i64 num] w fun e w' => e = .returned (.tuple #[]) ∧ ∃ ev', Hc w0 w' X (.slice (some ⟨g, 0, none⟩) S.ino.length c1) (.slice a2 S.opn.length c2) (.slice a3 S.made.length c3) ev' (setE S k hk (insR ltE E (t, num))) ∧ Kept [g] w w' ∧ ∀ Y, Y < w.heap.size → Off [Y] (.slice (some ⟨g, 0, none⟩) S.ino.length c1) (.slice a2 S.opn.length c2) (.slice a3 S.made.length c3) ev → Off [Y] (.slice (some ⟨g, 0, none⟩) S.ino.length c1) (.slice a2 S.opn.length c2) (.slice a3 S.made.length c3) ev' := by
 have HH : Hid (_) := h
 have HQ : Hid (_) := where_facts (num := num) hno
 obtain ⟨q, hq⟩ : ∃ q, whereR ltE E (t, num) = q := ⟨_, rfl⟩
 have HI : Hid (insR ltE E (t, num) = E.take q ++ (t, num) :: E.drop q) := by show _ = _; unfold insR; rw [hq]
 rw [hq] at HQ
 have hel : E.length ≤ 5864062014634 := by rw [← hE]; exact hb.n4 _ (List.getElem_mem hk)
 obtain ⟨p, e1, e2, e3, hsv, -⟩ := h.os.sv hb
 simp only [Value.slice.injEq, true_and] at e1 e2 e3
 obtain ⟨pa1, pc1, pa2, pc2, pa3, pc3⟩ := p
 dsimp only at e1 e2 e3
 obtain ⟨rfl, rfl⟩ := e1
 obtain ⟨rfl, rfl⟩ := e2
 obtain ⟨rfl, rfl⟩ := e3
 have HAt : Hid (∀ W, Kept [] w W → Calls Tryz.prog 94 #[.agg #[.slice (some ⟨g, 0, none⟩) S.ino.length c1, .slice a2 S.opn.length c2, .slice a3 S.made.length c3], .int .i64 d] W fun e w' => e = .returned (.int .i64 (k : Int)) ∧ Kept [] W w') := fun W hW => by
  have := r_at (hsv.kept hW) d
  rw [hat] at this
  exact this
 obtain ⟨b', o', ae, ce, ha, -, -, q2, -, q4, -⟩ := hsv.ino k hk
 simp only [Option.some.injEq, Addr.mk.injEq, and_true] at ha
 obtain ⟨rfl, rfl⟩ := ha
 rw [hE] at q2 q4
 rw [Nat.zero_add] at q2
 have HEn : Hid (EntA w ae E) := q4
 have HC2 : Hid (w.cell? ⟨g, k * 4 + 2, none⟩ = some (.slice ae E.length ce)) := q2
 have k0 : (0 : Int) ≤ (k : Int) := by omega
 have k1 : (k : Int) < (S.ino.length : Int) := by omega
 have HX : Hid (_) := x3_kept ⟨cellB h.box, cellB h.box, cellB h.box⟩ ((Kept.refl [] w).drew)
 have HC0 : Hid (w.drew.cell? ⟨X, 0, none⟩ = some (.slice (some ⟨g, 0, none⟩) S.ino.length c1) ∧ w.drew.cell? ⟨X, 1, none⟩ = some (.slice a2 S.opn.length c2) ∧ w.drew.cell? ⟨X, 2, none⟩ = some (.slice a3 S.made.length c3)) := HX.out
 have HTs : Hid (t.size ≤ 12 ∧ ∀ e ∈ E, e.1.size ≤ 12) := ⟨ht, hsz⟩
 have HEe : Hid (_) := hE
 have HBd : Hid (Bd S) := hb
 clear h hb hat hE hq hsv q2 q4 HX ht hsz hno
 go_enter Tryz.func92, Tryz.ntmps92
 go_upto_region 0 with fail
 go_region_held3 (fun w' => w'.cell? ⟨X, 0, none⟩ = some (.slice (some ⟨g, 0, none⟩) S.ino.length c1) ∧ w'.cell? ⟨X, 1, none⟩ = some (.slice a2 S.opn.length c2) ∧ w'.cell? ⟨X, 2, none⟩ = some (.slice a3 S.made.length c3)) (first | exact HC0.out | exact z4 | go_keep)
  (first
   | (go_at_call 94; refine (HAt.out _ (Kept.refl _ _).drew).mono ?_; rintro e w1 ⟨rfl, k1'⟩; have z4 := x3_kept HC0.out k1'))
 have HK1 : Hid (Kept [] w w1) := ((Kept.refl _ _).drew).trans k1' (by simp)
 clear z4 k1' HC0 HAt
 have y2 := HK1.out.cell HC2.out (by simp)
 go_wp2_with fail
 clear y2
 go_loopw [9, 10, 11] (fun u dn i wr => ∃ (n : Nat) (ua : Option Addr) (uc : Nat), u = .slice ua (putP E q (t, num) n).length uc ∧ dn = .bool (decide (q < n)) ∧ i = .int .i64 (n : Int) ∧ n ≤ E.length ∧ Hid (wr.ownsRow w.heap.size 64 2 (.slice ua (putP E q (t, num) n).length uc) (putP E q (t, num) n).length (flat (putP E q (t, num) n)) ∧ Kept [] w wr)) (fun _ _ i _ => (E.length - intOf i).toNat)
 case atStart => exact ⟨0, none, 0, rfl, by simp, rfl, by omega, World.ownsRow_nil _ _ _ _, HK1.out⟩
 case round =>
  clear HK1
  obtain ⟨n, ua, uc, rfl, rfl, rfl, hn, HJ⟩ := hrel
  have y2 := HJ.out.2.cell HC2.out (by simp)
  have hpl := putP_len (E := E) (q := q) (e := (t, num)) (n := n) HQ.out.1 hn
  by_cases hlt : n < E.length
  ·
   have i0 : (0 : Int) ≤ (n : Int) := by omega
   have i1 : (n : Int) < (E.length : Int) := by omega
   obtain ⟨gg, og, hg, e0, e1⟩ := (HEn.out.kept HJ.out.2) n hlt
   rw [hg] at y2
   have HG : Hid (_) := hg
   have HTn : Hid (_) := HTs.out.2 _ (List.getElem_mem hlt)
   clear hg
   by_cases hqn : q < n
   ·
    have hdn : decide (q < n) = true := decide_eq_true hqn
    have hdn1 : decide (q < n + 1) = true := decide_eq_true (by omega)
    obtain ⟨ua4, uc4, w4, hr4, r4, k4⟩ := ent_more HJ.out.1 HJ.out.2 E[n] (by omega) 60
    replace r4 : w4.ownsRow w.heap.size 64 2 (.slice ua4 (putP E q (t, num) (n + 1)).length uc4) (putP E q (t, num) (n + 1)).length (flat (putP E q (t, num) (n + 1))) := by rw [putP_high hlt hqn, List.length_append]; rw [List.length_append] at r4; exact r4
    have HA4 : Hid (_) := hr4
    have HL4 : Hid ((putP E q (t, num) n).length + 1 = (putP E q (t, num) (n + 1)).length) := by show _ = _; rw [putP_high hlt hqn]; simp
    rw [HL4.out] at HA4
    have HR4 : Hid (_ ∧ _) := ⟨r4, k4⟩
    generalize E[n] = x at *
    obtain ⟨xs, xz⟩ := x
    dsimp only at *
    rw [hdn]
    clear hr4 r4 k4 HJ
    go_wp2_with (at_builtin; refine wpList_append_run _ rfl _ _ 60 60 rfl _ _ rfl rfl _ _ HA4.out ?_)
    go_roundw
    case rel => exact ⟨n + 1, ua4, uc4, rfl, by rw [hdn1], by go_num, by omega, HR4.out.1, HR4.out.2⟩
    case measure => simp [intOf]; omega
   ·
    have hdn : decide (q < n) = false := decide_eq_false hqn
    rw [hdn]
    have HBl0 : Hid (∃ bv : Bool, below t (E[n]).1 = bv) := ⟨_, rfl⟩
    obtain ⟨bv, hbv⟩ := HBl0.out
    have HBq : Hid (bv = decide (n = q)) := by
     show _ = _
     by_cases hqe : n = q
     · rw [← hbv, HQ.out.2.2 n hlt hqe, decide_eq_true hqe]
     · rw [← hbv, HQ.out.2.1 n hlt (by omega), decide_eq_false hqe]
    have HBl : Hid (below t (E[n]).1 = bv) := hbv
    obtain ⟨x, hx⟩ : ∃ x, E[n] = x := ⟨_, rfl⟩
    have HXe : Hid (E[n] = x) := hx
    rw [hx] at e0 e1 HTn HBl
    obtain ⟨xs, xz⟩ := x
    dsimp only at e0 e1 HTn HBl
    clear hbv hx HBl0 hdn
    go_wp2_with fail
    refine (rbelow_as HTs.out.1 HTn.out HBl.out wr).mono ?_
    rintro e w5 ⟨rfl, k5⟩
    have HJ5 : Hid (w5.ownsRow w.heap.size 64 2 (.slice ua (putP E q (t, num) n).length uc) (putP E q (t, num) n).length (flat (putP E q (t, num) n)) ∧ Kept [] w w5) := ⟨row_keep HJ.out.1 k5 (by simp), HJ.out.2.trans k5 (by simp)⟩
    have y2' := k5.cell y2 (by simp)
    have e0' := k5.cell e0 (by simp)
    have e1' := k5.cell e1 (by simp)
    clear k5 y2 e0 e1 HJ
    rcases bv with _ | _
    ·
     have hqe : ¬ n = q := by have := HBq.out; intro e; rw [decide_eq_true e] at this; cases this
     have hdn1 : decide (q < n + 1) = false := decide_eq_false (by omega)
     obtain ⟨ua4, uc4, w4, hr4, r4, k4⟩ := ent_more HJ5.out.1 HJ5.out.2 (xs, xz) (by omega) 60
     have HPl : Hid (putP E q (t, num) (n + 1) = putP E q (t, num) n ++ [(xs, xz)]) := by show _ = _; rw [putP_low hlt (by omega), HXe.out]
     replace r4 : w4.ownsRow w.heap.size 64 2 (.slice ua4 (putP E q (t, num) (n + 1)).length uc4) (putP E q (t, num) (n + 1)).length (flat (putP E q (t, num) (n + 1))) := by rw [HPl.out, List.length_append]; rw [List.length_append] at r4; exact r4
     have HA4 : Hid (_) := hr4
     have HL4 : Hid ((putP E q (t, num) n).length + 1 = (putP E q (t, num) (n + 1)).length) := by show _ = _; rw [HPl.out]; simp
     rw [HL4.out] at HA4
     have HR4 : Hid (_ ∧ _) := ⟨r4, k4⟩
     clear hr4 r4 k4 HJ5
     go_wp2_with (at_builtin; refine wpList_append_run _ rfl _ _ 60 60 rfl _ _ rfl rfl _ _ HA4.out ?_)
     go_roundw
     case rel => exact ⟨n + 1, ua4, uc4, rfl, by rw [hdn1], by go_num, by omega, HR4.out.1, HR4.out.2⟩
     case measure => simp [intOf]; omega
    ·
     have hqe : n = q := of_decide_eq_true HBq.out.symm
     have hdn1 : decide (q < n + 1) = true := decide_eq_true (by omega)
     have hpl2 : (putP E q (t, num) n).length = n := by unfold putP; rw [if_pos (by omega), List.length_take]; omega
     obtain ⟨ua3, uc3, w3, hr3, r3, k3⟩ := ent_more HJ5.out.1 HJ5.out.2 (t, num) (by omega) 60
     have HA3 : Hid (_) := hr3
     have hl3 : (putP E q (t, num) n ++ [(t, num)]).length = (putP E q (t, num) n).length + 1 := by simp
     have r3' : w3.ownsRow w.heap.size 64 2 (.slice ua3 ((putP E q (t, num) n).length + 1) uc3) (putP E q (t, num) n ++ [(t, num)]).length (flat (putP E q (t, num) n ++ [(t, num)])) := r3
     obtain ⟨ua4, uc4, w4, hr4, r4, k4⟩ := ent_more r3' k3 (xs, xz) (by rw [hl3]; omega) 60
     rw [hl3] at hr4 r4
     have HPl : Hid (putP E q (t, num) (n + 1) = (putP E q (t, num) n ++ [(t, num)]) ++ [(xs, xz)]) := by
      show _ = _
      have := putP_at (e := (t, num)) hlt
      rw [HXe.out] at this
      rw [← hqe]
      exact this
     have HL4 : Hid ((putP E q (t, num) n).length + 1 + 1 = (putP E q (t, num) (n + 1)).length) := by show _ = _; rw [HPl.out]; simp
     replace r4 : w4.ownsRow w.heap.size 64 2 (.slice ua4 (putP E q (t, num) (n + 1)).length uc4) (putP E q (t, num) (n + 1)).length (flat (putP E q (t, num) (n + 1))) := by
      have e9 : ((putP E q (t, num) n ++ [(t, num)]) ++ [(xs, xz)]).length = (putP E q (t, num) n).length + 1 + 1 := by simp
      rw [HPl.out, e9]
      rw [e9] at r4
      exact r4
     have HA4 : Hid (_) := hr4
     rw [HL4.out] at HA4
     have HR4 : Hid (_ ∧ _) := ⟨r4, k4⟩
     have HK3 : Hid (Kept [] w w3) := k3
     clear hr4 r4 k4 hr3 r3 r3' k3 hl3
     clear hqe HJ5 hpl2
     have y3 := HK3.out.cell HC2.out (by simp)
     obtain ⟨gg3, og3, hg3, e03, e13⟩ := (HEn.out.kept HK3.out) n hlt
     rw [hg3] at y3
     rw [HXe.out] at e03 e13
     dsimp only at e03 e13
     clear hg3
     go_upto_region 9 with (at_builtin; refine wpList_append_run _ rfl _ _ 60 60 rfl _ _ rfl rfl _ _ HA3.out ?_)
     clear HA3 y2' e0' e1'
     go_wp2_with (at_builtin; refine wpList_append_run _ rfl _ _ 60 60 rfl _ _ rfl rfl _ _ HA4.out ?_)
     go_roundw
     case rel => exact ⟨n + 1, ua4, uc4, rfl, by rw [hdn1], by go_num, by omega, HR4.out.1, HR4.out.2⟩
     case measure => simp [intOf]; omega
  ·
   have i1 : ¬ (n : Int) < (E.length : Int) := by omega
   have en : n = E.length := by omega
   subst en
   have HFin : Hid (∀ (W : World) (ua : Option Addr) (uc : Nat), W.ownsRow w.heap.size 64 2 (.slice ua (insR ltE E (t, num)).length uc) (insR ltE E (t, num)).length (flat (insR ltE E (t, num))) → Kept [] w W → ∃ ev', Hc w0 (W.setCell ⟨g, k * 4 + 2, none⟩ (.slice ua (insR ltE E (t, num)).length uc)) X (.slice (some ⟨g, 0, none⟩) S.ino.length c1) (.slice a2 S.opn.length c2) (.slice a3 S.made.length c3) ev' (setE S k hk (insR ltE E (t, num))) ∧ Kept [g] w (W.setCell ⟨g, k * 4 + 2, none⟩ (.slice ua (insR ltE E (t, num)).length uc)) ∧ ∀ Y, Y < w.heap.size → Off [Y] (.slice (some ⟨g, 0, none⟩) S.ino.length c1) (.slice a2 S.opn.length c2) (.slice a3 S.made.length c3) ev → Off [Y] (.slice (some ⟨g, 0, none⟩) S.ino.length c1) (.slice a2 S.opn.length c2) (.slice a3 S.made.length c3) ev') := fun W ua uc r kW => by
    have hgl := HH.out.os.ino.lt g rfl
    have hgX : g ≠ X := fun e => (HH.out.off X (by simp)).1 (by rw [← e]; rfl)
    have hXl := lt_of_heap HH.out.box
    have hkv : k < ev.length := by rw [HH.out.os.evl]; exact hk
    have hnew : ∀ b, (Value.slice ua (insR ltE E (t, num)).length uc).ownBlock = some b → w.heap.size ≤ b := fun b hb => (r.lt b hb).1
    have hk0 : w0.heap.size ≤ w.heap.size := HH.out.k.size
    refine ⟨ev.set k (.slice ua (insR ltE E (t, num)).length uc), ⟨?_, ?_, ?_, HH.out.lo, ?_⟩, ?_, fun Y hY ho => ?_⟩
    ·
     rw [block_other (Ne.symm hgX)]
     exact (kW.block X hXl (by simp)).trans HH.out.box
    · exact HH.out.os.setEnt hk hkv rfl (kW.mono (by simp)) (row_less r hk0) fun b hb => Or.inr (hnew b hb)
    ·
     intro y hy
     obtain ⟨o1, o2, o3, o4⟩ := HH.out.off y hy
     refine ⟨o1, o2, o3, fun v hv => ?_⟩
     rcases List.mem_or_eq_of_mem_set hv with hv | rfl
     · exact o4 v hv
     ·
      intro e
      have := hnew y e
      rw [List.mem_singleton] at hy
      omega
    · exact (HH.out.k.trans kW (by simp)).setCell (Or.inr hgl.1) _
    · exact ((kW.mono (G := [g]) (by simp))).setCell (Or.inl (by simp)) _
    ·
     obtain ⟨o1, o2, o3, o4⟩ := ho Y (by simp)
     refine off_of ⟨o1, o2, o3, fun v hv e => ?_⟩
     rcases List.mem_or_eq_of_mem_set hv with hv | rfl
     · exact o4 v hv e
     ·
      have := hnew Y e
      omega
   have f2 : ∀ W : World, Kept [] w W → W.frozen? ⟨g, k * 4 + 2, none⟩ = false := fun W kW => (row_keep HH.out.os.ino kW (by simp)).frozenAt _
   by_cases hqn : q < E.length
   ·
    have hdn : decide (q < E.length) = true := decide_eq_true hqn
    have HPe : Hid (putP E q (t, num) E.length = insR ltE E (t, num)) := by
     show _ = _
     rw [HI.out]
     unfold putP
     rw [if_neg (by omega), List.take_length]
    rw [HPe.out] at HJ
    rw [HPe.out, hdn]
    have fz := f2 _ HJ.out.2
    have HE : Hid (_) := HFin.out _ _ _ HJ.out.1 HJ.out.2
    clear HFin f2 hpl
    go_wp2_with fail
    go_end0
    obtain ⟨ev', h1, h2, h3⟩ := HE.out
    first
     | exact ⟨rfl, ev', h1, h2, h3⟩
     | exact ⟨rfl, ⟨ev', h1, h3⟩, h2⟩
   ·
    have hdn : decide (q < E.length) = false := decide_eq_false hqn
    have eq : q = E.length := by have := HQ.out.1; omega
    have HPe : Hid (putP E q (t, num) E.length = E) := by
     show _ = _
     unfold putP
     rw [if_pos (by omega), List.take_length]
    have HIe : Hid (insR ltE E (t, num) = E ++ [(t, num)]) := by
     show _ = _
     rw [HI.out, eq, List.take_length, List.drop_length]
    rw [HPe.out] at HJ
    rw [HPe.out, hdn]
    obtain ⟨ua4, uc4, w4, hr4, r4, k4⟩ := ent_more HJ.out.1 HJ.out.2 (t, num) (by omega) 60
    have HA4 : Hid (_) := hr4
    have hl4 : E.length + 1 = (insR ltE E (t, num)).length := by rw [HIe.out]; simp
    rw [← HIe.out, hl4] at r4
    rw [hl4] at HA4
    have fz := f2 _ k4
    have z2 := k4.cell HC2.out (by simp)
    have HE : Hid (_) := HFin.out _ _ _ r4 k4
    clear HFin f2 hpl hr4 r4 k4 hl4
    go_wp2_with (at_builtin; refine wpList_append_run _ rfl _ _ 60 60 rfl _ _ rfl rfl _ _ HA4.out ?_)
    go_end0
    obtain ⟨ev', h1, h2, h3⟩ := HE.out
    first
     | exact ⟨rfl, ev', h1, h2, h3⟩
     | exact ⟨rfl, ⟨ev', h1, h3⟩, h2⟩
end Go.Proofs.YtffncojcnbhblaaGreatDoor
