/-
  Joined of my texts Cr.
-/
import Derived.Test.YtffncojcnbhblaaGreatDoorJd11
set_option linter.unusedVariables false
set_option linter.unusedSimpArgs false
set_option maxRecDepth 100000
set_option maxHeartbeats 8000000
namespace Go.Proofs.YtffncojcnbhblaaGreatDoor
open Go.RowKit
@[reducible] def upTo (S : Sta) (n : Nat) : Sta := ⟨S.ino.take n, S.opn, S.made⟩
structure Cy (W1 w : World) (Bo : Nat) (v1 v2 v3 : Value) (ev : List Value) (S : Sta) : Prop where
 k : Kept [] W1 w
 box : w.heap[Bo]? = some (.cells #[v1, v2, v3] 27 (0, 0))
 os : Os w W1.heap.size v1 v2 v3 ev S
 off : Off [Bo] v1 v2 v3 ev
 lo : W1.heap.size ≤ Bo
theorem Cy.kept {W1 w w' : World} {Bo : Nat} {v1 v2 v3 : Value} {ev : List Value} {S : Sta} (h : Cy W1 w Bo v1 v2 v3 ev S) (k : Kept [] w w') : Cy W1 w' Bo v1 v2 v3 ev S :=
 ⟨h.k.trans k (by simp), (k.block Bo (lt_of_heap h.box) (by simp)).trans h.box, h.os.kept k, h.off, h.lo⟩
theorem Os.lt {w : World} {H : Nat} {v1 v2 v3 : Value} {ev : List Value} {S : Sta} (h : Os w H v1 v2 v3 ev S) {n : Nat} (hn : w.heap.size ≤ n) : v1.ownBlock ≠ some n ∧ v2.ownBlock ≠ some n ∧ v3.ownBlock ≠ some n ∧ ∀ v ∈ ev, v.ownBlock ≠ some n := by
 refine ⟨fun e => ?_, fun e => ?_, fun e => ?_, fun v hv e => ?_⟩
 · have := h.ino.lt _ e; omega
 · have := h.opn.lt _ e; omega
 · have := h.mad.lt _ e; omega
 ·
  obtain ⟨i, hi, rfl⟩ := List.getElem_of_mem hv
  have := (h.ent i (by rw [← h.evl]; exact hi) hi).lt _ e; omega
theorem Os.less {w : World} {H H' : Nat} {v1 v2 v3 : Value} {ev : List Value} {S : Sta} (h : Os w H v1 v2 v3 ev S) (hH : H' ≤ H) : Os w H' v1 v2 v3 ev S :=
 ⟨row_less h.ino hH, h.evl, fun i hi hv => row_less (h.ent i hi hv) hH, row_less h.opn hH, row_less h.mad hH, h.a12, h.a13, h.a23, h.ae, h.aee⟩
structure Cz (W1 w : World) (Bo Y : Nat) (v1 v2 v3 : Value) (ev : List Value) (S : Sta) (ve : Value) (x : Ino) : Prop where
 cy : Cy W1 w Bo v1 v2 v3 ev S
 y : w.heap[Y]? = some (.cells #[.int .i64 x.num, .bool x.dir, ve, .string x.data] 62 (0, 0))
 offY : Off [Y] v1 v2 v3 ev
 yb : Y ≠ Bo
 loY : W1.heap.size ≤ Y
 er : w.ownsRow W1.heap.size 64 2 ve x.ents.length (flat x.ents)
 ap : Ap v1 ve ∧ Ap v2 ve ∧ Ap v3 ve ∧ ∀ v ∈ ev, Ap v ve
 eb : ve.ownBlock ≠ some Bo
 ey : ve.ownBlock ≠ some Y
theorem Cz.kept {W1 w w' : World} {Bo Y : Nat} {v1 v2 v3 ve : Value} {ev : List Value} {S : Sta} {x : Ino} (h : Cz W1 w Bo Y v1 v2 v3 ev S ve x) (k : Kept [] w w') : Cz W1 w' Bo Y v1 v2 v3 ev S ve x :=
 ⟨h.cy.kept k, (k.block Y (lt_of_heap h.y) (by simp)).trans h.y, h.offY, h.yb, h.loY, row_keep h.er k (by simp), h.ap, h.eb, h.ey⟩
theorem Cy.keepF {W1 w w' : World} {Bo : Nat} {v1 v2 v3 : Value} {ev : List Value} {S : Sta} {F : List Nat} (h : Cy W1 w Bo v1 v2 v3 ev S) (k : Kept F w w') (hF : Off F v1 v2 v3 ev) (hB : Bo ∉ F) (hW : ∀ x ∈ F, W1.heap.size ≤ x) : Cy W1 w' Bo v1 v2 v3 ev S :=
 ⟨h.k.trans k (fun x hx => Or.inr (hW x hx)), (k.block Bo (lt_of_heap h.box) hB).trans h.box, h.os.keep k hF, h.off, h.lo⟩
theorem kept_set {w : World} {B i : Nat} {v : Value} : Kept [B] w (w.setCell ⟨B, i, none⟩ v) := (Kept.refl [B] w).setCell (Or.inl (by simp)) _
theorem off_of {B : Nat} {v1 v2 v3 : Value} {ev : List Value} (h : v1.ownBlock ≠ some B ∧ v2.ownBlock ≠ some B ∧ v3.ownBlock ≠ some B ∧ ∀ v ∈ ev, v.ownBlock ≠ some B) : Off [B] v1 v2 v3 ev := fun x hx => by
 rw [List.mem_singleton] at hx; subst hx; exact h
theorem Cy.start {W1 w W2 w3 : World} {Bo Y : Nat} {v1 v2 v3 : Value} {ev : List Value} {S : Sta} (h : Cy W1 w Bo v1 v2 v3 ev S) {x : Ino} {v0 ve : Value} (hW : w.alloc (.cells #[.int .i64 x.num, .bool x.dir, v0, .string x.data] 62 (0, 0)) = W2 ∧ w.heap.size = Y)
  (k : Kept [] W2 w3) (re : w3.ownsRow W2.heap.size 64 2 ve x.ents.length (flat x.ents)) : Cz W1 (w3.setCell ⟨Y, 2, none⟩ ve) Bo Y v1 v2 v3 ev S ve x := by
 obtain ⟨hW1, hW2⟩ := hW
 have hsz : W2.heap.size = Y + 1 := by rw [← hW1, ← hW2]; simp
 have kw : Kept [] w W2 := by rw [← hW1]; exact (Kept.refl [] w).alloc _
 have hy : w3.heap[Y]? = some (.cells #[.int .i64 x.num, .bool x.dir, v0, .string x.data] 62 (0, 0)) := by
  rw [k.block Y (by omega) (by simp), ← hW1, ← hW2]; exact Go.heap_alloc_new _ _
 have h3 := (h.kept kw).kept k
 have hoff := h.os.lt (n := Y) (by omega)
 have hYB : Y ≠ Bo := fun e => by have := lt_of_heap h.box; omega
 have hlo : W1.heap.size ≤ Y := by have := h.k.size; omega
 have hel : ∀ k, ve.ownBlock = some k → Y + 1 ≤ k := fun k hk => by have := re.lt k hk; omega
 have hbel : ∀ {u : Value} {n : Nat} {T : TypeId} {kk : Nat} {xs : List Value}, w.ownsRow W1.heap.size T kk u n xs → Ap u ve := fun hu k hk he => by
  have := hu.lt k hk; have := hel k he; omega
 refine ⟨h3.keepF kept_set (off_of hoff) (by simp; exact fun e => hYB e.symm) (by simpa using hlo), ?_, off_of hoff, hYB, hlo, row_keep (row_less re (by omega)) kept_set (by simp; intro e; have := hel _ e; omega), ⟨hbel h.os.ino, hbel h.os.opn, hbel h.os.mad, fun v hv => ?_⟩, fun e => ?_, fun e => ?_⟩
 · rw [block_set hy 2 ve]; rfl
 ·
  obtain ⟨i, hi, rfl⟩ := List.getElem_of_mem hv
  exact hbel (h.os.ent i (by rw [← h.os.evl]; exact hi) hi)
 · have := hel _ e; have := lt_of_heap h.box; omega
 · have := hel _ e; omega
theorem Cz.name {W1 w : World} {Bo Y g c : Nat} {v1 v2 v3 : Value} {ev : List Value} {S : Sta} {x : Ino} (h : Cz W1 w Bo Y v1 v2 v3 ev S (.slice (some ⟨g, 0, none⟩) x.ents.length c) x) {j : Nat} (hj : j < x.ents.length) :
  Cz W1 (w.setCell ⟨g, j * 2, none⟩ (.string (x.ents[j]).1)) Bo Y v1 v2 v3 ev S (.slice (some ⟨g, 0, none⟩) x.ents.length c) x := by
 have e1 : (flat x.ents).set (j * 2) (.string (x.ents[j]).1) = flat x.ents := by
  have := (flat_get x.ents j _ (List.getElem?_eq_getElem hj)).1
  apply List.ext_getElem?
  intro i
  rw [List.getElem?_set]
  by_cases e : j * 2 = i
  ·
   subst e
   rw [if_pos rfl, this, if_pos (by rw [flat_length]; omega)]
  · rw [if_neg e]
 obtain ⟨hr, hgr⟩ := h.er.stored (j * 2) (.string (x.ents[j]).1)
 rw [e1] at hr
 have hg : W1.heap.size ≤ g := (h.er.lt g rfl).1
 have hoff : Off [g] v1 v2 v3 ev := off_of ⟨fun e => h.ap.1 _ e rfl, fun e => h.ap.2.1 _ e rfl, fun e => h.ap.2.2.1 _ e rfl, fun v hv e => h.ap.2.2.2 v hv _ e rfl⟩
 have hgB : Bo ≠ g := fun e => h.eb (by rw [e]; rfl)
 have hgY : Y ≠ g := fun e => h.ey (by rw [e]; rfl)
 exact ⟨h.cy.keepF kept_set hoff (by simpa using hgB) (by simpa using hg), (kept_set.block Y (lt_of_heap h.y) (by simpa using hgY)).trans h.y, h.offY, h.yb, h.loY, hr, h.ap, h.eb, h.ey⟩
theorem Cz.cells {W1 w : World} {Bo Y g c : Nat} {v1 v2 v3 : Value} {ev : List Value} {S : Sta} {x : Ino} (h : Cz W1 w Bo Y v1 v2 v3 ev S (.slice (some ⟨g, 0, none⟩) x.ents.length c) x) {j : Nat} (hj : j < x.ents.length) :
  w.cell? ⟨Y, 2, none⟩ = some (.slice (some ⟨g, 0, none⟩) x.ents.length c) ∧ w.cell? ⟨g, j * 2, none⟩ = some (.string (x.ents[j]).1) := by
 refine ⟨cellB h.y, ?_⟩
 rw [h.er.cellAt (j * 2) (by omega)]
 exact (flat_get x.ents j _ (List.getElem?_eq_getElem hj)).1
theorem Cz.data {W1 w : World} {Bo Y : Nat} {v1 v2 v3 ve : Value} {ev : List Value} {S : Sta} {x : Ino} (h : Cz W1 w Bo Y v1 v2 v3 ev S ve x) : Cz W1 (w.setCell ⟨Y, 3, none⟩ (.string x.data)) Bo Y v1 v2 v3 ev S ve x := by
 refine ⟨h.cy.keepF kept_set h.offY (by simpa using h.yb.symm) (by simpa using h.loY), ?_, h.offY, h.yb, h.loY, row_keep h.er kept_set (by simpa using h.ey), h.ap, h.eb, h.ey⟩
 rw [block_set h.y 3 _]
 rfl
theorem Cz.append {W1 w : World} {Bo Y : Nat} {v1 v2 v3 ve : Value} {ev : List Value} {S : Sta} {x : Ino} (h : Cz W1 w Bo Y v1 v2 v3 ev S ve x) (hn : S.ino.length + 1 ≤ 2513169434844) (ty : TypeId) :
  ∃ v1' w', (Builtin.append_ #[23, 23] ty #[v1, .slice (some ⟨w.heap.size, 0, none⟩) 1 1]).run Tryz.prog (w.alloc (.cells #[.int .i64 x.num, .bool x.dir, ve, .string x.data] 62)) = .ok v1' w' ∧ (∃ a n c, v1' = .slice a n c) ∧ w'.heap[Bo]? = some (.cells #[v1, v2, v3] 27 (0, 0)) ∧
   Cy W1 (w'.setCell ⟨Bo, 0, none⟩ v1') Bo v1' v2 v3 (ev ++ [ve]) ⟨S.ino ++ [x], S.opn, S.made⟩ := by
 obtain ⟨i0, hi, hz0, hz1, hz2⟩ := info_parts info_Inode
 obtain ⟨W2, hW2⟩ : ∃ W2, w.alloc (.cells #[.int .i64 x.num, .bool x.dir, ve, .string x.data] 62) = W2 := ⟨_, rfl⟩
 rw [hW2]
 have kw : Kept [] w W2 := by rw [← hW2]; exact (Kept.refl [] w).alloc _
 have h2 := h.kept kw
 have hsz : W2.heap.size = w.heap.size + 1 := by rw [← hW2]; simp
 have hc : ∀ j u, ([.int .i64 x.num, .bool x.dir, ve, .string x.data] : List Value)[j]? = some u → W2.cell? ((⟨w.heap.size, 0, none⟩ : Addr).add j) = some u := fun j u hj => by
  rw [add_lit, Nat.zero_add, ← hW2, cell_new]
  rw [← hj]
  simp
 obtain ⟨g, cap, w', hr, r1, gr, hg, hgl⟩ := run_append_lies (P := Tryz.prog) W2 23 ty W1.heap.size 62 i0 _ 4 56 Tryz.underlying23 hi hz0 hz1 hz2 rfl (by omega) v1 S.ino.length (inoC S.ino ev) h2.cy.os.ino ⟨w.heap.size, 0, none⟩ 1 1 _ rfl hc (by
  intro u hu
  simp only [List.mem_cons, List.not_mem_nil, or_false] at hu
  rcases hu with rfl | rfl | rfl | rfl
  · rfl
  · rfl
  · exact row_one h.er
  · rfl) (by omega) (by unfold maxLen; omega) (by omega) (by have := h2.cy.k.size; omega) W2.heap.size rfl
 refine ⟨_, w', hr, ⟨_, _, _, rfl⟩, ?_, ?_⟩
 · rw [gr.block Bo (lt_of_heap h2.cy.box) (fun e => (h.cy.off Bo (by simp)).1 e.symm)]; exact h2.cy.box
 have hbox : w'.heap[Bo]? = some (.cells #[v1, v2, v3] 27 (0, 0)) := by
  rw [gr.block Bo (lt_of_heap h2.cy.box) (fun e => (h.cy.off Bo (by simp)).1 e.symm)]; exact h2.cy.box
 -- where the row lies
 have hnew : ∀ {u : Value} {n : Nat} {T : TypeId} {kk : Nat} {xs : List Value}, W2.ownsRow W1.heap.size T kk u n xs → Ap v1 u → u.ownBlock ≠ some g := fun hu ha e => by
  rcases hg with hg | hg
  · exact ha _ hg e
  · have := hu.lt _ e; omega
 have keepW : ∀ {u : Value} {n : Nat} {T : TypeId} {kk : Nat} {xs : List Value}, W2.ownsRow W1.heap.size T kk u n xs → Ap v1 u → w'.ownsRow W1.heap.size T kk u n xs := fun {u n T kk xs} hu ha =>
  hu.kept gr (by
   rcases hb : u.ownBlock with _ | b
   · exact Or.inl rfl
   · exact Or.inr fun e => ha b e.symm hb)
 have kB : Kept [] W1 w' := h2.cy.k.grown gr (fun k hk => Or.inr (h2.cy.os.ino.lt k hk).1)
 have hBg : Bo ≠ g := fun e => by
  rcases hg with hg | hg
  · exact (h.cy.off Bo (by simp)).1 (by rw [hg, e])
  · have := lt_of_heap h2.cy.box; omega
 have hoB := h.cy.off Bo (by simp)
 have setB : Kept [Bo] w' (w'.setCell ⟨Bo, 0, none⟩ (.slice (some ⟨g, 0, none⟩) (S.ino.length + 1) cap)) := kept_set
 have hap := h.ap
 refine ⟨kB.setCell (Or.inr h.cy.lo) _, by rw [block_set hbox 0 _]; rfl, ⟨?_, ?_, ?_, ?_, ?_, ?_, ?_, h.cy.os.a23, ?_, ?_⟩, ?_, h.cy.lo⟩
 ·
  have := row_keep r1 setB (by simp [Value.ownBlock]; exact fun e => hBg e.symm)
  rw [inoC_append h.cy.os.evl]
  simpa [inoC] using this
 · simp [h.cy.os.evl]
 ·
  intro i hi hv
  simp only [List.length_append, List.length_cons, List.length_nil, Nat.zero_add] at hi hv
  by_cases e : i < S.ino.length
  ·
   have hve : i < ev.length := by rw [h.cy.os.evl]; exact e
   have r := keepW (h2.cy.os.ent i e hve) (h.cy.os.ae _ (List.getElem_mem hve)).1
   have r' := row_keep r setB (by simp; exact hoB.2.2.2 _ (List.getElem_mem hve))
   simpa [List.getElem_append_left e, List.getElem_append_left hve] using r'
  ·
   have e1 : i = S.ino.length := by omega
   subst e1
   have r := keepW h2.er hap.1
   have r' := row_keep r setB (by simp; exact h.eb)
   have e3 : (ev ++ [ve])[S.ino.length]'(by simp [h.cy.os.evl]) = ve := by
    rw [List.getElem_append_right (by rw [h.cy.os.evl]; exact Nat.le_refl _)]
    simp
   simpa [e3] using r'
 · exact row_keep (keepW h2.cy.os.opn h.cy.os.a12) setB (by simp; exact hoB.2.1)
 · exact row_keep (keepW h2.cy.os.mad h.cy.os.a13) setB (by simp; exact hoB.2.2.1)
 ·
  intro k hk he
  have : k = g := by simpa [Value.ownBlock] using hk.symm
  subst this
  exact hnew h2.cy.os.opn h.cy.os.a12 he
 ·
  intro k hk he
  have : k = g := by simpa [Value.ownBlock] using hk.symm
  subst this
  exact hnew h2.cy.os.mad h.cy.os.a13 he
 ·
  intro v hv
  rcases List.mem_append.1 hv with hv | hv
  ·
   obtain ⟨i, hi, rfl⟩ := List.getElem_of_mem hv
   refine ⟨fun k hk he => ?_, (h.cy.os.ae _ hv).2.1, (h.cy.os.ae _ hv).2.2⟩
   have : k = g := by simpa [Value.ownBlock] using hk.symm
   subst this
   exact hnew (h2.cy.os.ent i (by rw [← h.cy.os.evl]; exact hi) hi) (h.cy.os.ae _ hv).1 he
  ·
   rw [List.mem_singleton] at hv
   subst hv
   refine ⟨fun k hk he => ?_, hap.2.1, hap.2.2.1⟩
   have : k = g := by simpa [Value.ownBlock] using hk.symm
   subst this
   exact hnew h2.er hap.1 he
 ·
  rw [List.pairwise_append]
  exact ⟨h.cy.os.aee, by simp, fun a ha b hb => by rw [List.mem_singleton] at hb; subst hb; exact hap.2.2.2 a ha⟩
 ·
  refine off_of ⟨by simp [Value.ownBlock]; exact fun e => hBg e.symm, hoB.2.1, hoB.2.2.1, fun v hv => ?_⟩
  rcases List.mem_append.1 hv with hv | hv
  · exact hoB.2.2.2 v hv
  · rw [List.mem_singleton] at hv; subst hv; exact h.eb
end Go.Proofs.YtffncojcnbhblaaGreatDoor
