/-
  An allocator and the law's own list of what is had; freed.
-/
import Derived.Test.YtagnkdeeiligcaaDoorBlk
namespace Go.Proofs.YtagnkdeeiligcaaDoor
open Go.RowKit

theorem StD.swap {D : List Nat} {w0 w : World} {b x k f s : Nat} {A : Ar} {P : Nat → List Pc} {q : Nat} (h : StD D w0 w b x k f s A P q) {w' : World} {F : List Nat} (hk : Kept F w w') (hF : ∀ i ∈ F, i ∈ D) (h0 : ∀ i ∈ F, w0.heap.size ≤ i ∧ i ≠ x) (E : List Nat) (hE : ∀ i ∈ E, i ∈ D ∨ (w.heap.size ≤ i ∧ i < w'.heap.size)) : StD E w0 w' b x k f s A P q := by
  obtain ⟨p, h1, h2, h3, h4⟩ := h.ex
  have ha : ArIs 56 w' p A := h3.kept hk (fun i hi hm => h4 i (hF i hm) hi)
  refine ⟨⟨h.st.kept.trans hk (fun i hi => Or.inr (h0 i hi).1), ⟨p, h1, h2, ha⟩, h.st.al.kept hk (fun hm => (h0 x hm).2 rfl), h.st.xlo, h.st.cores, h.st.words, h.st.slo, h.st.shi, h.st.inv, h.st.own, h.st.quota⟩, ⟨p, h1, h2, ha, fun i hi hm => ?_⟩, fun i hi => ?_⟩
  · rcases hE i hi with h5 | ⟨h5, _⟩
    · exact h4 i h5 hm
    · have := h3.blocks_lt i hm; omega
  · rcases hE i hi with h5 | ⟨_, h5⟩
    · exact Nat.lt_of_lt_of_le (h.lt i h5) hk.size
    · exact h5

/-- The allocator, and the variable at B that holds the row of what is had. -/
structure JM (w0 w : World) (b x k f s B : Nat) (A : Ar) (P : Nat → List Pc) (q : Nat) (v : Value) (bs : List Blk) : Prop where
  d : StD (B :: v.ownBlock.toList) w0 w b x k f s A P q
  cell : w.heap[B]? = some (.cells #[v] 31 (0, 0))
  own : BOwn w w0.heap.size v bs
  nb : v.ownBlock ≠ some B
  nx : v.ownBlock ≠ some x
  blo : w0.heap.size ≤ B
  bx : B ≠ x

/-- What is had is what the cores' pieces are. -/
structure Rel (k f s : Nat) (P : Nat → List Pc) (bs : List Blk) : Prop where
  rel : ∀ c, c < k → P c = (bs.filter fun y => decide (y.1 = c)).map fun y => (y.2.1 - heap (f + c * s) s, y.2.2)
  place : ∀ y ∈ bs, y.1 < k ∧ heap (f + y.1 * s) s ≤ y.2.1

theorem JM.keep {w0 w w' : World} {b x k f s B : Nat} {A A' : Ar} {P P' : Nat → List Pc} {q q' : Nat} {v : Value} {bs : List Blk} (h : JM w0 w b x k f s B A P q v bs) (d : StD (B :: v.ownBlock.toList) w0 w' b x k f s A' P' q') (hs : Same (B :: v.ownBlock.toList) w w') : JM w0 w' b x k f s B A' P' q' v bs :=
  ⟨d, by rw [hs B (List.mem_cons_self)]; exact h.cell, h.own.same fun i hi => hs i (List.mem_cons_of_mem _ (by simp [hi])), h.nb, h.nx, h.blo, h.bx⟩

theorem JM.still {w0 w w' : World} {b x k f s B : Nat} {A : Ar} {P : Nat → List Pc} {q : Nat} {v : Value} {bs : List Blk} (h : JM w0 w b x k f s B A P q v bs) (hk : Kept [] w w') : JM w0 w' b x k f s B A P q v bs := by
  obtain ⟨r1, r2⟩ := h.d.still hk
  exact h.keep r1 r2

theorem toList_mem {o : Option Nat} {i : Nat} (h : i ∈ o.toList) : o = some i := by
  cases o with
  | none => simp at h
  | some j => simp at h; rw [h]

/-- The variable is another row now, which lies where it lay, or anew. -/
theorem JM.put {w0 w w2 : World} {b x k f s B : Nat} {A : Ar} {P : Nat → List Pc} {q : Nat} {v : Value} {bs : List Blk} (h : JM w0 w b x k f s B A P q v bs) {F : List Nat} (hk : Kept F w w2) (hF : ∀ i ∈ F, v.ownBlock = some i) {u : Value} {ls : List Blk} (hu : BOwn w2 w0.heap.size u ls) (hat : ∀ i, u.ownBlock = some i → v.ownBlock = some i ∨ w.heap.size ≤ i) :
    JM w0 (w2.setCell ⟨B, 0, none⟩ u) b x k f s B A P q u ls := by
  have hBlt := lt_of_heap h.cell
  have hxlt := lt_of_heap h.d.st.al
  have hnF : B ∉ F := fun hm => h.nb (hF B hm)
  have hcell2 : w2.heap[B]? = some (.cells #[v] 31 (0, 0)) := by rw [hk.block B hBlt hnF]; exact h.cell
  have hub : u.ownBlock ≠ some B := fun e => by
    rcases hat B e with h1 | h1
    · exact h.nb h1
    · omega
  have hux : u.ownBlock ≠ some x := fun e => by
    rcases hat x e with h1 | h1
    · exact h.nx h1
    · omega
  have d2 : StD (B :: u.ownBlock.toList) w0 w2 b x k f s A P q := h.d.swap hk (fun i hi => List.mem_cons_of_mem _ (by simp [hF i hi])) (fun i hi => ⟨(h.own.block i (hF i hi)).1, fun e => h.nx (by rw [hF i hi, e])⟩) _ (fun i hi => by
    rcases List.mem_cons.1 hi with h1 | h1
    · exact Or.inl (by rw [h1]; exact List.mem_cons_self)
    · have h2 := toList_mem h1
      rcases hat i h2 with h3 | h3
      · exact Or.inl (List.mem_cons_of_mem _ (by simp [h3]))
      · exact Or.inr ⟨h3, (hu.block i h2).2⟩)
  have hkB : Kept [B] w2 (w2.setCell ⟨B, 0, none⟩ u) := (Kept.refl _ _).setCell (by simp) _
  refine ⟨d2.change hkB (fun i hi => by simp at hi; rw [hi]; exact List.mem_cons_self) (fun i hi => by simp at hi; rw [hi]; exact ⟨h.blo, h.bx⟩), ?_, hu.same fun i hi => block_other (fun e => hub (by rw [← e]; exact hi)), hub, hux, h.blo, h.bx⟩
  rw [block_set hcell2]
  rfl

theorem Rel.mid {k f s : Nat} {P : Nat → List Pc} {l1 l2 : List Blk} {y : Blk} (h : Rel k f s P (l1 ++ y :: l2)) :
    P y.1 = ((l1.filter fun u => decide (u.1 = y.1)).map fun u => (u.2.1 - heap (f + y.1 * s) s, u.2.2)) ++ (y.2.1 - heap (f + y.1 * s) s, y.2.2) :: ((l2.filter fun u => decide (u.1 = y.1)).map fun u => (u.2.1 - heap (f + y.1 * s) s, u.2.2)) := by
  have hy := (h.place y (by simp)).1
  rw [h.rel y.1 hy]
  simp [List.filter_append]

theorem Rel.drop {k f s : Nat} {P : Nat → List Pc} {l1 l2 : List Blk} {y : Blk} (h : Rel k f s P (l1 ++ y :: l2)) :
    Rel k f s (fun d => if d = y.1 then ((l1.filter fun u => decide (u.1 = y.1)).map fun u => (u.2.1 - heap (f + y.1 * s) s, u.2.2)) ++ ((l2.filter fun u => decide (u.1 = y.1)).map fun u => (u.2.1 - heap (f + y.1 * s) s, u.2.2)) else P d) (l1 ++ l2) where
  rel := fun c hc => by
    by_cases e : c = y.1
    · subst e; simp [List.filter_append]
    · simp only [if_neg e]
      rw [h.rel c hc]
      have e2 : ¬ y.1 = c := fun e3 => e e3.symm
      simp [List.filter_append, e2]
  place := fun u hu => h.place u (by
    rcases List.mem_append.1 hu with h1 | h1
    · exact List.mem_append.2 (Or.inl h1)
    · exact List.mem_append.2 (Or.inr (List.mem_cons_of_mem _ h1)))

theorem Rel.add {k f s : Nat} {P : Nat → List Pc} {bs : List Blk} (h : Rel k f s P bs) (c pos z : Nat) (hc : c < k) : Rel k f s (fun d => if d = c then P c ++ [(pos, z)] else P d) (bs ++ [(c, heap (f + c * s) s + pos, z)]) where
  rel := fun d hd => by
    by_cases e : d = c
    · subst e
      simp only [if_true]
      rw [h.rel d hd]
      simp [List.filter_append]
    · simp only [if_neg e]
      rw [h.rel d hd]
      have e2 : ¬ c = d := fun e3 => e e3.symm
      simp [List.filter_append, e2]
  place := fun u hu => by
    rcases List.mem_append.1 hu with h1 | h1
    · exact h.place u h1
    · rw [List.mem_singleton.1 h1]
      exact ⟨hc, Nat.le_add_right _ _⟩

/-- A row without its kk-th: as far as it was gone over. -/
theorem erase_next (bs : List Blk) (kk i : Nat) (hi : i < bs.length) : (bs.take (i + 1)).eraseIdx kk = if i = kk then (bs.take i).eraseIdx kk else (bs.take i).eraseIdx kk ++ [bs[i]] := by
  rw [List.take_add_one, List.getElem?_eq_getElem hi]
  simp only [Option.toList_some]
  have hl : (bs.take i).length = i := by simp; omega
  by_cases e : i = kk
  · rw [if_pos e, List.eraseIdx_append_of_length_le (by omega), hl, show kk - i = 0 from by omega]
    simp only [List.eraseIdx_cons_zero, List.append_nil]
    rw [List.eraseIdx_of_length_le (by omega)]
  · rw [if_neg e]
    rcases Nat.lt_or_ge kk i with h | h
    · rw [List.eraseIdx_append_of_lt_length (by omega)]
    · rw [List.eraseIdx_append_of_length_le (by omega), hl, List.eraseIdx_of_length_le (l := [bs[i]]) (by simp; omega), List.eraseIdx_of_length_le (by omega)]

theorem erase_parts (bs : List Blk) (kk : Nat) (h : kk < bs.length) : bs = bs.take kk ++ bs[kk] :: bs.drop (kk + 1) := by
  rw [List.getElem_cons_drop h, List.take_append_drop]

end Go.Proofs.YtagnkdeeiligcaaDoor
