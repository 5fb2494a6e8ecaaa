/-
  What AllocActs wants besides: places, sums, blank beside other blocks.
-/
import Derived.Test.YtagnkdeeiligcaaDoorFreed
namespace Go.Proofs.YtagnkdeeiligcaaDoor
open Go.RowKit

theorem StD.of {w0 w : World} {b x k f s : Nat} {A : Ar} {P : Nat → List Pc} {q : Nat} (h : St w0 w b x k f s A P q) : StD [] w0 w b x k f s A P q := by
  obtain ⟨p, h1, h2, h3⟩ := h.ex
  exact ⟨h, ⟨p, h1, h2, h3, by simp⟩, by simp⟩

/-- The list, before anything is had. -/
theorem JM.start {w0 w : World} {b x k f s : Nat} {A : Ar} {P : Nat → List Pc} {q : Nat} (h : St w0 w b x k f s A P q) : JM w0 (w.alloc (.cells #[.slice none 0 0] 31)) b x k f s w.heap.size A P q (.slice none 0 0) [] := by
  have hk : Kept [] w (w.alloc (.cells #[.slice none 0 0] 31)) := (Kept.refl _ _).alloc _
  have hx := lt_of_heap h.al
  refine ⟨(StD.of h).more hk _ (fun i hi => by simp [Value.ownBlock] at hi; subst hi; exact Or.inr (by simp)), Go.heap_alloc_new w _, BOwn.nil _ _, by simp [Value.ownBlock], by simp [Value.ownBlock], h.kept.size, by omega⟩

theorem Rel.piece {k f s : Nat} {P : Nat → List Pc} {bs : List Blk} (h : Rel k f s P bs) {y : Blk} (hy : y ∈ bs) : (y.2.1 - heap (f + y.1 * s) s, y.2.2) ∈ P y.1 := by
  rw [h.rel y.1 (h.place y hy).1]
  exact List.mem_map.2 ⟨y, List.mem_filter.2 ⟨hy, by simp⟩, rfl⟩

/-- What is had lies in its core's share. -/
theorem Rel.within {w0 w : World} {b x k f s : Nat} {A : Ar} {P : Nat → List Pc} {q : Nat} {bs : List Blk} (hs : St w0 w b x k f s A P q) (h : Rel k f s P bs) {y : Blk} (hy : y ∈ bs) : f + y.1 * s ≤ y.2.1 ∧ y.2.1 + y.2.2 ≤ f + y.1 * s + s := by
  have h1 := (hs.inv y.1 (h.place y hy).1).ok.fit _ (h.piece hy)
  have h2 := heap_room (a := f + y.1 * s) hs.slo
  have h3 := (h.place y hy).2
  simp only at h1
  omega

theorem Rel.beside {w0 w : World} {b x k f s : Nat} {A : Ar} {P : Nat → List Pc} {q : Nat} {bs : List Blk} {c pos z : Nat} (hc : c < k) (hr : Rel k f s P bs) (hs : St w0 w b x k f s A (fun d => if d = c then P c ++ [(pos, z)] else P d) q) (hp : pos + z ≤ room s) : Beside bs (heap (f + c * s) s + pos) z := by
  intro y hy
  have h2 := heap_room (a := f + c * s) hs.slo
  have hpl := hr.place y hy
  by_cases e : y.1 = c
  · have h1 := (hs.inv c hc).ok.dis
    simp only [if_true] at h1
    rw [List.pairwise_append] at h1
    have h3 := h1.2.2 (y.2.1 - heap (f + c * s) s, y.2.2) (by have := hr.piece hy; rw [e] at this; exact this) (pos, z) (by simp)
    simp only at h3
    rw [e] at hpl
    omega
  · have h1 := (hs.inv y.1 hpl.1).ok.fit (y.2.1 - heap (f + y.1 * s) s, y.2.2) (by simp only [if_neg e]; exact hr.piece hy)
    have h4 := heap_room (a := f + y.1 * s) hs.slo
    simp only at h1
    rcases Nat.lt_or_ge y.1 c with h5 | h5
    · have := mul_next s h5; omega
    · have := mul_next s (show c < y.1 by omega); omega

/-- What a core has counts for so much. -/
def cnt (c : Nat) (bs : List Blk) : Nat := ((bs.filter fun y => decide (y.1 = c)).map fun y => y.2.2 + 2).sum

theorem cnt_next (c : Nat) (bs : List Blk) (j : Nat) (hj : j < bs.length) : cnt c (bs.take (j + 1)) = cnt c (bs.take j) + if (bs[j]).1 = c then (bs[j]).2.2 + 2 else 0 := by
  rw [List.take_add_one, List.getElem?_eq_getElem hj]
  simp only [cnt, Option.toList_some, List.filter_append, List.map_append, List.sum_append]
  by_cases e : (bs[j]).1 = c
  · rw [if_pos e]; simp [e]
  · rw [if_neg e]; simp [e]

theorem cnt_le (c : Nat) (bs : List Blk) (j : Nat) : cnt c (bs.take j) ≤ cnt c bs := by
  have e : cnt c bs = cnt c (bs.take j) + cnt c (bs.drop j) := by
    conv => lhs; rw [← List.take_append_drop j bs]
    simp only [cnt, List.filter_append, List.map_append, List.sum_append]
  omega

theorem Rel.cnt {k f s : Nat} {P : Nat → List Pc} {bs : List Blk} (h : Rel k f s P bs) {c : Nat} (hc : c < k) : cnt c bs = loads (P c) := by
  rw [h.rel c hc]
  simp [Go.Proofs.YtagnkdeeiligcaaDoor.cnt, loads, List.map_map, Function.comp_def]

/-- The words of a new block are 0; they are turned. -/
theorem d_blank {D : List Nat} {w0 w : World} {b x k f s : Nat} {A : Ar} {P : Nat → List Pc} {q : Nat} (h : StD D w0 w b x k f s A P q) {c : Nat} (hc : c < k) (q' : Nat) (hq : q' + 100 ≤ q) (pos z : Nat) (hz : z ≤ 32) (hp : pos + z ≤ room s) (h0 : ∀ j, heap (f + c * s) s + pos ≤ j → j < heap (f + c * s) s + pos + z → wordAt A.words j = 0) :
    Calls Tryd.prog 13 #[.pointer (some ⟨b, 0, none⟩), bkv c (heap (f + c * s) s + pos) z] w fun e w' => e = .returned (.bool true) ∧ ∃ A', StD D w0 w' b x k f s A' P q' ∧ Same D w w' := by
  obtain ⟨p, h1, h2, h3, h4⟩ := h.ex
  have hh := heap_room (a := f + c * s) h.st.slo
  refine (blank_any (h.st.share h1 h3 hc) (by omega) (heap (f + c * s) s + pos) z hz (by omega) (by omega) h0).mono ?_
  rintro e w' ⟨rfl, p', A', hr, hj⟩
  obtain ⟨r1, r2⟩ := h.run h1 h2 h4 hc hr (P c) ((h.st.inv c hc).same fun y y1 y2 => hj y (by omega)) (fun y hy => hj y (by omega)) q' (by omega)
  exact ⟨rfl, A', r1.pieces fun d _ => same_pieces P c d, r2⟩

theorem StD.sub {D E : List Nat} {w0 w : World} {b x k f s : Nat} {A : Ar} {P : Nat → List Pc} {q : Nat} (h : StD D w0 w b x k f s A P q) (hE : ∀ i ∈ E, i ∈ D) : StD E w0 w b x k f s A P q := h.more (Kept.refl _ _) E fun i hi => Or.inl (hE i hi)

/-- One block more is had. -/
theorem JM.add {w0 w : World} {b x k f s B : Nat} {A : Ar} {P : Nat → List Pc} {q : Nat} {v : Value} {bs : List Blk} (h : JM w0 w b x k f s B A P q v bs) (c t z : Nat) (hb : bs.length ≤ 100000) :
    ∃ u w2, (Builtin.append_ #[31, 31] 31 #[v, .slice (some ⟨w.heap.size, 0, none⟩) 1 1]).run Tryd.prog (w.alloc (.cells #[.int .i64 (c : Int), .int .i64 (t : Int), .int .i64 (z : Int)] 39)) = .ok u w2 ∧ (∃ a n cap, u = .slice a n cap) ∧ w2.cell? ⟨B, 0, none⟩ = some v ∧ w2.frozen? ⟨B, 0, none⟩ = false ∧ JM w0 (w2.setCell ⟨B, 0, none⟩ u) b x k f s B A P q u (bs ++ [(c, t, z)]) := by
  obtain ⟨u, w2, r, o, g⟩ := bappend h.own h.d.st.kept.size c t z hb 31
  obtain ⟨a, cap, hu, -⟩ := o.read
  have hk1 : Kept [] w (w.alloc (.cells #[.int .i64 (c : Int), .int .i64 (t : Int), .int .i64 (z : Int)] 39)) := (Kept.refl _ _).alloc _
  have h1 := h.still hk1
  have hk : Kept v.ownBlock.toList (w.alloc (.cells #[.int .i64 (c : Int), .int .i64 (t : Int), .int .i64 (z : Int)] 39)) w2 := (Kept.refl _ _).grown g.grown (fun i hi => Or.inl (by simp [hi]))
  have hcB : w2.heap[B]? = some (.cells #[v] 31 (0, 0)) := by
    rw [hk.block B (lt_of_heap h1.cell) (fun hm => h1.nb (toList_mem hm))]; exact h1.cell
  exact ⟨u, w2, r, ⟨a, _, cap, hu⟩, cellB hcB, block_frozen hcB 0, h1.put hk (fun i hi => toList_mem hi) o g.at_⟩

end Go.Proofs.YtagnkdeeiligcaaDoor
