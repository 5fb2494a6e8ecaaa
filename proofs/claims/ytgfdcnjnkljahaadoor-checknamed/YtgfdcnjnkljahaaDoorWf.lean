/-
  The whole state of the laws: how it lies.
-/
import Derived.Test.YtgfdcnjnkljahaaDoorWe
namespace Go.Proofs.YtgfdcnjnkljahaaDoor
open Go.RowKit Go.Lib Go.Maps
set_option linter.unusedVariables false
set_option linter.unusedSimpArgs false

/-- Five blocks that hold the state's parts: what was made, what is open, the root's entries, the directory's, the inodes. -/
structure Wo (w0 w : World) (N : Nat) (cm co ca cb ci : Array Value) : Prop where
  kept : Kept [] w0 w
  low : w0.heap.size ≤ N
  hm : w.heap[N]? = some (.cells cm 3 (0, 0))
  ho : w.heap[N + 1]? = some (.cells co 35 (0, 0))
  ha : w.heap[N + 1 + 1]? = some (.cells ca 33 (0, 0))
  hb : w.heap[N + 1 + 1 + 1]? = some (.cells cb 33 (0, 0))
  hi : w.heap[N + 1 + 1 + 1 + 1]? = some (.cells ci 31 (0, 0))

theorem Wo.same {w0 w w' : World} {N : Nat} {cm co ca cb ci : Array Value} (h : Wo w0 w N cm co ca cb ci) (k : Kept [] w w') : Wo w0 w' N cm co ca cb ci :=
  ⟨h.kept.trans k (by simp), h.low, by rw [k.block _ (lt_of_heap h.hm) (by simp)]; exact h.hm, by rw [k.block _ (lt_of_heap h.ho) (by simp)]; exact h.ho, by rw [k.block _ (lt_of_heap h.ha) (by simp)]; exact h.ha, by rw [k.block _ (lt_of_heap h.hb) (by simp)]; exact h.hb, by rw [k.block _ (lt_of_heap h.hi) (by simp)]; exact h.hi⟩

theorem far_set {w : World} {b c i : Nat} {v : Value} {o : Obj} (h : w.heap[c]? = some o) (hn : b ≠ c) : (w.setCell ⟨b, i, none⟩ v).heap[c]? = some o := by
  rw [Below.heap_setCell _ _ _ _ (fun e => hn (by simpa using e.symm))]; exact h

theorem kept_set1 {w0 w : World} {b i : Nat} {v : Value} (k : Kept [] w0 w) (hb : w0.heap.size ≤ b) : Kept [] w0 (w.setCell ⟨b, i, none⟩ v) :=
  k.setCell (Or.inr hb) _

theorem near_set {w : World} {b i : Nat} {cs : Array Value} {t : TypeId} {v : Value} (h : w.heap[b]? = some (.cells cs t (0, 0))) : (w.setCell ⟨b, i, none⟩ v).heap[b]? = some (.cells (cs.setIfInBounds i v) t (0, 0)) :=
  Go.heap_setCell_same w b i _ _ _ h

theorem Wo.setM {w0 w : World} {N : Nat} {cm co ca cb ci : Array Value} (h : Wo w0 w N cm co ca cb ci) (i : Nat) (v : Value) : Wo w0 (w.setCell ⟨N, i, none⟩ v) N (cm.setIfInBounds i v) co ca cb ci :=
  ⟨kept_set1 h.kept h.low, h.low, near_set h.hm, far_set h.ho (by omega), far_set h.ha (by omega), far_set h.hb (by omega), far_set h.hi (by omega)⟩

theorem Wo.setO {w0 w : World} {N : Nat} {cm co ca cb ci : Array Value} (h : Wo w0 w N cm co ca cb ci) (i : Nat) (v : Value) : Wo w0 (w.setCell ⟨N + 1, i, none⟩ v) N cm (co.setIfInBounds i v) ca cb ci :=
  ⟨kept_set1 h.kept (by have := h.low; omega), h.low, far_set h.hm (by omega), near_set h.ho, far_set h.ha (by omega), far_set h.hb (by omega), far_set h.hi (by omega)⟩

theorem Wo.setA {w0 w : World} {N : Nat} {cm co ca cb ci : Array Value} (h : Wo w0 w N cm co ca cb ci) (i : Nat) (v : Value) : Wo w0 (w.setCell ⟨N + 1 + 1, i, none⟩ v) N cm co (ca.setIfInBounds i v) cb ci :=
  ⟨kept_set1 h.kept (by have := h.low; omega), h.low, far_set h.hm (by omega), far_set h.ho (by omega), near_set h.ha, far_set h.hb (by omega), far_set h.hi (by omega)⟩

theorem Wo.setB {w0 w : World} {N : Nat} {cm co ca cb ci : Array Value} (h : Wo w0 w N cm co ca cb ci) (i : Nat) (v : Value) : Wo w0 (w.setCell ⟨N + 1 + 1 + 1, i, none⟩ v) N cm co ca (cb.setIfInBounds i v) ci :=
  ⟨kept_set1 h.kept (by have := h.low; omega), h.low, far_set h.hm (by omega), far_set h.ho (by omega), far_set h.ha (by omega), near_set h.hb, far_set h.hi (by omega)⟩

theorem Wo.setI {w0 w : World} {N : Nat} {cm co ca cb ci : Array Value} (h : Wo w0 w N cm co ca cb ci) (i : Nat) (v : Value) : Wo w0 (w.setCell ⟨N + 1 + 1 + 1 + 1, i, none⟩ v) N cm co ca cb (ci.setIfInBounds i v) :=
  ⟨kept_set1 h.kept (by have := h.low; omega), h.low, far_set h.hm (by omega), far_set h.ho (by omega), far_set h.ha (by omega), far_set h.hb (by omega), near_set h.hi⟩

@[reducible] def cm0 : Array Value := #[.int .i64 3, .int .i64 2]
@[reducible] def co0 : Array Value := #[.int .i64 1, .int .i64 2, .int .i64 11]
@[reducible] def ca0 : Array Value := #[.string ⟨#[100]⟩, .int .i64 2, .string ⟨#[102]⟩, .int .i64 3, .string ⟨#[103]⟩, .int .i64 3]
@[reducible] def cb0 : Array Value := #[.string ⟨#[104]⟩, .int .i64 10]
@[reducible] def ci0 (N : Nat) : Array Value := #[.int .i64 1, .bool true, .slice (some ⟨N + 1 + 1, 0, none⟩) 3 3, .string ⟨#[]⟩, .int .i64 2, .bool true, .slice (some ⟨N + 1 + 1 + 1, 0, none⟩) 1 1, .string ⟨#[]⟩, .int .i64 3, .bool false, .slice none 0 0, .string ⟨#[116, 104, 114, 101, 101]⟩, .int .i64 10, .bool false, .slice none 0 0, .string ⟨#[]⟩, .int .i64 11, .bool false, .slice none 0 0, .string ⟨#[111, 112, 101, 110]⟩]

theorem six (w : World) (o0 o1 o2 o3 o4 o5 : Obj) : Kept [] w ((((((w.alloc o0).alloc o1).alloc o2).alloc o3).alloc o4).alloc o5) ∧ ((((((w.alloc o0).alloc o1).alloc o2).alloc o3).alloc o4).alloc o5).heap[w.heap.size]? = some o0 ∧
    ((((((w.alloc o0).alloc o1).alloc o2).alloc o3).alloc o4).alloc o5).heap[w.heap.size + 1]? = some o1 ∧ ((((((w.alloc o0).alloc o1).alloc o2).alloc o3).alloc o4).alloc o5).heap[w.heap.size + 1 + 1]? = some o2 ∧
    ((((((w.alloc o0).alloc o1).alloc o2).alloc o3).alloc o4).alloc o5).heap[w.heap.size + 1 + 1 + 1]? = some o3 ∧ ((((((w.alloc o0).alloc o1).alloc o2).alloc o3).alloc o4).alloc o5).heap[w.heap.size + 1 + 1 + 1 + 1]? = some o4 ∧
    ((((((w.alloc o0).alloc o1).alloc o2).alloc o3).alloc o4).alloc o5).heap[w.heap.size + 1 + 1 + 1 + 1 + 1]? = some o5 := by
  obtain ⟨k, h1, h2, h3, h4, h5⟩ := five (w.alloc o0) o1 o2 o3 o4 o5
  have hs : (w.alloc o0).heap.size = w.heap.size + 1 := by simp
  rw [hs] at h1 h2 h3 h4 h5
  refine ⟨((Kept.refl [] w).alloc _).trans k (by simp), ?_, h1, h2, h3, h4, h5⟩
  rw [k.block _ (by simp) (by simp)]
  exact Go.heap_alloc_new _ _

/-- The whole state is answered. -/
def Whole (w : World) (e : Ending) (w' : World) : Prop :=
  ∃ N, e = .returned (.agg #[.slice (some ⟨N + 1 + 1 + 1 + 1, 0, none⟩) 5 5, .slice (some ⟨N + 1, 0, none⟩) 1 1, .slice (some ⟨N, 0, none⟩) 2 2]) ∧ Wo w w' N cm0 co0 ca0 cb0 (ci0 N)

set_option maxRecDepth 100000 in
set_option maxHeartbeats 8000000 in
theorem r_whole (w : World) : Calls Tryd.prog 9 #[] w (Whole w) := by
  go_enter Tryd.func9, Tryd.ntmps9
  go_wp2_with fail
  obtain ⟨k, h0, h1, h2, h3, h4, h5⟩ := six w (.cells #[.slice (some ⟨w.heap.size + 1 + 1 + 1 + 1 + 1, 0, none⟩) 5 5, .slice (some ⟨w.heap.size + 1 + 1, 0, none⟩) 1 1, .slice (some ⟨w.heap.size + 1, 0, none⟩) 2 2] 27 (0, 0)) (.cells cm0 3 (0, 0)) (.cells co0 35 (0, 0)) (.cells ca0 33 (0, 0)) (.cells cb0 33 (0, 0)) (.cells (ci0 (w.heap.size + 1)) 31 (0, 0))
  have hW : Whole w (.returned (.agg #[.slice (some ⟨w.heap.size + 1 + 1 + 1 + 1 + 1, 0, none⟩) 5 5, .slice (some ⟨w.heap.size + 1 + 1, 0, none⟩) 1 1, .slice (some ⟨w.heap.size + 1, 0, none⟩) 2 2])) _ := ⟨_, rfl, k, by omega, h1, h2, h3, h4, h5⟩
  (try simp only [Exit.inBlock, Exit.then])
  refine bodyPost_ret (results_cell_row rfl _ _ w.heap.size 27 _ (0, 0) _ rfl h0 Tryd.underlying27 rfl (by kernel_rfl)) rfl ?_
  exact hW

end Go.Proofs.YtgfdcnjnkljahaaDoor
