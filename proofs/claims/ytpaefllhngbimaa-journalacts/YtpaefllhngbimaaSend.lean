/-
  sendOff: a line goes on its way. holdFlushed: what is on its way of a line is held ahead of a store.
-/
import Derived.Test.YtpaefllhngbimaaWay
import Derived.WalkSpells
namespace Go.Proofs.Ytpaefllhngbimaa
open Go.RowKit
open Go.ChangeMaps (setBlock)

theorem setBlock_other {w : World} {r k : Nat} (o : Obj) (h : k ≠ r) : (setBlock w r o).heap[k]? = w.heap[k]? := by
  simp only [setBlock, Array.getElem?_setIfInBounds]
  rw [if_neg (fun e => h e.symm)]

theorem setBlock_same {w : World} {r : Nat} (o : Obj) (h : r < w.heap.size) : (setBlock w r o).heap[r]? = some o := by
  simp [setBlock, h]

theorem Kept.setBlock {F : List Nat} {a w : World} (h : Kept F a w) {r : Nat} (hp : r ∈ F ∨ a.heap.size ≤ r) (o : Obj) : Kept F a (Go.ChangeMaps.setBlock w r o) :=
  ⟨h.os, h.tape, h.output, by have := h.size; simpa [Go.ChangeMaps.setBlock] using this, fun i hi hF => by
    rw [setBlock_other _ (fun e => nor hF hi (by rw [e]; exact hp))]; exact h.block i hi hF⟩

theorem MemIs.setMap {w : World} {p : Pl} {M : Pm} (h : MemIs w p M) {r : Nat} (hm : p.mv = .map (some r)) (es : Array MapEntry) (c : Nat) (W : Wy)
    (hes : es.toList.map (fun e => (e.key, e.val)) = W.map wenc) (hn : (es.toList.map (·.born)).Nodup) (hc : ∀ e ∈ es.toList, e.born < c) (hok : WayOk M.seen.length W) :
    MemIs (setBlock w r (.map es c)) p { M with way := W } := by
  obtain ⟨n1, n2, n3, n4, n5, n6, n7, n8, n9, n10⟩ := h.ne
  have hv : vb p.mv = [r] := by rw [hm]; rfl
  have hr : r < w.heap.size := h.way.block r (by rw [hv]; simp)
  simp only [hv, List.mem_singleton] at n4 n6 n8 n10
  exact { ok := ⟨h.ok.len, h.ok.mul, h.ok.lo, h.ok.hi, hok⟩
          main := by rw [setBlock_other _ n4]; exact h.main
          seen := by rw [setBlock_other _ n6]; exact h.seen
          lasts := by rw [setBlock_other _ n8]; exact h.lasts
          way := Or.inr ⟨r, es, c, hm, setBlock_same _ hr, hes, hn, hc⟩
          fuse := h.fuse.kept fun k hk => setBlock_other _ (fun e => n10 r rfl (by rw [← e]; exact hk))
          apart := h.apart }

set_option maxHeartbeats 400000 in
theorem sendOff_any {w : World} {p : Pl} {M : Pm} (h : MemIs w p M) (l : Nat) (hl : 8 * l + 8 ≤ M.seen.length) :
    Calls Try.prog 31 #[.pointer (some ⟨p.b, 0, none⟩), .int .i64 (l : Int)] w fun e w' => e = .returned (.tuple #[]) ∧ ∃ p', To w p w' p' ∧ MemIs w' p' { M with way := wput M.way l none } := by
  have f2 := h.frozen 2
  have c2 : w.cell? ⟨p.b, 2, none⟩ = some p.mv := by simpa using h.cell 2
  have hlt := lt_of_heap h.main
  have hok : WayOk M.seen.length (wput M.way l none) := h.ok.way.put hl (by simp)
  have hnil := fun (w : World) (r : Option Nat) => run_eql_map_nil (P := Try.prog) w 53 3 77 r Try.underlying53
  rcases h.way with ⟨h1, h2⟩ | ⟨r, es, c, h1, hr, hes, hn, hc⟩
  · rw [h1] at c2
    have hA : WayIs (w.alloc (.map #[] 0)) (.map (some w.heap.size)) M.way := Or.inr ⟨w.heap.size, #[], 0, rfl, heap_alloc_new _ _, by simp [h2], by simp, by simp⟩
    have hm := (h.kept0 ((Kept.refl _ _).alloc (.map #[] 0))).setWay (.map (some w.heap.size)) M.way hA h.ok.way (nodup_moreW h rfl (Nat.le_refl _))
    obtain ⟨es', c', hrun, he', hn', hc'⟩ := run_update_way (w := (w.alloc (.map #[] 0)).setCell ⟨p.b, 2, none⟩ (.map (some w.heap.size))) (r := w.heap.size) (es := #[]) (c := 0) (W := M.way) (by rw [heap_set_other (by simp; omega)]; exact heap_alloc_new _ _) (by simp [h2]) (by simp) (by simp) l none
    simp only [wv] at hrun
    have hfin := hm.setMap (r := w.heap.size) rfl es' c' _ he' hn' hc' hok
    rw [World.setCell_alloc_past _ _ _ _ hlt] at hrun hfin
    have hmm := @run_makeMap Try.prog
    have HF : Hid (_ ∧ _) := ⟨hfin, h⟩
    clear hfin hm hA he' hn' hc' hok h h1 h2
    go_enter Try.func31, Try.ntmps31
    go_wp2
    go_end0
    obtain ⟨hfin, h⟩ := HF.out
    refine ⟨rfl, _, ⟨?_, ?_, ?_⟩, hfin⟩
    · rfl
    · exact (((Kept.refl _ _).setCell (by simp [Pl.blocks]) _).alloc _).setBlock (Or.inr (Nat.le_refl _)) _
    · exact fresh_mv (by simp [vb])
  · rw [h1] at c2
    obtain ⟨es', c', hrun, he', hn', hc'⟩ := run_update_way hr hes hn hc l none
    simp only [wv] at hrun
    have hfin := h.setMap h1 es' c' _ he' hn' hc' hok
    have HF : Hid (_ ∧ _ ∧ _) := ⟨hfin, h, h1⟩
    clear hfin he' hn' hc' hok h1 hr hes hn hc
    go_enter Try.func31, Try.ntmps31
    go_wp2
    go_end0
    obtain ⟨hfin, h, h1⟩ := HF.out
    refine ⟨rfl, p, ⟨?_, ?_, ?_⟩, hfin⟩
    · rfl
    · exact (Kept.refl _ _).setBlock (Or.inl (by rw [mem_blocks, h1]; simp [vb])) _
    · exact fun k hk => Or.inl hk

end Go.Proofs.Ytpaefllhngbimaa
