/-
  What a store into one of its blocks makes of a memory's state; how two states of one memory hang together over a call.
-/
import Derived.Test.YtpaefllhngbimaaLeaf
namespace Go.Proofs.Ytpaefllhngbimaa
open Go.RowKit

/-- From (w, p) to (w', p'): the struct lies where it lay; only its own blocks have turned; those it has now are its own or new. -/
structure To (w : World) (p : Pl) (w' : World) (p' : Pl) : Prop where
  b : p'.b = p.b
  kept : Kept p.blocks w w'
  fresh : ∀ k ∈ p'.blocks, k ∈ p.blocks ∨ w.heap.size ≤ k

theorem To.refl (w : World) (p : Pl) : To w p w p := ⟨rfl, Kept.refl _ _, fun _ h => Or.inl h⟩

theorem To.trans {w w' w'' : World} {p p' p'' : Pl} (h : To w p w' p') (k : To w' p' w'' p'') : To w p w'' p'' :=
  ⟨k.b.trans h.b, h.kept.trans k.kept h.fresh, fun x hx => by
    rcases k.fresh x hx with h1 | h1
    · exact h.fresh x h1
    · exact Or.inr (Nat.le_trans h.kept.size h1)⟩

/-- Nothing of it has turned. -/
theorem To.still {w w' : World} {p : Pl} (h : Kept [] w w') : To w p w' p := ⟨rfl, h.mono (by simp), fun _ h => Or.inl h⟩

theorem heap_set_other {w : World} {a : Addr} {v : Value} {k : Nat} (h : k ≠ a.block) : (w.setCell a v).heap[k]? = w.heap[k]? := heap_setCell_other w a k v h

theorem MemIs.ne {w : World} {p : Pl} {M : Pm} (h : MemIs w p M) : p.bs ≠ p.b ∧ p.bl ≠ p.b ∧ p.bl ≠ p.bs ∧ p.b ∉ vb p.mv ∧ p.b ∉ vb p.fv ∧ p.bs ∉ vb p.mv ∧ p.bs ∉ vb p.fv ∧ p.bl ∉ vb p.mv ∧ p.bl ∉ vb p.fv ∧ ∀ k ∈ vb p.mv, k ∉ vb p.fv := by
  have hap := h.apart
  simp only [Pl.blocks, List.nodup_cons, List.mem_cons, List.mem_append, not_or, List.nodup_append] at hap
  obtain ⟨⟨a1, a2, a3, a4⟩, ⟨b1, b2, b3⟩, ⟨c1, c2⟩, d1, d2, d3⟩ := hap
  exact ⟨fun e => a1 e.symm, fun e => a2 e.symm, fun e => b1 e.symm, a3, a4, b2, b3, c1, c2, fun k h1 h2 => d3 k h1 k h2 rfl⟩

theorem ne_of_mem {a : Nat} {l : List Nat} (h : a ∉ l) {k : Nat} (hk : k ∈ l) : k ≠ a := fun e => h (by rw [← e]; exact hk)

theorem MemIs.setSteps {w : World} {p : Pl} {M : Pm} (h : MemIs w p M) (s : Int) : MemIs (w.setCell ⟨p.b, 4, none⟩ (.int .i64 s)) p { M with steps := s } := by
  obtain ⟨n1, n2, n3, n4, n5, n6⟩ := h.ne
  exact { ok := ⟨h.ok.len, h.ok.mul, h.ok.lo, h.ok.hi, h.ok.way⟩
          main := by rw [main_set h.main]; simp
          seen := by rw [heap_set_other n1]; exact h.seen
          lasts := by rw [heap_set_other n2]; exact h.lasts
          way := h.way.kept fun k hk => heap_set_other (ne_of_mem n4 hk)
          fuse := h.fuse.kept fun k hk => heap_set_other (ne_of_mem n5 hk)
          apart := h.apart }

theorem MemIs.setStores {w : World} {p : Pl} {M : Pm} (h : MemIs w p M) (s : Int) : MemIs (w.setCell ⟨p.b, 5, none⟩ (.int .i64 s)) p { M with stores := s } := by
  obtain ⟨n1, n2, n3, n4, n5, n6⟩ := h.ne
  exact { ok := ⟨h.ok.len, h.ok.mul, h.ok.lo, h.ok.hi, h.ok.way⟩
          main := by rw [main_set h.main]; simp
          seen := by rw [heap_set_other n1]; exact h.seen
          lasts := by rw [heap_set_other n2]; exact h.lasts
          way := h.way.kept fun k hk => heap_set_other (ne_of_mem n4 hk)
          fuse := h.fuse.kept fun k hk => heap_set_other (ne_of_mem n5 hk)
          apart := h.apart }

/-- The fuse's field. -/
theorem MemIs.setFuse {w : World} {p : Pl} {M : Pm} (h : MemIs w p M) (fv : Value) (F : Option (Int ⊕ List Int)) (hF : FuseIs w fv M.seen.length F) (hn : ({ p with fv := fv } : Pl).blocks.Nodup) :
    MemIs (w.setCell ⟨p.b, 3, none⟩ fv) { p with fv := fv } { M with fuse := F } := by
  obtain ⟨n1, n2, n3, n4, n5, n6⟩ := h.ne
  have hb : p.b ∉ vb fv := by simp only [Pl.blocks, List.nodup_cons, List.mem_cons, List.mem_append, not_or] at hn; exact hn.1.2.2.2
  exact { ok := ⟨h.ok.len, h.ok.mul, h.ok.lo, h.ok.hi, h.ok.way⟩
          main := by rw [main_set h.main]; simp
          seen := by rw [heap_set_other n1]; exact h.seen
          lasts := by rw [heap_set_other n2]; exact h.lasts
          way := h.way.kept fun k hk => heap_set_other (ne_of_mem n4 hk)
          fuse := hF.kept fun k hk => heap_set_other (ne_of_mem hb hk)
          apart := hn }

/-- The map's field. -/
theorem MemIs.setWay {w : World} {p : Pl} {M : Pm} (h : MemIs w p M) (mv : Value) (W : List (Nat × Option (List Int))) (hW : WayIs w mv W) (hok : WayOk M.seen.length W) (hn : ({ p with mv := mv } : Pl).blocks.Nodup) :
    MemIs (w.setCell ⟨p.b, 2, none⟩ mv) { p with mv := mv } { M with way := W } := by
  obtain ⟨n1, n2, n3, n4, n5, n6⟩ := h.ne
  have hb : p.b ∉ vb mv := by simp only [Pl.blocks, List.nodup_cons, List.mem_cons, List.mem_append, not_or] at hn; exact hn.1.2.2.1
  exact { ok := ⟨h.ok.len, h.ok.mul, h.ok.lo, h.ok.hi, hok⟩
          main := by rw [main_set h.main]; simp
          seen := by rw [heap_set_other n1]; exact h.seen
          lasts := by rw [heap_set_other n2]; exact h.lasts
          way := hW.kept fun k hk => heap_set_other (ne_of_mem hb hk)
          fuse := h.fuse.kept fun k hk => heap_set_other (ne_of_mem n5 hk)
          apart := hn }

/-- Without what is on its way, or without a fuse, it has fewer blocks. -/
theorem nodup_less {p : Pl} (h : p.blocks.Nodup) : ({ p with mv := .map none } : Pl).blocks.Nodup := by
  simp only [Pl.blocks, vb, List.nodup_cons, List.mem_cons, List.mem_append, not_or, List.nodup_append] at h ⊢
  simp
  exact ⟨⟨h.1.1, h.1.2.1, h.1.2.2.2⟩, ⟨h.2.1.1, h.2.1.2.2⟩, h.2.2.1.2, h.2.2.2.2.1⟩

theorem nodup_lessF {p : Pl} {fv : Value} (hv : vb fv = []) (h : p.blocks.Nodup) : ({ p with fv := fv } : Pl).blocks.Nodup := by
  simp only [Pl.blocks, hv, List.nodup_cons, List.mem_cons, List.mem_append, not_or, List.nodup_append] at h ⊢
  simp
  exact ⟨⟨h.1.1, h.1.2.1, h.1.2.2.1⟩, ⟨h.2.1.1, h.2.1.2.1⟩, h.2.2.1.1, h.2.2.2.1⟩

/-- With a new block for the fuse. -/
theorem nodup_moreF {w : World} {p : Pl} {M : Pm} {fv : Value} {g : Nat} (h : MemIs w p M) (hv : vb fv = [g]) (hg : w.heap.size ≤ g) : ({ p with fv := fv } : Pl).blocks.Nodup := by
  have hl := h.blocks_lt
  have h := h.apart
  simp only [Pl.blocks, List.mem_cons, List.mem_append] at hl
  simp only [Pl.blocks, hv, List.nodup_cons, List.mem_cons, List.mem_append, not_or, List.nodup_append] at h ⊢
  have e1 := hl p.b (by simp)
  have e2 := hl p.bs (by simp)
  have e3 := hl p.bl (by simp)
  have e4 : ∀ k ∈ vb p.mv, k < w.heap.size := fun k hk => hl k (by simp [hk])
  simp
  exact ⟨⟨h.1.1, h.1.2.1, h.1.2.2.1, by omega⟩, ⟨h.2.1.1, h.2.1.2.1, by omega⟩, ⟨h.2.2.1.1, by omega⟩, h.2.2.2.1, fun a ha e => by have := e4 a ha; omega⟩

/-- With a new block for the map. -/
theorem nodup_moreW {w : World} {p : Pl} {M : Pm} {mv : Value} {g : Nat} (h : MemIs w p M) (hv : vb mv = [g]) (hg : w.heap.size ≤ g) : ({ p with mv := mv } : Pl).blocks.Nodup := by
  have hl := h.blocks_lt
  have h := h.apart
  simp only [Pl.blocks, List.mem_cons, List.mem_append] at hl
  simp only [Pl.blocks, hv, List.nodup_cons, List.mem_cons, List.mem_append, not_or, List.nodup_append] at h ⊢
  have e1 := hl p.b (by simp)
  have e2 := hl p.bs (by simp)
  have e3 := hl p.bl (by simp)
  have e4 : ∀ k ∈ vb p.fv, k < w.heap.size := fun k hk => hl k (by simp [hk])
  simp
  exact ⟨⟨h.1.1, h.1.2.1, by omega, h.1.2.2.2⟩, ⟨h.2.1.1, by omega, h.2.1.2.2⟩, ⟨by omega, h.2.2.1.2⟩, h.2.2.2.2.1, fun a ha e => by have := e4 a ha; omega⟩

theorem mem_blocks {p : Pl} {k : Nat} : k ∈ p.blocks ↔ k = p.b ∨ k = p.bs ∨ k = p.bl ∨ k ∈ vb p.mv ∨ k ∈ vb p.fv := by simp [Pl.blocks]

theorem fresh_fv {w : World} {p : Pl} {fv : Value} (hv : ∀ k ∈ vb fv, w.heap.size ≤ k) : ∀ k ∈ ({ p with fv := fv } : Pl).blocks, k ∈ p.blocks ∨ w.heap.size ≤ k := by
  intro k hk
  rw [mem_blocks] at hk ⊢
  rcases hk with hk | hk | hk | hk | hk
  · exact Or.inl (Or.inl hk)
  · exact Or.inl (Or.inr (Or.inl hk))
  · exact Or.inl (Or.inr (Or.inr (Or.inl hk)))
  · exact Or.inl (Or.inr (Or.inr (Or.inr (Or.inl hk))))
  · exact Or.inr (hv k hk)

theorem fresh_mv {w : World} {p : Pl} {mv : Value} (hv : ∀ k ∈ vb mv, w.heap.size ≤ k) : ∀ k ∈ ({ p with mv := mv } : Pl).blocks, k ∈ p.blocks ∨ w.heap.size ≤ k := by
  intro k hk
  rw [mem_blocks] at hk ⊢
  rcases hk with hk | hk | hk | hk | hk
  · exact Or.inl (Or.inl hk)
  · exact Or.inl (Or.inr (Or.inl hk))
  · exact Or.inl (Or.inr (Or.inr (Or.inl hk)))
  · exact Or.inr (hv k hk)
  · exact Or.inl (Or.inr (Or.inr (Or.inr (Or.inr hk))))

/-- A word of what is seen. -/
theorem MemIs.setSeen {w : World} {p : Pl} {M : Pm} (h : MemIs w p M) (i : Nat) (hi : i < M.seen.length) (v : Int) : MemIs (w.setCell ⟨p.bs, i, none⟩ (.int .u64 v)) p { M with seen := M.seen.set i v } := by
  obtain ⟨n1, n2, n3, n4, n5, n6, n7, n8⟩ := h.ne
  exact { ok := ⟨by simp [h.ok.len], by simp [h.ok.mul], by simp [h.ok.lo], by simp [h.ok.hi], by simpa using h.ok.way⟩
          main := by rw [heap_set_other n1.symm]; simpa using h.main
          seen := by
            rw [main_set h.seen]
            simp [row, hi]
          lasts := by rw [heap_set_other n3]; exact h.lasts
          way := h.way.kept fun k hk => heap_set_other (ne_of_mem n6 hk)
          fuse := by
            have := h.fuse.kept (w' := w.setCell ⟨p.bs, i, none⟩ (.int .u64 v)) fun k hk => heap_set_other (ne_of_mem n7 hk)
            simpa using this
          apart := h.apart }

/-- The row of what lasts. -/
theorem MemIs.setLasts {w : World} {p : Pl} {M : Pm} (h : MemIs w p M) (xs : List Int) (hl : xs.length = M.seen.length) : MemIs (w.setRow p.bl (row xs p.zl)) p { M with lasts := xs } := by
  obtain ⟨n1, n2, n3, n4, n5, n6, n7, n8, n9, _⟩ := h.ne
  have ho : ∀ k, k ≠ p.bl → (w.setRow p.bl (row xs p.zl)).heap[k]? = w.heap[k]? := fun k hk => by
    simp only [World.setRow, Array.getElem?_modify]
    rw [if_neg (fun e => hk e.symm)]
  exact { ok := ⟨hl, h.ok.mul, h.ok.lo, h.ok.hi, h.ok.way⟩
          main := by rw [ho _ n2.symm]; exact h.main
          seen := by rw [ho _ n3.symm]; exact h.seen
          lasts := setRow_heap w p.bl _ _ _ _ h.lasts
          way := h.way.kept fun k hk => ho _ (ne_of_mem n8 hk)
          fuse := h.fuse.kept fun k hk => ho _ (ne_of_mem n9 hk)
          apart := h.apart }

/-- The row of what is seen, whole. -/
theorem MemIs.setSeenRow {w : World} {p : Pl} {M : Pm} (h : MemIs w p M) (xs : List Int) (hl : xs.length = M.seen.length) : MemIs (w.setRow p.bs (row xs p.zs)) p { M with seen := xs } := by
  obtain ⟨n1, n2, n3, n4, n5, n6, n7, n8, n9, _⟩ := h.ne
  have ho : ∀ k, k ≠ p.bs → (w.setRow p.bs (row xs p.zs)).heap[k]? = w.heap[k]? := fun k hk => by
    simp only [World.setRow, Array.getElem?_modify]
    rw [if_neg (fun e => hk e.symm)]
  exact { ok := ⟨by simp [hl, h.ok.len], by simp [hl, h.ok.mul], by simp [hl, h.ok.lo], by simp [hl, h.ok.hi], by simpa [hl] using h.ok.way⟩
          main := by rw [ho _ n1.symm]; simpa [hl] using h.main
          seen := setRow_heap w p.bs _ _ _ _ h.seen
          lasts := by rw [ho _ n3]; exact h.lasts
          way := h.way.kept fun k hk => ho _ (ne_of_mem n6 hk)
          fuse := by
            have := h.fuse.kept (w' := w.setRow p.bs (row xs p.zs)) fun k hk => ho _ (ne_of_mem n7 hk)
            simpa [hl] using this
          apart := h.apart }

end Go.Proofs.Ytpaefllhngbimaa
