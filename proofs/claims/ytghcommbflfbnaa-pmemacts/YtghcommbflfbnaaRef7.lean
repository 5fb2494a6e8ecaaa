/-
  The reference memory: Copy.
-/
import Derived.Test.YtghcommbflfbnaaRef6
namespace Go.Proofs.Ytghcommbflfbnaa
open Go.RowKit

theorem build39 (w : World) : (Instr.buildSlice 39 0 #[]).run Try.prog w = .ok (.slice (some ⟨w.heap.size, 0, none⟩) 0 0) (w.alloc (.cells #[] 4)) := by kernel_rfl

theorem brow_news {w : World} {b : Nat} {xs : List Bool} {zs : List Value} (h : w.heap[b]? = some (.cells (brow xs zs) 4 (0, 0))) : ∀ j u, (xs.map Value.bool)[j]? = some u → w.cell? ((⟨b, 0, none⟩ : Addr).add j) = some u := by
  intro j u hu
  have hj : j < xs.length := by
    rcases Nat.lt_or_ge j xs.length with h1 | h1
    · exact h1
    · rw [List.getElem?_eq_none (by simpa using h1)] at hu; cases hu
  have : (⟨b, 0, none⟩ : Addr).add j = ⟨b, j, none⟩ := by unfold Addr.add; split <;> simp_all
  rw [this, brow_cell h hj, ← hu]
  simp [hj]

theorem brow_oneCell (xs : List Bool) : ∀ u ∈ xs.map Value.bool, u.oneCell' = true := by
  intro u hu
  simp only [List.mem_map] at hu
  obtain ⟨a, _, rfl⟩ := hu
  rfl

theorem appended_brow {w w1 : World} {xs : List Bool} {n g cap H : Nat} (hH : w.heap.size ≤ H)
    (hown1 : w1.ownsRow w.heap.size 4 1 (.slice (some ⟨g, 0, none⟩) n cap) n (xs.map Value.bool)) (hgrow : (w.alloc (.cells #[] 4)).grownBy w1 (some w.heap.size))
    (hat : (some w.heap.size : Option Nat) = some g ∨ g = H) : w.heap.size ≤ g ∧ Kept [] w w1 ∧ ∃ ys : List Value, cap = n + ys.length ∧ w1.heap[g]? = some (.cells (brow xs ys) 4 (0, 0)) := by
  obtain ⟨-, hr⟩ := hown1
  refine ⟨?_, ?_, ?_⟩
  · rcases hat with h2 | h2
    · simp at h2; omega
    · omega
  · refine ⟨hgrow.os, hgrow.tape, hgrow.output, by have := hgrow.size; simp at this; omega, fun k hk _ => ?_⟩
    rw [hgrow.block k (by simp; omega) (by simp; omega), Below.heap_alloc _ _ _ hk]
  · rcases hr with ⟨h2, _⟩ | ⟨g', cap', cur, h2, _, h3, h4, _, h5, h6⟩
    · cases h2
    · simp only [Value.slice.injEq, Option.some.injEq, Addr.mk.injEq, true_and, and_true] at h2
      obtain ⟨rfl, rfl⟩ := h2
      refine ⟨cur.toList.drop n, ?_, ?_⟩
      · simp [h5]; omega
      · rw [h3]
        simp only [Nat.mul_one] at h6
        congr 2
        apply Array.ext'
        simp only [brow]
        rw [← h6, List.take_append_drop]

/-- The copy, put together: its struct's block b, its rows' blocks in rising order. -/
theorem rcopy_fin {w W : World} {R : Rf} (hok : R.Ok) {b s l y g : Nat} {zs zl zy zg : List Value} {tv : Value}
    (hb : W.heap[b]? = some (.cells #[.slice (some ⟨s, 0, none⟩) R.seen.length (R.seen.length + zs.length), .slice (some ⟨l, 0, none⟩) R.seen.length (R.seen.length + zl.length), .slice (some ⟨y, 0, none⟩) R.seen.length (R.seen.length + zy.length), .slice (some ⟨g, 0, none⟩) (R.seen.length / 8) (R.seen.length / 8 + zg.length), .bool R.fuse, .int .i64 R.left, tv, .int .i64 R.steps, .int .i64 R.many] 41 (0, 0)))
    (hs : W.heap[s]? = some (.cells (row R.seen zs) 44 (0, 0))) (hl : W.heap[l]? = some (.cells (row R.last zl) 44 (0, 0))) (hy : W.heap[y]? = some (.cells (row R.way zy) 44 (0, 0))) (hg : W.heap[g]? = some (.cells (brow R.going zg) 4 (0, 0)))
    (ht : ThenIs W tv R.seen.length R.thn) (htn : (sb tv).Nodup) (hd : b < s ∧ s < l ∧ l < y ∧ y < g ∧ ∀ k ∈ sb tv, g < k) (hge : w.heap.size ≤ b) :
    (∀ k ∈ (⟨b, s, l, y, g, zs, zl, zy, zg, tv⟩ : Rp).blocks, w.heap.size ≤ k) ∧ RefIs W ⟨b, s, l, y, g, zs, zl, zy, zg, tv⟩ R := by
  obtain ⟨d1, d2, d3, d4, d5⟩ := hd
  constructor
  · intro k hk
    rw [mem_rblocks] at hk
    rcases hk with hk | hk | hk | hk | hk | hk
    · simp only at hk; omega
    · simp only at hk; omega
    · simp only at hk; omega
    · simp only at hk; omega
    · simp only at hk; omega
    · have := d5 k hk; omega
  · exact { ok := hok
            main := hb
            seen := hs
            last := hl
            way := hy
            going := hg
            thn := ht
            apart := by
              have f1 : b ∉ sb tv := fun h => by have := d5 _ h; omega
              have f2 : s ∉ sb tv := fun h => by have := d5 _ h; omega
              have f3 : l ∉ sb tv := fun h => by have := d5 _ h; omega
              have f4 : y ∉ sb tv := fun h => by have := d5 _ h; omega
              have f5 : g ∉ sb tv := fun h => by have := d5 _ h; omega
              simp only [Rp.blocks, List.nodup_cons, List.mem_cons, not_or]
              exact ⟨⟨by omega, by omega, by omega, by omega, f1⟩, ⟨by omega, by omega, by omega, f2⟩, ⟨by omega, by omega, f3⟩, ⟨by omega, f4⟩, f5, htn⟩ }


theorem appended_row2 {w w1 : World} {xs : List Int} {n g cap H B : Nat} (hB : w.heap.size = B) (hH : B ≤ H)
    (hown1 : w1.ownsRow B 44 1 (.slice (some ⟨g, 0, none⟩) n cap) n (xs.map (Value.int .u64))) (hgrow : (w.alloc (.cells #[] 44)).grownBy w1 (some B))
    (hat : (some B : Option Nat) = some g ∨ g = H) : B ≤ g ∧ Kept [] w w1 ∧ ∃ ys : List Value, cap = n + ys.length ∧ w1.heap[g]? = some (.cells (row xs ys) 44 (0, 0)) := by
  subst hB
  exact appended_row hH hown1 hgrow hat

theorem appended_brow2 {w w1 : World} {xs : List Bool} {n g cap H B : Nat} (hB : w.heap.size = B) (hH : B ≤ H)
    (hown1 : w1.ownsRow B 4 1 (.slice (some ⟨g, 0, none⟩) n cap) n (xs.map Value.bool)) (hgrow : (w.alloc (.cells #[] 4)).grownBy w1 (some B))
    (hat : (some B : Option Nat) = some g ∨ g = H) : B ≤ g ∧ Kept [] w w1 ∧ ∃ ys : List Value, cap = n + ys.length ∧ w1.heap[g]? = some (.cells (brow xs ys) 4 (0, 0)) := by
  subst hB
  exact appended_brow hH hown1 hgrow hat

theorem kept_at {F : List Nat} {w w' : World} (h : Kept F w w') {g : Nat} {cs : Array Value} {e : Nat} (hb : w.heap[g]? = some (.cells cs e (0, 0))) (hF : g ∉ F) : w'.heap[g]? = some (.cells cs e (0, 0)) := by
  rw [h.block g (lt_of_heap hb) hF]; exact hb

set_option maxRecDepth 100000 in
set_option maxHeartbeats 8000000 in
theorem rcopy_none {w : World} {p : Rp} {R : Rf} (h : RefIs w p R) (hT : R.thn = none) :
    Calls Try.prog 14 #[.pointer (some ⟨p.b, 0, none⟩)] w fun e w' => ∃ q, e = .returned (.pointer (some ⟨q.b, 0, none⟩)) ∧ Kept [] w w' ∧ (∀ k ∈ q.blocks, w.heap.size ≤ k) ∧ RefIs w' q R := by
  have hlo := h.ok.lo
  have hhi := h.ok.hi
  have hlt := lt_of_heap h.main
  have ht := h.thn
  rw [hT] at ht
  have htv : p.tv = .slice none 0 0 := ht
  have a0 : w.cell? ⟨p.b, 0, none⟩ = some (.slice (some ⟨p.bs, 0, none⟩) R.seen.length (R.seen.length + p.zs.length)) := by simpa [Rp.cells] using h.cell 0
  have a1 : w.cell? ⟨p.b, 1, none⟩ = some (.slice (some ⟨p.bl, 0, none⟩) R.seen.length (R.seen.length + p.zl.length)) := by simpa [Rp.cells] using h.cell 1
  have a2 : w.cell? ⟨p.b, 2, none⟩ = some (.slice (some ⟨p.bw, 0, none⟩) R.seen.length (R.seen.length + p.zw.length)) := by simpa [Rp.cells] using h.cell 2
  have a3 : w.cell? ⟨p.b, 3, none⟩ = some (.slice (some ⟨p.bg, 0, none⟩) (R.seen.length / 8) (R.seen.length / 8 + p.zg.length)) := by simpa [Rp.cells] using h.cell 3
  have a4 : w.cell? ⟨p.b, 4, none⟩ = some (.bool R.fuse) := by simpa [Rp.cells] using h.cell 4
  have a5 : w.cell? ⟨p.b, 5, none⟩ = some (.int .i64 R.left) := by simpa [Rp.cells] using h.cell 5
  have a6 : w.cell? ⟨p.b, 6, none⟩ = some (.slice none 0 0) := by rw [← htv]; simpa [Rp.cells] using h.cell 6
  have a7 : w.cell? ⟨p.b, 7, none⟩ = some (.int .i64 R.steps) := by simpa [Rp.cells] using h.cell 7
  have a8 : w.cell? ⟨p.b, 8, none⟩ = some (.int .i64 R.many) := by simpa [Rp.cells] using h.cell 8
  have hb38 := build0
  have hb39 := build39
  have hne := fun (w : World) => run_neq_slice_nil_any (P := Try.prog) w
  have HH : Hid (_ ∧ _) := ⟨h, hT⟩
  have HT : Hid (_ = _) := htv
  have HM0 : Hid (RefIs (w.alloc (.cells #[.slice (some ⟨p.bs, 0, none⟩) R.seen.length (R.seen.length + p.zs.length), .slice (some ⟨p.bl, 0, none⟩) R.seen.length (R.seen.length + p.zl.length), .slice (some ⟨p.bw, 0, none⟩) R.seen.length (R.seen.length + p.zw.length), .slice (some ⟨p.bg, 0, none⟩) (R.seen.length / 8) (R.seen.length / 8 + p.zg.length), .bool R.fuse, .int .i64 R.left, .slice none 0 0, .int .i64 R.steps, .int .i64 R.many] 41)) p R ∧ (w.alloc (.cells #[.slice (some ⟨p.bs, 0, none⟩) R.seen.length (R.seen.length + p.zs.length), .slice (some ⟨p.bl, 0, none⟩) R.seen.length (R.seen.length + p.zl.length), .slice (some ⟨p.bw, 0, none⟩) R.seen.length (R.seen.length + p.zw.length), .slice (some ⟨p.bg, 0, none⟩) (R.seen.length / 8) (R.seen.length / 8 + p.zg.length), .bool R.fuse, .int .i64 R.left, .slice none 0 0, .int .i64 R.steps, .int .i64 R.many] 41)).heap[w.heap.size]? = some (.cells #[.slice (some ⟨p.bs, 0, none⟩) R.seen.length (R.seen.length + p.zs.length), .slice (some ⟨p.bl, 0, none⟩) R.seen.length (R.seen.length + p.zl.length), .slice (some ⟨p.bw, 0, none⟩) R.seen.length (R.seen.length + p.zw.length), .slice (some ⟨p.bg, 0, none⟩) (R.seen.length / 8) (R.seen.length / 8 + p.zg.length), .bool R.fuse, .int .i64 R.left, .slice none 0 0, .int .i64 R.steps, .int .i64 R.many] 41 (0, 0))) := ⟨h.kept0 ((Kept.refl _ _).alloc _), Go.heap_alloc_new _ _⟩
  clear h hT htv ht
  go_enter Try.func14, Try.ntmps14
  have hl0 := lt_of_heap (HM0.out.1.seen)
  have hk0 : ((w.alloc (.cells #[.slice (some ⟨p.bs, 0, none⟩) R.seen.length (R.seen.length + p.zs.length), .slice (some ⟨p.bl, 0, none⟩) R.seen.length (R.seen.length + p.zl.length), .slice (some ⟨p.bw, 0, none⟩) R.seen.length (R.seen.length + p.zw.length), .slice (some ⟨p.bg, 0, none⟩) (R.seen.length / 8) (R.seen.length / 8 + p.zg.length), .bool R.fuse, .int .i64 R.left, .slice none 0 0, .int .i64 R.steps, .int .i64 R.many] 41)).alloc (.cells #[] 44)).heap[p.bs]? = some (.cells (row R.seen p.zs) 44 (0, 0)) := by rw [Below.heap_alloc _ _ _ hl0]; exact HM0.out.1.seen
  have hnews0 := row_news hk0
  have hone0 := row_oneCell R.seen
  have hlen0 : (R.seen.map (Value.int .u64)).length = R.seen.length * 1 := by simp
  obtain ⟨i0, hi0, hz00, hz10, hz20⟩ := info_parts info44
  have hB0 : (w.alloc (.cells #[.slice (some ⟨p.bs, 0, none⟩) R.seen.length (R.seen.length + p.zs.length), .slice (some ⟨p.bl, 0, none⟩) R.seen.length (R.seen.length + p.zl.length), .slice (some ⟨p.bw, 0, none⟩) R.seen.length (R.seen.length + p.zw.length), .slice (some ⟨p.bg, 0, none⟩) (R.seen.length / 8) (R.seen.length / 8 + p.zg.length), .bool R.fuse, .int .i64 R.left, .slice none 0 0, .int .i64 R.steps, .int .i64 R.many] 41)).heap.size = w.heap.size + 1 := by simp
  have hown0 : ((w.alloc (.cells #[.slice (some ⟨p.bs, 0, none⟩) R.seen.length (R.seen.length + p.zs.length), .slice (some ⟨p.bl, 0, none⟩) R.seen.length (R.seen.length + p.zl.length), .slice (some ⟨p.bw, 0, none⟩) R.seen.length (R.seen.length + p.zw.length), .slice (some ⟨p.bg, 0, none⟩) (R.seen.length / 8) (R.seen.length / 8 + p.zg.length), .bool R.fuse, .int .i64 R.left, .slice none 0 0, .int .i64 R.steps, .int .i64 R.many] 41)).alloc (.cells #[] 44)).ownsRow (w.heap.size + 1) 44 1 (.slice (some ⟨w.heap.size + 1, 0, none⟩) 0 0) 0 [] := by
    have := World.ownsRow_made (base := (w.alloc (.cells #[.slice (some ⟨p.bs, 0, none⟩) R.seen.length (R.seen.length + p.zs.length), .slice (some ⟨p.bl, 0, none⟩) R.seen.length (R.seen.length + p.zl.length), .slice (some ⟨p.bw, 0, none⟩) R.seen.length (R.seen.length + p.zw.length), .slice (some ⟨p.bg, 0, none⟩) (R.seen.length / 8) (R.seen.length / 8 + p.zg.length), .bool R.fuse, .int .i64 R.left, .slice none 0 0, .int .i64 R.steps, .int .i64 R.many] 41)).heap.size) (e := 44) (size := 1) (w.alloc (.cells #[.slice (some ⟨p.bs, 0, none⟩) R.seen.length (R.seen.length + p.zs.length), .slice (some ⟨p.bl, 0, none⟩) R.seen.length (R.seen.length + p.zl.length), .slice (some ⟨p.bw, 0, none⟩) R.seen.length (R.seen.length + p.zw.length), .slice (some ⟨p.bg, 0, none⟩) (R.seen.length / 8) (R.seen.length / 8 + p.zg.length), .bool R.fuse, .int .i64 R.left, .slice none 0 0, .int .i64 R.steps, .int .i64 R.many] 41)) #[] 0 (Nat.le_refl _) (by unfold maxLen; omega) (by simp)
    rw [hB0] at this
    exact this
  have HB0 : Hid (_ = _) := hB0
  clear hk0 hB0
  go_wp2_with (first
    | (at_builtin; refine wpList_append_lies _ rfl _ _ 38 rfl (w.heap.size + 1) 44 i0 (.int .u64 0) 1 8 Try.underlying38 hi0 hz00 hz10 hz20 rfl (by omega) _ 0 [] rfl hown0 ⟨p.bs, 0, none⟩ R.seen.length (R.seen.length + p.zs.length) (R.seen.map (Value.int .u64)) rfl hlen0 hnews0 hone0 ?hpos0 ?h630 ?hby0 (by simp) (w.heap.size + 1 + 1) (by simp) ?_))
  case hpos0 => omega
  case h630 => unfold maxLen; omega
  case hby0 => omega
  intro g0 cap0 v0 hown hgrow hat hltg
  obtain ⟨hg0, hK0, y0, hcap0, hr0⟩ := appended_row2 (w := w.alloc (.cells #[.slice (some ⟨p.bs, 0, none⟩) R.seen.length (R.seen.length + p.zs.length), .slice (some ⟨p.bl, 0, none⟩) R.seen.length (R.seen.length + p.zl.length), .slice (some ⟨p.bw, 0, none⟩) R.seen.length (R.seen.length + p.zw.length), .slice (some ⟨p.bg, 0, none⟩) (R.seen.length / 8) (R.seen.length / 8 + p.zg.length), .bool R.fuse, .int .i64 R.left, .slice none 0 0, .int .i64 R.steps, .int .i64 R.many] 41)) HB0.out (Nat.le_succ _) hown hgrow hat
  subst hcap0
  clear hown hgrow hat hltg hown0 hnews0 hone0 hlen0 hz00 hz10 hz20 hi0 hl0
  clear a0 a1 a2 a3 a4 a5 a6 a7 a8
  have hmv0 := HM0.out.1.kept0 hK0
  have hbv0 : v0.heap[w.heap.size]? = some (.cells #[.slice (some ⟨p.bs, 0, none⟩) R.seen.length (R.seen.length + p.zs.length), .slice (some ⟨p.bl, 0, none⟩) R.seen.length (R.seen.length + p.zl.length), .slice (some ⟨p.bw, 0, none⟩) R.seen.length (R.seen.length + p.zw.length), .slice (some ⟨p.bg, 0, none⟩) (R.seen.length / 8) (R.seen.length / 8 + p.zg.length), .bool R.fuse, .int .i64 R.left, .slice none 0 0, .int .i64 R.steps, .int .i64 R.many] 41 (0, 0)) := by rw [hK0.block _ (lt_of_heap HM0.out.2) (by simp)]; exact HM0.out.2
  have hgb0 : w.heap.size < g0 := by have := lt_of_heap HM0.out.2; have := HB0.out; omega
  have b0 : v0.cell? ⟨w.heap.size, 0, none⟩ = some (.slice (some ⟨p.bs, 0, none⟩) R.seen.length (R.seen.length + p.zs.length)) := by simp [World.cell?, hbv0]
  have fb : v0.frozen? ⟨w.heap.size, 0, none⟩ = false := by simp [World.frozen?, hbv0]
  have c0 : v0.cell? ⟨p.b, 0, none⟩ = some (.slice (some ⟨p.bs, 0, none⟩) R.seen.length (R.seen.length + p.zs.length)) := by simpa [Rp.cells, HT.out] using hmv0.cell 0
  have c1 : v0.cell? ⟨p.b, 1, none⟩ = some (.slice (some ⟨p.bl, 0, none⟩) R.seen.length (R.seen.length + p.zl.length)) := by simpa [Rp.cells, HT.out] using hmv0.cell 1
  have c2 : v0.cell? ⟨p.b, 2, none⟩ = some (.slice (some ⟨p.bw, 0, none⟩) R.seen.length (R.seen.length + p.zw.length)) := by simpa [Rp.cells, HT.out] using hmv0.cell 2
  have c3 : v0.cell? ⟨p.b, 3, none⟩ = some (.slice (some ⟨p.bg, 0, none⟩) (R.seen.length / 8) (R.seen.length / 8 + p.zg.length)) := by simpa [Rp.cells, HT.out] using hmv0.cell 3
  have c6 : v0.cell? ⟨p.b, 6, none⟩ = some (.slice none 0 0) := by rw [← HT.out]; simpa [Rp.cells] using hmv0.cell 6
  have hne0 : p.b ≠ w.heap.size := by omega
  have hlt0 : p.b < v0.heap.size := lt_of_heap hmv0.main
  have HM1 : Hid (RefIs (v0.setCell ⟨w.heap.size, 0, none⟩ (.slice (some ⟨g0, 0, none⟩) R.seen.length (R.seen.length + y0.length))) p R ∧ (v0.setCell ⟨w.heap.size, 0, none⟩ (.slice (some ⟨g0, 0, none⟩) R.seen.length (R.seen.length + y0.length))).heap[w.heap.size]? = some (.cells #[.slice (some ⟨g0, 0, none⟩) R.seen.length (R.seen.length + y0.length), .slice (some ⟨p.bl, 0, none⟩) R.seen.length (R.seen.length + p.zl.length), .slice (some ⟨p.bw, 0, none⟩) R.seen.length (R.seen.length + p.zw.length), .slice (some ⟨p.bg, 0, none⟩) (R.seen.length / 8) (R.seen.length / 8 + p.zg.length), .bool R.fuse, .int .i64 R.left, .slice none 0 0, .int .i64 R.steps, .int .i64 R.many] 41 (0, 0))) := by
    refine ⟨hmv0.kept ((Kept.refl [w.heap.size] _).setCell (by simp) _) (fun x hx hm => ?_), ?_⟩
    · simp only [List.mem_singleton] at hm
      have := HH.out.1.blocks_lt x hx
      omega
    · rw [main_set hbv0]; simp
  have HR0 : Hid ((v0.setCell ⟨w.heap.size, 0, none⟩ (.slice (some ⟨g0, 0, none⟩) R.seen.length (R.seen.length + y0.length))).heap[g0]? = some (.cells (row R.seen y0) 44 (0, 0)) ∧ Kept [w.heap.size] (w.alloc (.cells #[.slice (some ⟨p.bs, 0, none⟩) R.seen.length (R.seen.length + p.zs.length), .slice (some ⟨p.bl, 0, none⟩) R.seen.length (R.seen.length + p.zl.length), .slice (some ⟨p.bw, 0, none⟩) R.seen.length (R.seen.length + p.zw.length), .slice (some ⟨p.bg, 0, none⟩) (R.seen.length / 8) (R.seen.length / 8 + p.zg.length), .bool R.fuse, .int .i64 R.left, .slice none 0 0, .int .i64 R.steps, .int .i64 R.many] 41)) (v0.setCell ⟨w.heap.size, 0, none⟩ (.slice (some ⟨g0, 0, none⟩) R.seen.length (R.seen.length + y0.length))) ∧ w.heap.size < g0) := ⟨by rw [heap_set_other (by simp; omega)]; exact hr0, (hK0.mono (by simp)).setCell (by simp) _, hgb0⟩
  clear hmv0 hbv0 hgb0 hr0
  have hl1 := lt_of_heap (HM1.out.1.last)
  have hk1 : ((v0.setCell ⟨w.heap.size, 0, none⟩ (.slice (some ⟨g0, 0, none⟩) R.seen.length (R.seen.length + y0.length))).alloc (.cells #[] 44)).heap[p.bl]? = some (.cells (row R.last p.zl) 44 (0, 0)) := by rw [Below.heap_alloc _ _ _ hl1]; exact HM1.out.1.last
  have hnews1 := row_news hk1
  have hone1 := row_oneCell R.last
  have hlen1 : (R.last.map (Value.int .u64)).length = R.seen.length * 1 := by simp [HM1.out.1.ok.llen]
  obtain ⟨i1, hi1, hz01, hz11, hz21⟩ := info_parts info44
  have hB1 : (v0.setCell ⟨w.heap.size, 0, none⟩ (.slice (some ⟨g0, 0, none⟩) R.seen.length (R.seen.length + y0.length))).heap.size = v0.heap.size := by simp
  have hown1 : ((v0.setCell ⟨w.heap.size, 0, none⟩ (.slice (some ⟨g0, 0, none⟩) R.seen.length (R.seen.length + y0.length))).alloc (.cells #[] 44)).ownsRow (v0.heap.size) 44 1 (.slice (some ⟨v0.heap.size, 0, none⟩) 0 0) 0 [] := by
    have := World.ownsRow_made (base := (v0.setCell ⟨w.heap.size, 0, none⟩ (.slice (some ⟨g0, 0, none⟩) R.seen.length (R.seen.length + y0.length))).heap.size) (e := 44) (size := 1) (v0.setCell ⟨w.heap.size, 0, none⟩ (.slice (some ⟨g0, 0, none⟩) R.seen.length (R.seen.length + y0.length))) #[] 0 (Nat.le_refl _) (by unfold maxLen; omega) (by simp)
    rw [hB1] at this
    exact this
  have HB1 : Hid (_ = _) := hB1
  clear hk1 hB1
  go_wp2_with (first
    | (at_builtin; refine wpList_append_lies _ rfl _ _ 38 rfl (v0.heap.size) 44 i1 (.int .u64 0) 1 8 Try.underlying38 hi1 hz01 hz11 hz21 rfl (by omega) _ 0 [] rfl hown1 ⟨p.bl, 0, none⟩ R.seen.length (R.seen.length + p.zl.length) (R.last.map (Value.int .u64)) rfl hlen1 hnews1 hone1 ?hpos1 ?h631 ?hby1 (by simp) (v0.heap.size + 1) (by simp) ?_))
  case hpos1 => omega
  case h631 => unfold maxLen; omega
  case hby1 => omega
  intro g1 cap1 v1 hown hgrow hat hltg
  obtain ⟨hg1, hK1, y1, hcap1, hr1⟩ := appended_row2 (w := v0.setCell ⟨w.heap.size, 0, none⟩ (.slice (some ⟨g0, 0, none⟩) R.seen.length (R.seen.length + y0.length))) HB1.out (Nat.le_succ _) hown hgrow hat
  subst hcap1
  clear hown hgrow hat hltg hown1 hnews1 hone1 hlen1 hz01 hz11 hz21 hi1 hl1
  clear b0 fb c0 c1 c2 c3 c6
  have hmv1 := HM1.out.1.kept0 hK1
  have hbv1 : v1.heap[w.heap.size]? = some (.cells #[.slice (some ⟨g0, 0, none⟩) R.seen.length (R.seen.length + y0.length), .slice (some ⟨p.bl, 0, none⟩) R.seen.length (R.seen.length + p.zl.length), .slice (some ⟨p.bw, 0, none⟩) R.seen.length (R.seen.length + p.zw.length), .slice (some ⟨p.bg, 0, none⟩) (R.seen.length / 8) (R.seen.length / 8 + p.zg.length), .bool R.fuse, .int .i64 R.left, .slice none 0 0, .int .i64 R.steps, .int .i64 R.many] 41 (0, 0)) := by rw [hK1.block _ (lt_of_heap HM1.out.2) (by simp)]; exact HM1.out.2
  have hgb1 : w.heap.size < g1 := by have := lt_of_heap HM1.out.2; have := HB1.out; omega
  have b1 : v1.cell? ⟨w.heap.size, 1, none⟩ = some (.slice (some ⟨p.bl, 0, none⟩) R.seen.length (R.seen.length + p.zl.length)) := by simp [World.cell?, hbv1]
  have fb : v1.frozen? ⟨w.heap.size, 1, none⟩ = false := by simp [World.frozen?, hbv1]
  have c0 : v1.cell? ⟨p.b, 0, none⟩ = some (.slice (some ⟨p.bs, 0, none⟩) R.seen.length (R.seen.length + p.zs.length)) := by simpa [Rp.cells, HT.out] using hmv1.cell 0
  have c1 : v1.cell? ⟨p.b, 1, none⟩ = some (.slice (some ⟨p.bl, 0, none⟩) R.seen.length (R.seen.length + p.zl.length)) := by simpa [Rp.cells, HT.out] using hmv1.cell 1
  have c2 : v1.cell? ⟨p.b, 2, none⟩ = some (.slice (some ⟨p.bw, 0, none⟩) R.seen.length (R.seen.length + p.zw.length)) := by simpa [Rp.cells, HT.out] using hmv1.cell 2
  have c3 : v1.cell? ⟨p.b, 3, none⟩ = some (.slice (some ⟨p.bg, 0, none⟩) (R.seen.length / 8) (R.seen.length / 8 + p.zg.length)) := by simpa [Rp.cells, HT.out] using hmv1.cell 3
  have c6 : v1.cell? ⟨p.b, 6, none⟩ = some (.slice none 0 0) := by rw [← HT.out]; simpa [Rp.cells] using hmv1.cell 6
  have hne1 : p.b ≠ w.heap.size := by omega
  have hlt1 : p.b < v1.heap.size := lt_of_heap hmv1.main
  have HM2 : Hid (RefIs (v1.setCell ⟨w.heap.size, 1, none⟩ (.slice (some ⟨g1, 0, none⟩) R.seen.length (R.seen.length + y1.length))) p R ∧ (v1.setCell ⟨w.heap.size, 1, none⟩ (.slice (some ⟨g1, 0, none⟩) R.seen.length (R.seen.length + y1.length))).heap[w.heap.size]? = some (.cells #[.slice (some ⟨g0, 0, none⟩) R.seen.length (R.seen.length + y0.length), .slice (some ⟨g1, 0, none⟩) R.seen.length (R.seen.length + y1.length), .slice (some ⟨p.bw, 0, none⟩) R.seen.length (R.seen.length + p.zw.length), .slice (some ⟨p.bg, 0, none⟩) (R.seen.length / 8) (R.seen.length / 8 + p.zg.length), .bool R.fuse, .int .i64 R.left, .slice none 0 0, .int .i64 R.steps, .int .i64 R.many] 41 (0, 0))) := by
    refine ⟨hmv1.kept ((Kept.refl [w.heap.size] _).setCell (by simp) _) (fun x hx hm => ?_), ?_⟩
    · simp only [List.mem_singleton] at hm
      have := HH.out.1.blocks_lt x hx
      omega
    · rw [main_set hbv1]; simp
  have HR1 : Hid ((v1.setCell ⟨w.heap.size, 1, none⟩ (.slice (some ⟨g1, 0, none⟩) R.seen.length (R.seen.length + y1.length))).heap[g1]? = some (.cells (row R.last y1) 44 (0, 0)) ∧ Kept [w.heap.size] (v0.setCell ⟨w.heap.size, 0, none⟩ (.slice (some ⟨g0, 0, none⟩) R.seen.length (R.seen.length + y0.length))) (v1.setCell ⟨w.heap.size, 1, none⟩ (.slice (some ⟨g1, 0, none⟩) R.seen.length (R.seen.length + y1.length))) ∧ w.heap.size < g1) := ⟨by rw [heap_set_other (by simp; omega)]; exact hr1, (hK1.mono (by simp)).setCell (by simp) _, hgb1⟩
  clear hmv1 hbv1 hgb1 hr1
  have hl2 := lt_of_heap (HM2.out.1.way)
  have hk2 : ((v1.setCell ⟨w.heap.size, 1, none⟩ (.slice (some ⟨g1, 0, none⟩) R.seen.length (R.seen.length + y1.length))).alloc (.cells #[] 44)).heap[p.bw]? = some (.cells (row R.way p.zw) 44 (0, 0)) := by rw [Below.heap_alloc _ _ _ hl2]; exact HM2.out.1.way
  have hnews2 := row_news hk2
  have hone2 := row_oneCell R.way
  have hlen2 : (R.way.map (Value.int .u64)).length = R.seen.length * 1 := by simp [HM2.out.1.ok.wlen]
  obtain ⟨i2, hi2, hz02, hz12, hz22⟩ := info_parts info44
  have hB2 : (v1.setCell ⟨w.heap.size, 1, none⟩ (.slice (some ⟨g1, 0, none⟩) R.seen.length (R.seen.length + y1.length))).heap.size = v1.heap.size := by simp
  have hown2 : ((v1.setCell ⟨w.heap.size, 1, none⟩ (.slice (some ⟨g1, 0, none⟩) R.seen.length (R.seen.length + y1.length))).alloc (.cells #[] 44)).ownsRow (v1.heap.size) 44 1 (.slice (some ⟨v1.heap.size, 0, none⟩) 0 0) 0 [] := by
    have := World.ownsRow_made (base := (v1.setCell ⟨w.heap.size, 1, none⟩ (.slice (some ⟨g1, 0, none⟩) R.seen.length (R.seen.length + y1.length))).heap.size) (e := 44) (size := 1) (v1.setCell ⟨w.heap.size, 1, none⟩ (.slice (some ⟨g1, 0, none⟩) R.seen.length (R.seen.length + y1.length))) #[] 0 (Nat.le_refl _) (by unfold maxLen; omega) (by simp)
    rw [hB2] at this
    exact this
  have HB2 : Hid (_ = _) := hB2
  clear hk2 hB2
  go_wp2_with (first
    | (at_builtin; refine wpList_append_lies _ rfl _ _ 38 rfl (v1.heap.size) 44 i2 (.int .u64 0) 1 8 Try.underlying38 hi2 hz02 hz12 hz22 rfl (by omega) _ 0 [] rfl hown2 ⟨p.bw, 0, none⟩ R.seen.length (R.seen.length + p.zw.length) (R.way.map (Value.int .u64)) rfl hlen2 hnews2 hone2 ?hpos2 ?h632 ?hby2 (by simp) (v1.heap.size + 1) (by simp) ?_))
  case hpos2 => omega
  case h632 => unfold maxLen; omega
  case hby2 => omega
  intro g2 cap2 v2 hown hgrow hat hltg
  obtain ⟨hg2, hK2, y2, hcap2, hr2⟩ := appended_row2 (w := v1.setCell ⟨w.heap.size, 1, none⟩ (.slice (some ⟨g1, 0, none⟩) R.seen.length (R.seen.length + y1.length))) HB2.out (Nat.le_succ _) hown hgrow hat
  subst hcap2
  clear hown hgrow hat hltg hown2 hnews2 hone2 hlen2 hz02 hz12 hz22 hi2 hl2
  clear b1 fb c0 c1 c2 c3 c6
  have hmv2 := HM2.out.1.kept0 hK2
  have hbv2 : v2.heap[w.heap.size]? = some (.cells #[.slice (some ⟨g0, 0, none⟩) R.seen.length (R.seen.length + y0.length), .slice (some ⟨g1, 0, none⟩) R.seen.length (R.seen.length + y1.length), .slice (some ⟨p.bw, 0, none⟩) R.seen.length (R.seen.length + p.zw.length), .slice (some ⟨p.bg, 0, none⟩) (R.seen.length / 8) (R.seen.length / 8 + p.zg.length), .bool R.fuse, .int .i64 R.left, .slice none 0 0, .int .i64 R.steps, .int .i64 R.many] 41 (0, 0)) := by rw [hK2.block _ (lt_of_heap HM2.out.2) (by simp)]; exact HM2.out.2
  have hgb2 : w.heap.size < g2 := by have := lt_of_heap HM2.out.2; have := HB2.out; omega
  have b2 : v2.cell? ⟨w.heap.size, 2, none⟩ = some (.slice (some ⟨p.bw, 0, none⟩) R.seen.length (R.seen.length + p.zw.length)) := by simp [World.cell?, hbv2]
  have fb : v2.frozen? ⟨w.heap.size, 2, none⟩ = false := by simp [World.frozen?, hbv2]
  have c0 : v2.cell? ⟨p.b, 0, none⟩ = some (.slice (some ⟨p.bs, 0, none⟩) R.seen.length (R.seen.length + p.zs.length)) := by simpa [Rp.cells, HT.out] using hmv2.cell 0
  have c1 : v2.cell? ⟨p.b, 1, none⟩ = some (.slice (some ⟨p.bl, 0, none⟩) R.seen.length (R.seen.length + p.zl.length)) := by simpa [Rp.cells, HT.out] using hmv2.cell 1
  have c2 : v2.cell? ⟨p.b, 2, none⟩ = some (.slice (some ⟨p.bw, 0, none⟩) R.seen.length (R.seen.length + p.zw.length)) := by simpa [Rp.cells, HT.out] using hmv2.cell 2
  have c3 : v2.cell? ⟨p.b, 3, none⟩ = some (.slice (some ⟨p.bg, 0, none⟩) (R.seen.length / 8) (R.seen.length / 8 + p.zg.length)) := by simpa [Rp.cells, HT.out] using hmv2.cell 3
  have c6 : v2.cell? ⟨p.b, 6, none⟩ = some (.slice none 0 0) := by rw [← HT.out]; simpa [Rp.cells] using hmv2.cell 6
  have hne2 : p.b ≠ w.heap.size := by omega
  have hlt2 : p.b < v2.heap.size := lt_of_heap hmv2.main
  have HM3 : Hid (RefIs (v2.setCell ⟨w.heap.size, 2, none⟩ (.slice (some ⟨g2, 0, none⟩) R.seen.length (R.seen.length + y2.length))) p R ∧ (v2.setCell ⟨w.heap.size, 2, none⟩ (.slice (some ⟨g2, 0, none⟩) R.seen.length (R.seen.length + y2.length))).heap[w.heap.size]? = some (.cells #[.slice (some ⟨g0, 0, none⟩) R.seen.length (R.seen.length + y0.length), .slice (some ⟨g1, 0, none⟩) R.seen.length (R.seen.length + y1.length), .slice (some ⟨g2, 0, none⟩) R.seen.length (R.seen.length + y2.length), .slice (some ⟨p.bg, 0, none⟩) (R.seen.length / 8) (R.seen.length / 8 + p.zg.length), .bool R.fuse, .int .i64 R.left, .slice none 0 0, .int .i64 R.steps, .int .i64 R.many] 41 (0, 0))) := by
    refine ⟨hmv2.kept ((Kept.refl [w.heap.size] _).setCell (by simp) _) (fun x hx hm => ?_), ?_⟩
    · simp only [List.mem_singleton] at hm
      have := HH.out.1.blocks_lt x hx
      omega
    · rw [main_set hbv2]; simp
  have HR2 : Hid ((v2.setCell ⟨w.heap.size, 2, none⟩ (.slice (some ⟨g2, 0, none⟩) R.seen.length (R.seen.length + y2.length))).heap[g2]? = some (.cells (row R.way y2) 44 (0, 0)) ∧ Kept [w.heap.size] (v1.setCell ⟨w.heap.size, 1, none⟩ (.slice (some ⟨g1, 0, none⟩) R.seen.length (R.seen.length + y1.length))) (v2.setCell ⟨w.heap.size, 2, none⟩ (.slice (some ⟨g2, 0, none⟩) R.seen.length (R.seen.length + y2.length))) ∧ w.heap.size < g2) := ⟨by rw [heap_set_other (by simp; omega)]; exact hr2, (hK2.mono (by simp)).setCell (by simp) _, hgb2⟩
  clear hmv2 hbv2 hgb2 hr2
  have hl3 := lt_of_heap (HM3.out.1.going)
  have hk3 : ((v2.setCell ⟨w.heap.size, 2, none⟩ (.slice (some ⟨g2, 0, none⟩) R.seen.length (R.seen.length + y2.length))).alloc (.cells #[] 4)).heap[p.bg]? = some (.cells (brow R.going p.zg) 4 (0, 0)) := by rw [Below.heap_alloc _ _ _ hl3]; exact HM3.out.1.going
  have hnews3 := brow_news hk3
  have hone3 := brow_oneCell R.going
  have hlen3 : (R.going.map Value.bool).length = (R.seen.length / 8) * 1 := by simp [HM3.out.1.ok.glen]
  obtain ⟨i3, hi3, hz03, hz13, hz23⟩ := info_parts info4
  have hB3 : (v2.setCell ⟨w.heap.size, 2, none⟩ (.slice (some ⟨g2, 0, none⟩) R.seen.length (R.seen.length + y2.length))).heap.size = v2.heap.size := by simp
  have hown3 : ((v2.setCell ⟨w.heap.size, 2, none⟩ (.slice (some ⟨g2, 0, none⟩) R.seen.length (R.seen.length + y2.length))).alloc (.cells #[] 4)).ownsRow (v2.heap.size) 4 1 (.slice (some ⟨v2.heap.size, 0, none⟩) 0 0) 0 [] := by
    have := World.ownsRow_made (base := (v2.setCell ⟨w.heap.size, 2, none⟩ (.slice (some ⟨g2, 0, none⟩) R.seen.length (R.seen.length + y2.length))).heap.size) (e := 4) (size := 1) (v2.setCell ⟨w.heap.size, 2, none⟩ (.slice (some ⟨g2, 0, none⟩) R.seen.length (R.seen.length + y2.length))) #[] 0 (Nat.le_refl _) (by unfold maxLen; omega) (by simp)
    rw [hB3] at this
    exact this
  have HB3 : Hid (_ = _) := hB3
  clear hk3 hB3
  go_wp2_with (first
    | (at_builtin; refine wpList_append_lies _ rfl _ _ 39 rfl (v2.heap.size) 4 i3 (.bool false) 1 1 Try.underlying39 hi3 hz03 hz13 hz23 rfl (by omega) _ 0 [] rfl hown3 ⟨p.bg, 0, none⟩ (R.seen.length / 8) ((R.seen.length / 8) + p.zg.length) (R.going.map Value.bool) rfl hlen3 hnews3 hone3 ?hpos3 ?h633 ?hby3 (by simp) (v2.heap.size + 1) (by simp) ?_))
  case hpos3 => omega
  case h633 => unfold maxLen; omega
  case hby3 => omega
  intro g3 cap3 v3 hown hgrow hat hltg
  obtain ⟨hg3, hK3, y3, hcap3, hr3⟩ := appended_brow2 (w := v2.setCell ⟨w.heap.size, 2, none⟩ (.slice (some ⟨g2, 0, none⟩) R.seen.length (R.seen.length + y2.length))) HB3.out (Nat.le_succ _) hown hgrow hat
  subst hcap3
  clear hown hgrow hat hltg hown3 hnews3 hone3 hlen3 hz03 hz13 hz23 hi3 hl3
  clear b2 fb c0 c1 c2 c3 c6
  have hmv3 := HM3.out.1.kept0 hK3
  have hbv3 : v3.heap[w.heap.size]? = some (.cells #[.slice (some ⟨g0, 0, none⟩) R.seen.length (R.seen.length + y0.length), .slice (some ⟨g1, 0, none⟩) R.seen.length (R.seen.length + y1.length), .slice (some ⟨g2, 0, none⟩) R.seen.length (R.seen.length + y2.length), .slice (some ⟨p.bg, 0, none⟩) (R.seen.length / 8) (R.seen.length / 8 + p.zg.length), .bool R.fuse, .int .i64 R.left, .slice none 0 0, .int .i64 R.steps, .int .i64 R.many] 41 (0, 0)) := by rw [hK3.block _ (lt_of_heap HM3.out.2) (by simp)]; exact HM3.out.2
  have hgb3 : w.heap.size < g3 := by have := lt_of_heap HM3.out.2; have := HB3.out; omega
  have b3 : v3.cell? ⟨w.heap.size, 3, none⟩ = some (.slice (some ⟨p.bg, 0, none⟩) (R.seen.length / 8) (R.seen.length / 8 + p.zg.length)) := by simp [World.cell?, hbv3]
  have fb : v3.frozen? ⟨w.heap.size, 3, none⟩ = false := by simp [World.frozen?, hbv3]
  have c0 : v3.cell? ⟨p.b, 0, none⟩ = some (.slice (some ⟨p.bs, 0, none⟩) R.seen.length (R.seen.length + p.zs.length)) := by simpa [Rp.cells, HT.out] using hmv3.cell 0
  have c1 : v3.cell? ⟨p.b, 1, none⟩ = some (.slice (some ⟨p.bl, 0, none⟩) R.seen.length (R.seen.length + p.zl.length)) := by simpa [Rp.cells, HT.out] using hmv3.cell 1
  have c2 : v3.cell? ⟨p.b, 2, none⟩ = some (.slice (some ⟨p.bw, 0, none⟩) R.seen.length (R.seen.length + p.zw.length)) := by simpa [Rp.cells, HT.out] using hmv3.cell 2
  have c3 : v3.cell? ⟨p.b, 3, none⟩ = some (.slice (some ⟨p.bg, 0, none⟩) (R.seen.length / 8) (R.seen.length / 8 + p.zg.length)) := by simpa [Rp.cells, HT.out] using hmv3.cell 3
  have c6 : v3.cell? ⟨p.b, 6, none⟩ = some (.slice none 0 0) := by rw [← HT.out]; simpa [Rp.cells] using hmv3.cell 6
  have hne3 : p.b ≠ w.heap.size := by omega
  have hlt3 : p.b < v3.heap.size := lt_of_heap hmv3.main
  have HM4 : Hid (RefIs (v3.setCell ⟨w.heap.size, 3, none⟩ (.slice (some ⟨g3, 0, none⟩) (R.seen.length / 8) ((R.seen.length / 8) + y3.length))) p R ∧ (v3.setCell ⟨w.heap.size, 3, none⟩ (.slice (some ⟨g3, 0, none⟩) (R.seen.length / 8) ((R.seen.length / 8) + y3.length))).heap[w.heap.size]? = some (.cells #[.slice (some ⟨g0, 0, none⟩) R.seen.length (R.seen.length + y0.length), .slice (some ⟨g1, 0, none⟩) R.seen.length (R.seen.length + y1.length), .slice (some ⟨g2, 0, none⟩) R.seen.length (R.seen.length + y2.length), .slice (some ⟨g3, 0, none⟩) (R.seen.length / 8) ((R.seen.length / 8) + y3.length), .bool R.fuse, .int .i64 R.left, .slice none 0 0, .int .i64 R.steps, .int .i64 R.many] 41 (0, 0))) := by
    refine ⟨hmv3.kept ((Kept.refl [w.heap.size] _).setCell (by simp) _) (fun x hx hm => ?_), ?_⟩
    · simp only [List.mem_singleton] at hm
      have := HH.out.1.blocks_lt x hx
      omega
    · rw [main_set hbv3]; simp
  have HR3 : Hid ((v3.setCell ⟨w.heap.size, 3, none⟩ (.slice (some ⟨g3, 0, none⟩) (R.seen.length / 8) ((R.seen.length / 8) + y3.length))).heap[g3]? = some (.cells (brow R.going y3) 4 (0, 0)) ∧ Kept [w.heap.size] (v2.setCell ⟨w.heap.size, 2, none⟩ (.slice (some ⟨g2, 0, none⟩) R.seen.length (R.seen.length + y2.length))) (v3.setCell ⟨w.heap.size, 3, none⟩ (.slice (some ⟨g3, 0, none⟩) (R.seen.length / 8) ((R.seen.length / 8) + y3.length))) ∧ w.heap.size < g3) := ⟨by rw [heap_set_other (by simp; omega)]; exact hr3, (hK3.mono (by simp)).setCell (by simp) _, hgb3⟩
  clear hmv3 hbv3 hgb3 hr3
  have hm : ∀ x ∈ [w.heap.size], x ∈ ([] : List Nat) ∨ w.heap.size ≤ x := by simp
  have K4 := (((((Kept.refl [] w).alloc _).trans HR0.out.2.1 hm).trans HR1.out.2.1 hm).trans HR2.out.2.1 hm).trans HR3.out.2.1 hm
  have HK : Hid (Kept [] w _) := K4
  clear hm K4
  go_wp2
  go_ret
  have o0 : g0 < v0.heap.size := HB1.out ▸ lt_of_heap HR0.out.1
  have o1 : g1 < v1.heap.size := HB2.out ▸ lt_of_heap HR1.out.1
  have o2 : g2 < v2.heap.size := HB3.out ▸ lt_of_heap HR2.out.1
  have r0 := (kept_at HR3.out.2.1 (kept_at HR2.out.2.1 (kept_at HR1.out.2.1 HR0.out.1 (by simp; have := HR0.out.2.2; omega)) (by simp; have := HR0.out.2.2; omega)) (by simp; have := HR0.out.2.2; omega))
  have r1 := (kept_at HR3.out.2.1 (kept_at HR2.out.2.1 HR1.out.1 (by simp; have := HR1.out.2.2; omega)) (by simp; have := HR1.out.2.2; omega))
  have r2 := (kept_at HR3.out.2.1 HR2.out.1 (by simp; have := HR2.out.2.2; omega))
  have r3 := HR3.out.1
  refine ⟨⟨w.heap.size, g0, g1, g2, g3, y0, y1, y2, y3, .slice none 0 0⟩, rfl, HK.out, rcopy_fin HH.out.1.ok HM4.out.2 r0 r1 r2 r3 (by rw [HH.out.2]; rfl) (by simp [sb]) ⟨HR0.out.2.2, by omega, by omega, by omega, by simp [sb]⟩ (Nat.le_refl _)⟩

set_option maxRecDepth 100000 in
set_option maxHeartbeats 8000000 in
theorem rcopy_some {w : World} {p : Rp} {R : Rf} (h : RefIs w p R) (xs : List Int) (hT : R.thn = some xs) :
    Calls Try.prog 14 #[.pointer (some ⟨p.b, 0, none⟩)] w fun e w' => ∃ q, e = .returned (.pointer (some ⟨q.b, 0, none⟩)) ∧ Kept [] w w' ∧ (∀ k ∈ q.blocks, w.heap.size ≤ k) ∧ RefIs w' q R := by
  have hlo := h.ok.lo
  have hhi := h.ok.hi
  have hlt := lt_of_heap h.main
  have ht := h.thn
  rw [hT] at ht
  obtain ⟨f, zf, htv, hrow0, hxl⟩ := ht
  rw [hxl] at htv
  have a0 : w.cell? ⟨p.b, 0, none⟩ = some (.slice (some ⟨p.bs, 0, none⟩) R.seen.length (R.seen.length + p.zs.length)) := by simpa [Rp.cells] using h.cell 0
  have a1 : w.cell? ⟨p.b, 1, none⟩ = some (.slice (some ⟨p.bl, 0, none⟩) R.seen.length (R.seen.length + p.zl.length)) := by simpa [Rp.cells] using h.cell 1
  have a2 : w.cell? ⟨p.b, 2, none⟩ = some (.slice (some ⟨p.bw, 0, none⟩) R.seen.length (R.seen.length + p.zw.length)) := by simpa [Rp.cells] using h.cell 2
  have a3 : w.cell? ⟨p.b, 3, none⟩ = some (.slice (some ⟨p.bg, 0, none⟩) (R.seen.length / 8) (R.seen.length / 8 + p.zg.length)) := by simpa [Rp.cells] using h.cell 3
  have a4 : w.cell? ⟨p.b, 4, none⟩ = some (.bool R.fuse) := by simpa [Rp.cells] using h.cell 4
  have a5 : w.cell? ⟨p.b, 5, none⟩ = some (.int .i64 R.left) := by simpa [Rp.cells] using h.cell 5
  have a6 : w.cell? ⟨p.b, 6, none⟩ = some (.slice (some ⟨f, 0, none⟩) R.seen.length (R.seen.length + zf.length)) := by rw [← htv]; simpa [Rp.cells] using h.cell 6
  have a7 : w.cell? ⟨p.b, 7, none⟩ = some (.int .i64 R.steps) := by simpa [Rp.cells] using h.cell 7
  have a8 : w.cell? ⟨p.b, 8, none⟩ = some (.int .i64 R.many) := by simpa [Rp.cells] using h.cell 8
  have hb38 := build0
  have hb39 := build39
  have hne := fun (w : World) => run_neq_slice_nil_any (P := Try.prog) w
  have HH : Hid (_ ∧ _) := ⟨h, hT⟩
  have HT : Hid (_ = _) := htv
  have HM0 : Hid (RefIs (w.alloc (.cells #[.slice (some ⟨p.bs, 0, none⟩) R.seen.length (R.seen.length + p.zs.length), .slice (some ⟨p.bl, 0, none⟩) R.seen.length (R.seen.length + p.zl.length), .slice (some ⟨p.bw, 0, none⟩) R.seen.length (R.seen.length + p.zw.length), .slice (some ⟨p.bg, 0, none⟩) (R.seen.length / 8) (R.seen.length / 8 + p.zg.length), .bool R.fuse, .int .i64 R.left, .slice (some ⟨f, 0, none⟩) R.seen.length (R.seen.length + zf.length), .int .i64 R.steps, .int .i64 R.many] 41)) p R ∧ (w.alloc (.cells #[.slice (some ⟨p.bs, 0, none⟩) R.seen.length (R.seen.length + p.zs.length), .slice (some ⟨p.bl, 0, none⟩) R.seen.length (R.seen.length + p.zl.length), .slice (some ⟨p.bw, 0, none⟩) R.seen.length (R.seen.length + p.zw.length), .slice (some ⟨p.bg, 0, none⟩) (R.seen.length / 8) (R.seen.length / 8 + p.zg.length), .bool R.fuse, .int .i64 R.left, .slice (some ⟨f, 0, none⟩) R.seen.length (R.seen.length + zf.length), .int .i64 R.steps, .int .i64 R.many] 41)).heap[w.heap.size]? = some (.cells #[.slice (some ⟨p.bs, 0, none⟩) R.seen.length (R.seen.length + p.zs.length), .slice (some ⟨p.bl, 0, none⟩) R.seen.length (R.seen.length + p.zl.length), .slice (some ⟨p.bw, 0, none⟩) R.seen.length (R.seen.length + p.zw.length), .slice (some ⟨p.bg, 0, none⟩) (R.seen.length / 8) (R.seen.length / 8 + p.zg.length), .bool R.fuse, .int .i64 R.left, .slice (some ⟨f, 0, none⟩) R.seen.length (R.seen.length + zf.length), .int .i64 R.steps, .int .i64 R.many] 41 (0, 0))) := ⟨h.kept0 ((Kept.refl _ _).alloc _), Go.heap_alloc_new _ _⟩
  clear h hT htv 
  go_enter Try.func14, Try.ntmps14
  have hl0 := lt_of_heap (HM0.out.1.seen)
  have hk0 : ((w.alloc (.cells #[.slice (some ⟨p.bs, 0, none⟩) R.seen.length (R.seen.length + p.zs.length), .slice (some ⟨p.bl, 0, none⟩) R.seen.length (R.seen.length + p.zl.length), .slice (some ⟨p.bw, 0, none⟩) R.seen.length (R.seen.length + p.zw.length), .slice (some ⟨p.bg, 0, none⟩) (R.seen.length / 8) (R.seen.length / 8 + p.zg.length), .bool R.fuse, .int .i64 R.left, .slice (some ⟨f, 0, none⟩) R.seen.length (R.seen.length + zf.length), .int .i64 R.steps, .int .i64 R.many] 41)).alloc (.cells #[] 44)).heap[p.bs]? = some (.cells (row R.seen p.zs) 44 (0, 0)) := by rw [Below.heap_alloc _ _ _ hl0]; exact HM0.out.1.seen
  have hnews0 := row_news hk0
  have hone0 := row_oneCell R.seen
  have hlen0 : (R.seen.map (Value.int .u64)).length = R.seen.length * 1 := by simp
  obtain ⟨i0, hi0, hz00, hz10, hz20⟩ := info_parts info44
  have hB0 : (w.alloc (.cells #[.slice (some ⟨p.bs, 0, none⟩) R.seen.length (R.seen.length + p.zs.length), .slice (some ⟨p.bl, 0, none⟩) R.seen.length (R.seen.length + p.zl.length), .slice (some ⟨p.bw, 0, none⟩) R.seen.length (R.seen.length + p.zw.length), .slice (some ⟨p.bg, 0, none⟩) (R.seen.length / 8) (R.seen.length / 8 + p.zg.length), .bool R.fuse, .int .i64 R.left, .slice (some ⟨f, 0, none⟩) R.seen.length (R.seen.length + zf.length), .int .i64 R.steps, .int .i64 R.many] 41)).heap.size = w.heap.size + 1 := by simp
  have hown0 : ((w.alloc (.cells #[.slice (some ⟨p.bs, 0, none⟩) R.seen.length (R.seen.length + p.zs.length), .slice (some ⟨p.bl, 0, none⟩) R.seen.length (R.seen.length + p.zl.length), .slice (some ⟨p.bw, 0, none⟩) R.seen.length (R.seen.length + p.zw.length), .slice (some ⟨p.bg, 0, none⟩) (R.seen.length / 8) (R.seen.length / 8 + p.zg.length), .bool R.fuse, .int .i64 R.left, .slice (some ⟨f, 0, none⟩) R.seen.length (R.seen.length + zf.length), .int .i64 R.steps, .int .i64 R.many] 41)).alloc (.cells #[] 44)).ownsRow (w.heap.size + 1) 44 1 (.slice (some ⟨w.heap.size + 1, 0, none⟩) 0 0) 0 [] := by
    have := World.ownsRow_made (base := (w.alloc (.cells #[.slice (some ⟨p.bs, 0, none⟩) R.seen.length (R.seen.length + p.zs.length), .slice (some ⟨p.bl, 0, none⟩) R.seen.length (R.seen.length + p.zl.length), .slice (some ⟨p.bw, 0, none⟩) R.seen.length (R.seen.length + p.zw.length), .slice (some ⟨p.bg, 0, none⟩) (R.seen.length / 8) (R.seen.length / 8 + p.zg.length), .bool R.fuse, .int .i64 R.left, .slice (some ⟨f, 0, none⟩) R.seen.length (R.seen.length + zf.length), .int .i64 R.steps, .int .i64 R.many] 41)).heap.size) (e := 44) (size := 1) (w.alloc (.cells #[.slice (some ⟨p.bs, 0, none⟩) R.seen.length (R.seen.length + p.zs.length), .slice (some ⟨p.bl, 0, none⟩) R.seen.length (R.seen.length + p.zl.length), .slice (some ⟨p.bw, 0, none⟩) R.seen.length (R.seen.length + p.zw.length), .slice (some ⟨p.bg, 0, none⟩) (R.seen.length / 8) (R.seen.length / 8 + p.zg.length), .bool R.fuse, .int .i64 R.left, .slice (some ⟨f, 0, none⟩) R.seen.length (R.seen.length + zf.length), .int .i64 R.steps, .int .i64 R.many] 41)) #[] 0 (Nat.le_refl _) (by unfold maxLen; omega) (by simp)
    rw [hB0] at this
    exact this
  have HB0 : Hid (_ = _) := hB0
  clear hk0 hB0
  go_wp2_with (first
    | (at_builtin; refine wpList_append_lies _ rfl _ _ 38 rfl (w.heap.size + 1) 44 i0 (.int .u64 0) 1 8 Try.underlying38 hi0 hz00 hz10 hz20 rfl (by omega) _ 0 [] rfl hown0 ⟨p.bs, 0, none⟩ R.seen.length (R.seen.length + p.zs.length) (R.seen.map (Value.int .u64)) rfl hlen0 hnews0 hone0 ?hpos0 ?h630 ?hby0 (by simp) (w.heap.size + 1 + 1) (by simp) ?_))
  case hpos0 => omega
  case h630 => unfold maxLen; omega
  case hby0 => omega
  intro g0 cap0 v0 hown hgrow hat hltg
  obtain ⟨hg0, hK0, y0, hcap0, hr0⟩ := appended_row2 (w := w.alloc (.cells #[.slice (some ⟨p.bs, 0, none⟩) R.seen.length (R.seen.length + p.zs.length), .slice (some ⟨p.bl, 0, none⟩) R.seen.length (R.seen.length + p.zl.length), .slice (some ⟨p.bw, 0, none⟩) R.seen.length (R.seen.length + p.zw.length), .slice (some ⟨p.bg, 0, none⟩) (R.seen.length / 8) (R.seen.length / 8 + p.zg.length), .bool R.fuse, .int .i64 R.left, .slice (some ⟨f, 0, none⟩) R.seen.length (R.seen.length + zf.length), .int .i64 R.steps, .int .i64 R.many] 41)) HB0.out (Nat.le_succ _) hown hgrow hat
  subst hcap0
  clear hown hgrow hat hltg hown0 hnews0 hone0 hlen0 hz00 hz10 hz20 hi0 hl0
  clear a0 a1 a2 a3 a4 a5 a6 a7 a8
  have hmv0 := HM0.out.1.kept0 hK0
  have hbv0 : v0.heap[w.heap.size]? = some (.cells #[.slice (some ⟨p.bs, 0, none⟩) R.seen.length (R.seen.length + p.zs.length), .slice (some ⟨p.bl, 0, none⟩) R.seen.length (R.seen.length + p.zl.length), .slice (some ⟨p.bw, 0, none⟩) R.seen.length (R.seen.length + p.zw.length), .slice (some ⟨p.bg, 0, none⟩) (R.seen.length / 8) (R.seen.length / 8 + p.zg.length), .bool R.fuse, .int .i64 R.left, .slice (some ⟨f, 0, none⟩) R.seen.length (R.seen.length + zf.length), .int .i64 R.steps, .int .i64 R.many] 41 (0, 0)) := by rw [hK0.block _ (lt_of_heap HM0.out.2) (by simp)]; exact HM0.out.2
  have hgb0 : w.heap.size < g0 := by have := lt_of_heap HM0.out.2; have := HB0.out; omega
  have b0 : v0.cell? ⟨w.heap.size, 0, none⟩ = some (.slice (some ⟨p.bs, 0, none⟩) R.seen.length (R.seen.length + p.zs.length)) := by simp [World.cell?, hbv0]
  have fb : v0.frozen? ⟨w.heap.size, 0, none⟩ = false := by simp [World.frozen?, hbv0]
  have c0 : v0.cell? ⟨p.b, 0, none⟩ = some (.slice (some ⟨p.bs, 0, none⟩) R.seen.length (R.seen.length + p.zs.length)) := by simpa [Rp.cells, HT.out] using hmv0.cell 0
  have c1 : v0.cell? ⟨p.b, 1, none⟩ = some (.slice (some ⟨p.bl, 0, none⟩) R.seen.length (R.seen.length + p.zl.length)) := by simpa [Rp.cells, HT.out] using hmv0.cell 1
  have c2 : v0.cell? ⟨p.b, 2, none⟩ = some (.slice (some ⟨p.bw, 0, none⟩) R.seen.length (R.seen.length + p.zw.length)) := by simpa [Rp.cells, HT.out] using hmv0.cell 2
  have c3 : v0.cell? ⟨p.b, 3, none⟩ = some (.slice (some ⟨p.bg, 0, none⟩) (R.seen.length / 8) (R.seen.length / 8 + p.zg.length)) := by simpa [Rp.cells, HT.out] using hmv0.cell 3
  have c6 : v0.cell? ⟨p.b, 6, none⟩ = some (.slice (some ⟨f, 0, none⟩) R.seen.length (R.seen.length + zf.length)) := by rw [← HT.out]; simpa [Rp.cells] using hmv0.cell 6
  have hne0 : p.b ≠ w.heap.size := by omega
  have hlt0 : p.b < v0.heap.size := lt_of_heap hmv0.main
  have HM1 : Hid (RefIs (v0.setCell ⟨w.heap.size, 0, none⟩ (.slice (some ⟨g0, 0, none⟩) R.seen.length (R.seen.length + y0.length))) p R ∧ (v0.setCell ⟨w.heap.size, 0, none⟩ (.slice (some ⟨g0, 0, none⟩) R.seen.length (R.seen.length + y0.length))).heap[w.heap.size]? = some (.cells #[.slice (some ⟨g0, 0, none⟩) R.seen.length (R.seen.length + y0.length), .slice (some ⟨p.bl, 0, none⟩) R.seen.length (R.seen.length + p.zl.length), .slice (some ⟨p.bw, 0, none⟩) R.seen.length (R.seen.length + p.zw.length), .slice (some ⟨p.bg, 0, none⟩) (R.seen.length / 8) (R.seen.length / 8 + p.zg.length), .bool R.fuse, .int .i64 R.left, .slice (some ⟨f, 0, none⟩) R.seen.length (R.seen.length + zf.length), .int .i64 R.steps, .int .i64 R.many] 41 (0, 0))) := by
    refine ⟨hmv0.kept ((Kept.refl [w.heap.size] _).setCell (by simp) _) (fun x hx hm => ?_), ?_⟩
    · simp only [List.mem_singleton] at hm
      have := HH.out.1.blocks_lt x hx
      omega
    · rw [main_set hbv0]; simp
  have HR0 : Hid ((v0.setCell ⟨w.heap.size, 0, none⟩ (.slice (some ⟨g0, 0, none⟩) R.seen.length (R.seen.length + y0.length))).heap[g0]? = some (.cells (row R.seen y0) 44 (0, 0)) ∧ Kept [w.heap.size] (w.alloc (.cells #[.slice (some ⟨p.bs, 0, none⟩) R.seen.length (R.seen.length + p.zs.length), .slice (some ⟨p.bl, 0, none⟩) R.seen.length (R.seen.length + p.zl.length), .slice (some ⟨p.bw, 0, none⟩) R.seen.length (R.seen.length + p.zw.length), .slice (some ⟨p.bg, 0, none⟩) (R.seen.length / 8) (R.seen.length / 8 + p.zg.length), .bool R.fuse, .int .i64 R.left, .slice (some ⟨f, 0, none⟩) R.seen.length (R.seen.length + zf.length), .int .i64 R.steps, .int .i64 R.many] 41)) (v0.setCell ⟨w.heap.size, 0, none⟩ (.slice (some ⟨g0, 0, none⟩) R.seen.length (R.seen.length + y0.length))) ∧ w.heap.size < g0) := ⟨by rw [heap_set_other (by simp; omega)]; exact hr0, (hK0.mono (by simp)).setCell (by simp) _, hgb0⟩
  clear hmv0 hbv0 hgb0 hr0
  have hl1 := lt_of_heap (HM1.out.1.last)
  have hk1 : ((v0.setCell ⟨w.heap.size, 0, none⟩ (.slice (some ⟨g0, 0, none⟩) R.seen.length (R.seen.length + y0.length))).alloc (.cells #[] 44)).heap[p.bl]? = some (.cells (row R.last p.zl) 44 (0, 0)) := by rw [Below.heap_alloc _ _ _ hl1]; exact HM1.out.1.last
  have hnews1 := row_news hk1
  have hone1 := row_oneCell R.last
  have hlen1 : (R.last.map (Value.int .u64)).length = R.seen.length * 1 := by simp [HM1.out.1.ok.llen]
  obtain ⟨i1, hi1, hz01, hz11, hz21⟩ := info_parts info44
  have hB1 : (v0.setCell ⟨w.heap.size, 0, none⟩ (.slice (some ⟨g0, 0, none⟩) R.seen.length (R.seen.length + y0.length))).heap.size = v0.heap.size := by simp
  have hown1 : ((v0.setCell ⟨w.heap.size, 0, none⟩ (.slice (some ⟨g0, 0, none⟩) R.seen.length (R.seen.length + y0.length))).alloc (.cells #[] 44)).ownsRow (v0.heap.size) 44 1 (.slice (some ⟨v0.heap.size, 0, none⟩) 0 0) 0 [] := by
    have := World.ownsRow_made (base := (v0.setCell ⟨w.heap.size, 0, none⟩ (.slice (some ⟨g0, 0, none⟩) R.seen.length (R.seen.length + y0.length))).heap.size) (e := 44) (size := 1) (v0.setCell ⟨w.heap.size, 0, none⟩ (.slice (some ⟨g0, 0, none⟩) R.seen.length (R.seen.length + y0.length))) #[] 0 (Nat.le_refl _) (by unfold maxLen; omega) (by simp)
    rw [hB1] at this
    exact this
  have HB1 : Hid (_ = _) := hB1
  clear hk1 hB1
  go_wp2_with (first
    | (at_builtin; refine wpList_append_lies _ rfl _ _ 38 rfl (v0.heap.size) 44 i1 (.int .u64 0) 1 8 Try.underlying38 hi1 hz01 hz11 hz21 rfl (by omega) _ 0 [] rfl hown1 ⟨p.bl, 0, none⟩ R.seen.length (R.seen.length + p.zl.length) (R.last.map (Value.int .u64)) rfl hlen1 hnews1 hone1 ?hpos1 ?h631 ?hby1 (by simp) (v0.heap.size + 1) (by simp) ?_))
  case hpos1 => omega
  case h631 => unfold maxLen; omega
  case hby1 => omega
  intro g1 cap1 v1 hown hgrow hat hltg
  obtain ⟨hg1, hK1, y1, hcap1, hr1⟩ := appended_row2 (w := v0.setCell ⟨w.heap.size, 0, none⟩ (.slice (some ⟨g0, 0, none⟩) R.seen.length (R.seen.length + y0.length))) HB1.out (Nat.le_succ _) hown hgrow hat
  subst hcap1
  clear hown hgrow hat hltg hown1 hnews1 hone1 hlen1 hz01 hz11 hz21 hi1 hl1
  clear b0 fb c0 c1 c2 c3 c6
  have hmv1 := HM1.out.1.kept0 hK1
  have hbv1 : v1.heap[w.heap.size]? = some (.cells #[.slice (some ⟨g0, 0, none⟩) R.seen.length (R.seen.length + y0.length), .slice (some ⟨p.bl, 0, none⟩) R.seen.length (R.seen.length + p.zl.length), .slice (some ⟨p.bw, 0, none⟩) R.seen.length (R.seen.length + p.zw.length), .slice (some ⟨p.bg, 0, none⟩) (R.seen.length / 8) (R.seen.length / 8 + p.zg.length), .bool R.fuse, .int .i64 R.left, .slice (some ⟨f, 0, none⟩) R.seen.length (R.seen.length + zf.length), .int .i64 R.steps, .int .i64 R.many] 41 (0, 0)) := by rw [hK1.block _ (lt_of_heap HM1.out.2) (by simp)]; exact HM1.out.2
  have hgb1 : w.heap.size < g1 := by have := lt_of_heap HM1.out.2; have := HB1.out; omega
  have b1 : v1.cell? ⟨w.heap.size, 1, none⟩ = some (.slice (some ⟨p.bl, 0, none⟩) R.seen.length (R.seen.length + p.zl.length)) := by simp [World.cell?, hbv1]
  have fb : v1.frozen? ⟨w.heap.size, 1, none⟩ = false := by simp [World.frozen?, hbv1]
  have c0 : v1.cell? ⟨p.b, 0, none⟩ = some (.slice (some ⟨p.bs, 0, none⟩) R.seen.length (R.seen.length + p.zs.length)) := by simpa [Rp.cells, HT.out] using hmv1.cell 0
  have c1 : v1.cell? ⟨p.b, 1, none⟩ = some (.slice (some ⟨p.bl, 0, none⟩) R.seen.length (R.seen.length + p.zl.length)) := by simpa [Rp.cells, HT.out] using hmv1.cell 1
  have c2 : v1.cell? ⟨p.b, 2, none⟩ = some (.slice (some ⟨p.bw, 0, none⟩) R.seen.length (R.seen.length + p.zw.length)) := by simpa [Rp.cells, HT.out] using hmv1.cell 2
  have c3 : v1.cell? ⟨p.b, 3, none⟩ = some (.slice (some ⟨p.bg, 0, none⟩) (R.seen.length / 8) (R.seen.length / 8 + p.zg.length)) := by simpa [Rp.cells, HT.out] using hmv1.cell 3
  have c6 : v1.cell? ⟨p.b, 6, none⟩ = some (.slice (some ⟨f, 0, none⟩) R.seen.length (R.seen.length + zf.length)) := by rw [← HT.out]; simpa [Rp.cells] using hmv1.cell 6
  have hne1 : p.b ≠ w.heap.size := by omega
  have hlt1 : p.b < v1.heap.size := lt_of_heap hmv1.main
  have HM2 : Hid (RefIs (v1.setCell ⟨w.heap.size, 1, none⟩ (.slice (some ⟨g1, 0, none⟩) R.seen.length (R.seen.length + y1.length))) p R ∧ (v1.setCell ⟨w.heap.size, 1, none⟩ (.slice (some ⟨g1, 0, none⟩) R.seen.length (R.seen.length + y1.length))).heap[w.heap.size]? = some (.cells #[.slice (some ⟨g0, 0, none⟩) R.seen.length (R.seen.length + y0.length), .slice (some ⟨g1, 0, none⟩) R.seen.length (R.seen.length + y1.length), .slice (some ⟨p.bw, 0, none⟩) R.seen.length (R.seen.length + p.zw.length), .slice (some ⟨p.bg, 0, none⟩) (R.seen.length / 8) (R.seen.length / 8 + p.zg.length), .bool R.fuse, .int .i64 R.left, .slice (some ⟨f, 0, none⟩) R.seen.length (R.seen.length + zf.length), .int .i64 R.steps, .int .i64 R.many] 41 (0, 0))) := by
    refine ⟨hmv1.kept ((Kept.refl [w.heap.size] _).setCell (by simp) _) (fun x hx hm => ?_), ?_⟩
    · simp only [List.mem_singleton] at hm
      have := HH.out.1.blocks_lt x hx
      omega
    · rw [main_set hbv1]; simp
  have HR1 : Hid ((v1.setCell ⟨w.heap.size, 1, none⟩ (.slice (some ⟨g1, 0, none⟩) R.seen.length (R.seen.length + y1.length))).heap[g1]? = some (.cells (row R.last y1) 44 (0, 0)) ∧ Kept [w.heap.size] (v0.setCell ⟨w.heap.size, 0, none⟩ (.slice (some ⟨g0, 0, none⟩) R.seen.length (R.seen.length + y0.length))) (v1.setCell ⟨w.heap.size, 1, none⟩ (.slice (some ⟨g1, 0, none⟩) R.seen.length (R.seen.length + y1.length))) ∧ w.heap.size < g1) := ⟨by rw [heap_set_other (by simp; omega)]; exact hr1, (hK1.mono (by simp)).setCell (by simp) _, hgb1⟩
  clear hmv1 hbv1 hgb1 hr1
  have hl2 := lt_of_heap (HM2.out.1.way)
  have hk2 : ((v1.setCell ⟨w.heap.size, 1, none⟩ (.slice (some ⟨g1, 0, none⟩) R.seen.length (R.seen.length + y1.length))).alloc (.cells #[] 44)).heap[p.bw]? = some (.cells (row R.way p.zw) 44 (0, 0)) := by rw [Below.heap_alloc _ _ _ hl2]; exact HM2.out.1.way
  have hnews2 := row_news hk2
  have hone2 := row_oneCell R.way
  have hlen2 : (R.way.map (Value.int .u64)).length = R.seen.length * 1 := by simp [HM2.out.1.ok.wlen]
  obtain ⟨i2, hi2, hz02, hz12, hz22⟩ := info_parts info44
  have hB2 : (v1.setCell ⟨w.heap.size, 1, none⟩ (.slice (some ⟨g1, 0, none⟩) R.seen.length (R.seen.length + y1.length))).heap.size = v1.heap.size := by simp
  have hown2 : ((v1.setCell ⟨w.heap.size, 1, none⟩ (.slice (some ⟨g1, 0, none⟩) R.seen.length (R.seen.length + y1.length))).alloc (.cells #[] 44)).ownsRow (v1.heap.size) 44 1 (.slice (some ⟨v1.heap.size, 0, none⟩) 0 0) 0 [] := by
    have := World.ownsRow_made (base := (v1.setCell ⟨w.heap.size, 1, none⟩ (.slice (some ⟨g1, 0, none⟩) R.seen.length (R.seen.length + y1.length))).heap.size) (e := 44) (size := 1) (v1.setCell ⟨w.heap.size, 1, none⟩ (.slice (some ⟨g1, 0, none⟩) R.seen.length (R.seen.length + y1.length))) #[] 0 (Nat.le_refl _) (by unfold maxLen; omega) (by simp)
    rw [hB2] at this
    exact this
  have HB2 : Hid (_ = _) := hB2
  clear hk2 hB2
  go_wp2_with (first
    | (at_builtin; refine wpList_append_lies _ rfl _ _ 38 rfl (v1.heap.size) 44 i2 (.int .u64 0) 1 8 Try.underlying38 hi2 hz02 hz12 hz22 rfl (by omega) _ 0 [] rfl hown2 ⟨p.bw, 0, none⟩ R.seen.length (R.seen.length + p.zw.length) (R.way.map (Value.int .u64)) rfl hlen2 hnews2 hone2 ?hpos2 ?h632 ?hby2 (by simp) (v1.heap.size + 1) (by simp) ?_))
  case hpos2 => omega
  case h632 => unfold maxLen; omega
  case hby2 => omega
  intro g2 cap2 v2 hown hgrow hat hltg
  obtain ⟨hg2, hK2, y2, hcap2, hr2⟩ := appended_row2 (w := v1.setCell ⟨w.heap.size, 1, none⟩ (.slice (some ⟨g1, 0, none⟩) R.seen.length (R.seen.length + y1.length))) HB2.out (Nat.le_succ _) hown hgrow hat
  subst hcap2
  clear hown hgrow hat hltg hown2 hnews2 hone2 hlen2 hz02 hz12 hz22 hi2 hl2
  clear b1 fb c0 c1 c2 c3 c6
  have hmv2 := HM2.out.1.kept0 hK2
  have hbv2 : v2.heap[w.heap.size]? = some (.cells #[.slice (some ⟨g0, 0, none⟩) R.seen.length (R.seen.length + y0.length), .slice (some ⟨g1, 0, none⟩) R.seen.length (R.seen.length + y1.length), .slice (some ⟨p.bw, 0, none⟩) R.seen.length (R.seen.length + p.zw.length), .slice (some ⟨p.bg, 0, none⟩) (R.seen.length / 8) (R.seen.length / 8 + p.zg.length), .bool R.fuse, .int .i64 R.left, .slice (some ⟨f, 0, none⟩) R.seen.length (R.seen.length + zf.length), .int .i64 R.steps, .int .i64 R.many] 41 (0, 0)) := by rw [hK2.block _ (lt_of_heap HM2.out.2) (by simp)]; exact HM2.out.2
  have hgb2 : w.heap.size < g2 := by have := lt_of_heap HM2.out.2; have := HB2.out; omega
  have b2 : v2.cell? ⟨w.heap.size, 2, none⟩ = some (.slice (some ⟨p.bw, 0, none⟩) R.seen.length (R.seen.length + p.zw.length)) := by simp [World.cell?, hbv2]
  have fb : v2.frozen? ⟨w.heap.size, 2, none⟩ = false := by simp [World.frozen?, hbv2]
  have c0 : v2.cell? ⟨p.b, 0, none⟩ = some (.slice (some ⟨p.bs, 0, none⟩) R.seen.length (R.seen.length + p.zs.length)) := by simpa [Rp.cells, HT.out] using hmv2.cell 0
  have c1 : v2.cell? ⟨p.b, 1, none⟩ = some (.slice (some ⟨p.bl, 0, none⟩) R.seen.length (R.seen.length + p.zl.length)) := by simpa [Rp.cells, HT.out] using hmv2.cell 1
  have c2 : v2.cell? ⟨p.b, 2, none⟩ = some (.slice (some ⟨p.bw, 0, none⟩) R.seen.length (R.seen.length + p.zw.length)) := by simpa [Rp.cells, HT.out] using hmv2.cell 2
  have c3 : v2.cell? ⟨p.b, 3, none⟩ = some (.slice (some ⟨p.bg, 0, none⟩) (R.seen.length / 8) (R.seen.length / 8 + p.zg.length)) := by simpa [Rp.cells, HT.out] using hmv2.cell 3
  have c6 : v2.cell? ⟨p.b, 6, none⟩ = some (.slice (some ⟨f, 0, none⟩) R.seen.length (R.seen.length + zf.length)) := by rw [← HT.out]; simpa [Rp.cells] using hmv2.cell 6
  have hne2 : p.b ≠ w.heap.size := by omega
  have hlt2 : p.b < v2.heap.size := lt_of_heap hmv2.main
  have HM3 : Hid (RefIs (v2.setCell ⟨w.heap.size, 2, none⟩ (.slice (some ⟨g2, 0, none⟩) R.seen.length (R.seen.length + y2.length))) p R ∧ (v2.setCell ⟨w.heap.size, 2, none⟩ (.slice (some ⟨g2, 0, none⟩) R.seen.length (R.seen.length + y2.length))).heap[w.heap.size]? = some (.cells #[.slice (some ⟨g0, 0, none⟩) R.seen.length (R.seen.length + y0.length), .slice (some ⟨g1, 0, none⟩) R.seen.length (R.seen.length + y1.length), .slice (some ⟨g2, 0, none⟩) R.seen.length (R.seen.length + y2.length), .slice (some ⟨p.bg, 0, none⟩) (R.seen.length / 8) (R.seen.length / 8 + p.zg.length), .bool R.fuse, .int .i64 R.left, .slice (some ⟨f, 0, none⟩) R.seen.length (R.seen.length + zf.length), .int .i64 R.steps, .int .i64 R.many] 41 (0, 0))) := by
    refine ⟨hmv2.kept ((Kept.refl [w.heap.size] _).setCell (by simp) _) (fun x hx hm => ?_), ?_⟩
    · simp only [List.mem_singleton] at hm
      have := HH.out.1.blocks_lt x hx
      omega
    · rw [main_set hbv2]; simp
  have HR2 : Hid ((v2.setCell ⟨w.heap.size, 2, none⟩ (.slice (some ⟨g2, 0, none⟩) R.seen.length (R.seen.length + y2.length))).heap[g2]? = some (.cells (row R.way y2) 44 (0, 0)) ∧ Kept [w.heap.size] (v1.setCell ⟨w.heap.size, 1, none⟩ (.slice (some ⟨g1, 0, none⟩) R.seen.length (R.seen.length + y1.length))) (v2.setCell ⟨w.heap.size, 2, none⟩ (.slice (some ⟨g2, 0, none⟩) R.seen.length (R.seen.length + y2.length))) ∧ w.heap.size < g2) := ⟨by rw [heap_set_other (by simp; omega)]; exact hr2, (hK2.mono (by simp)).setCell (by simp) _, hgb2⟩
  clear hmv2 hbv2 hgb2 hr2
  have hl3 := lt_of_heap (HM3.out.1.going)
  have hk3 : ((v2.setCell ⟨w.heap.size, 2, none⟩ (.slice (some ⟨g2, 0, none⟩) R.seen.length (R.seen.length + y2.length))).alloc (.cells #[] 4)).heap[p.bg]? = some (.cells (brow R.going p.zg) 4 (0, 0)) := by rw [Below.heap_alloc _ _ _ hl3]; exact HM3.out.1.going
  have hnews3 := brow_news hk3
  have hone3 := brow_oneCell R.going
  have hlen3 : (R.going.map Value.bool).length = (R.seen.length / 8) * 1 := by simp [HM3.out.1.ok.glen]
  obtain ⟨i3, hi3, hz03, hz13, hz23⟩ := info_parts info4
  have hB3 : (v2.setCell ⟨w.heap.size, 2, none⟩ (.slice (some ⟨g2, 0, none⟩) R.seen.length (R.seen.length + y2.length))).heap.size = v2.heap.size := by simp
  have hown3 : ((v2.setCell ⟨w.heap.size, 2, none⟩ (.slice (some ⟨g2, 0, none⟩) R.seen.length (R.seen.length + y2.length))).alloc (.cells #[] 4)).ownsRow (v2.heap.size) 4 1 (.slice (some ⟨v2.heap.size, 0, none⟩) 0 0) 0 [] := by
    have := World.ownsRow_made (base := (v2.setCell ⟨w.heap.size, 2, none⟩ (.slice (some ⟨g2, 0, none⟩) R.seen.length (R.seen.length + y2.length))).heap.size) (e := 4) (size := 1) (v2.setCell ⟨w.heap.size, 2, none⟩ (.slice (some ⟨g2, 0, none⟩) R.seen.length (R.seen.length + y2.length))) #[] 0 (Nat.le_refl _) (by unfold maxLen; omega) (by simp)
    rw [hB3] at this
    exact this
  have HB3 : Hid (_ = _) := hB3
  clear hk3 hB3
  go_wp2_with (first
    | (at_builtin; refine wpList_append_lies _ rfl _ _ 39 rfl (v2.heap.size) 4 i3 (.bool false) 1 1 Try.underlying39 hi3 hz03 hz13 hz23 rfl (by omega) _ 0 [] rfl hown3 ⟨p.bg, 0, none⟩ (R.seen.length / 8) ((R.seen.length / 8) + p.zg.length) (R.going.map Value.bool) rfl hlen3 hnews3 hone3 ?hpos3 ?h633 ?hby3 (by simp) (v2.heap.size + 1) (by simp) ?_))
  case hpos3 => omega
  case h633 => unfold maxLen; omega
  case hby3 => omega
  intro g3 cap3 v3 hown hgrow hat hltg
  obtain ⟨hg3, hK3, y3, hcap3, hr3⟩ := appended_brow2 (w := v2.setCell ⟨w.heap.size, 2, none⟩ (.slice (some ⟨g2, 0, none⟩) R.seen.length (R.seen.length + y2.length))) HB3.out (Nat.le_succ _) hown hgrow hat
  subst hcap3
  clear hown hgrow hat hltg hown3 hnews3 hone3 hlen3 hz03 hz13 hz23 hi3 hl3
  clear b2 fb c0 c1 c2 c3 c6
  have hmv3 := HM3.out.1.kept0 hK3
  have hbv3 : v3.heap[w.heap.size]? = some (.cells #[.slice (some ⟨g0, 0, none⟩) R.seen.length (R.seen.length + y0.length), .slice (some ⟨g1, 0, none⟩) R.seen.length (R.seen.length + y1.length), .slice (some ⟨g2, 0, none⟩) R.seen.length (R.seen.length + y2.length), .slice (some ⟨p.bg, 0, none⟩) (R.seen.length / 8) (R.seen.length / 8 + p.zg.length), .bool R.fuse, .int .i64 R.left, .slice (some ⟨f, 0, none⟩) R.seen.length (R.seen.length + zf.length), .int .i64 R.steps, .int .i64 R.many] 41 (0, 0)) := by rw [hK3.block _ (lt_of_heap HM3.out.2) (by simp)]; exact HM3.out.2
  have hgb3 : w.heap.size < g3 := by have := lt_of_heap HM3.out.2; have := HB3.out; omega
  have b3 : v3.cell? ⟨w.heap.size, 3, none⟩ = some (.slice (some ⟨p.bg, 0, none⟩) (R.seen.length / 8) (R.seen.length / 8 + p.zg.length)) := by simp [World.cell?, hbv3]
  have fb : v3.frozen? ⟨w.heap.size, 3, none⟩ = false := by simp [World.frozen?, hbv3]
  have c0 : v3.cell? ⟨p.b, 0, none⟩ = some (.slice (some ⟨p.bs, 0, none⟩) R.seen.length (R.seen.length + p.zs.length)) := by simpa [Rp.cells, HT.out] using hmv3.cell 0
  have c1 : v3.cell? ⟨p.b, 1, none⟩ = some (.slice (some ⟨p.bl, 0, none⟩) R.seen.length (R.seen.length + p.zl.length)) := by simpa [Rp.cells, HT.out] using hmv3.cell 1
  have c2 : v3.cell? ⟨p.b, 2, none⟩ = some (.slice (some ⟨p.bw, 0, none⟩) R.seen.length (R.seen.length + p.zw.length)) := by simpa [Rp.cells, HT.out] using hmv3.cell 2
  have c3 : v3.cell? ⟨p.b, 3, none⟩ = some (.slice (some ⟨p.bg, 0, none⟩) (R.seen.length / 8) (R.seen.length / 8 + p.zg.length)) := by simpa [Rp.cells, HT.out] using hmv3.cell 3
  have c6 : v3.cell? ⟨p.b, 6, none⟩ = some (.slice (some ⟨f, 0, none⟩) R.seen.length (R.seen.length + zf.length)) := by rw [← HT.out]; simpa [Rp.cells] using hmv3.cell 6
  have hne3 : p.b ≠ w.heap.size := by omega
  have hlt3 : p.b < v3.heap.size := lt_of_heap hmv3.main
  have HM4 : Hid (RefIs (v3.setCell ⟨w.heap.size, 3, none⟩ (.slice (some ⟨g3, 0, none⟩) (R.seen.length / 8) ((R.seen.length / 8) + y3.length))) p R ∧ (v3.setCell ⟨w.heap.size, 3, none⟩ (.slice (some ⟨g3, 0, none⟩) (R.seen.length / 8) ((R.seen.length / 8) + y3.length))).heap[w.heap.size]? = some (.cells #[.slice (some ⟨g0, 0, none⟩) R.seen.length (R.seen.length + y0.length), .slice (some ⟨g1, 0, none⟩) R.seen.length (R.seen.length + y1.length), .slice (some ⟨g2, 0, none⟩) R.seen.length (R.seen.length + y2.length), .slice (some ⟨g3, 0, none⟩) (R.seen.length / 8) ((R.seen.length / 8) + y3.length), .bool R.fuse, .int .i64 R.left, .slice (some ⟨f, 0, none⟩) R.seen.length (R.seen.length + zf.length), .int .i64 R.steps, .int .i64 R.many] 41 (0, 0))) := by
    refine ⟨hmv3.kept ((Kept.refl [w.heap.size] _).setCell (by simp) _) (fun x hx hm => ?_), ?_⟩
    · simp only [List.mem_singleton] at hm
      have := HH.out.1.blocks_lt x hx
      omega
    · rw [main_set hbv3]; simp
  have HR3 : Hid ((v3.setCell ⟨w.heap.size, 3, none⟩ (.slice (some ⟨g3, 0, none⟩) (R.seen.length / 8) ((R.seen.length / 8) + y3.length))).heap[g3]? = some (.cells (brow R.going y3) 4 (0, 0)) ∧ Kept [w.heap.size] (v2.setCell ⟨w.heap.size, 2, none⟩ (.slice (some ⟨g2, 0, none⟩) R.seen.length (R.seen.length + y2.length))) (v3.setCell ⟨w.heap.size, 3, none⟩ (.slice (some ⟨g3, 0, none⟩) (R.seen.length / 8) ((R.seen.length / 8) + y3.length))) ∧ w.heap.size < g3) := ⟨by rw [heap_set_other (by simp; omega)]; exact hr3, (hK3.mono (by simp)).setCell (by simp) _, hgb3⟩
  clear hmv3 hbv3 hgb3 hr3
  have hm : ∀ x ∈ [w.heap.size], x ∈ ([] : List Nat) ∨ w.heap.size ≤ x := by simp
  have K4 := (((((Kept.refl [] w).alloc _).trans HR0.out.2.1 hm).trans HR1.out.2.1 hm).trans HR2.out.2.1 hm).trans HR3.out.2.1 hm
  have KK : Hid (Kept [] w _) := K4
  have hsrc4 := kept_at K4 hrow0 (by simp)
  clear K4
  have hl4 := lt_of_heap (hsrc4)
  have hk4 : ((v3.setCell ⟨w.heap.size, 3, none⟩ (.slice (some ⟨g3, 0, none⟩) (R.seen.length / 8) ((R.seen.length / 8) + y3.length))).alloc (.cells #[] 44)).heap[f]? = some (.cells (row xs zf) 44 (0, 0)) := by rw [Below.heap_alloc _ _ _ hl4]; exact hsrc4
  have hnews4 := row_news hk4
  have hone4 := row_oneCell xs
  have hlen4 : (xs.map (Value.int .u64)).length = R.seen.length * 1 := by simp [hxl]
  obtain ⟨i4, hi4, hz04, hz14, hz24⟩ := info_parts info44
  have hB4 : (v3.setCell ⟨w.heap.size, 3, none⟩ (.slice (some ⟨g3, 0, none⟩) (R.seen.length / 8) ((R.seen.length / 8) + y3.length))).heap.size = v3.heap.size := by simp
  have hown4 : ((v3.setCell ⟨w.heap.size, 3, none⟩ (.slice (some ⟨g3, 0, none⟩) (R.seen.length / 8) ((R.seen.length / 8) + y3.length))).alloc (.cells #[] 44)).ownsRow (v3.heap.size) 44 1 (.slice (some ⟨v3.heap.size, 0, none⟩) 0 0) 0 [] := by
    have := World.ownsRow_made (base := (v3.setCell ⟨w.heap.size, 3, none⟩ (.slice (some ⟨g3, 0, none⟩) (R.seen.length / 8) ((R.seen.length / 8) + y3.length))).heap.size) (e := 44) (size := 1) (v3.setCell ⟨w.heap.size, 3, none⟩ (.slice (some ⟨g3, 0, none⟩) (R.seen.length / 8) ((R.seen.length / 8) + y3.length))) #[] 0 (Nat.le_refl _) (by unfold maxLen; omega) (by simp)
    rw [hB4] at this
    exact this
  have HB4 : Hid (_ = _) := hB4
  clear hk4 hB4
  go_wp2_with (first
    | (at_builtin; refine wpList_append_lies _ rfl _ _ 38 rfl (v3.heap.size) 44 i4 (.int .u64 0) 1 8 Try.underlying38 hi4 hz04 hz14 hz24 rfl (by omega) _ 0 [] rfl hown4 ⟨f, 0, none⟩ R.seen.length (R.seen.length + zf.length) (xs.map (Value.int .u64)) rfl hlen4 hnews4 hone4 ?hpos4 ?h634 ?hby4 (by simp) (v3.heap.size + 1) (by simp) ?_))
  case hpos4 => omega
  case h634 => unfold maxLen; omega
  case hby4 => omega
  intro g4 cap4 v4 hown hgrow hat hltg
  obtain ⟨hg4, hK4, y4, hcap4, hr4⟩ := appended_row2 (w := v3.setCell ⟨w.heap.size, 3, none⟩ (.slice (some ⟨g3, 0, none⟩) (R.seen.length / 8) ((R.seen.length / 8) + y3.length))) HB4.out (Nat.le_succ _) hown hgrow hat
  subst hcap4
  clear hown hgrow hat hltg hown4 hnews4 hone4 hlen4 hz04 hz14 hz24 hi4 hl4
  clear b3 fb c0 c1 c2 c3 c6
  have hmv4 := HM4.out.1.kept0 hK4
  have hbv4 : v4.heap[w.heap.size]? = some (.cells #[.slice (some ⟨g0, 0, none⟩) R.seen.length (R.seen.length + y0.length), .slice (some ⟨g1, 0, none⟩) R.seen.length (R.seen.length + y1.length), .slice (some ⟨g2, 0, none⟩) R.seen.length (R.seen.length + y2.length), .slice (some ⟨g3, 0, none⟩) (R.seen.length / 8) ((R.seen.length / 8) + y3.length), .bool R.fuse, .int .i64 R.left, .slice (some ⟨f, 0, none⟩) R.seen.length (R.seen.length + zf.length), .int .i64 R.steps, .int .i64 R.many] 41 (0, 0)) := by rw [hK4.block _ (lt_of_heap HM4.out.2) (by simp)]; exact HM4.out.2
  have hgb4 : w.heap.size < g4 := by have := lt_of_heap HM4.out.2; have := HB4.out; omega
  have b6 : v4.cell? ⟨w.heap.size, 6, none⟩ = some (.slice (some ⟨f, 0, none⟩) R.seen.length (R.seen.length + zf.length)) := by simp [World.cell?, hbv4]
  have fb : v4.frozen? ⟨w.heap.size, 6, none⟩ = false := by simp [World.frozen?, hbv4]
  have c0 : v4.cell? ⟨p.b, 0, none⟩ = some (.slice (some ⟨p.bs, 0, none⟩) R.seen.length (R.seen.length + p.zs.length)) := by simpa [Rp.cells, HT.out] using hmv4.cell 0
  have c1 : v4.cell? ⟨p.b, 1, none⟩ = some (.slice (some ⟨p.bl, 0, none⟩) R.seen.length (R.seen.length + p.zl.length)) := by simpa [Rp.cells, HT.out] using hmv4.cell 1
  have c2 : v4.cell? ⟨p.b, 2, none⟩ = some (.slice (some ⟨p.bw, 0, none⟩) R.seen.length (R.seen.length + p.zw.length)) := by simpa [Rp.cells, HT.out] using hmv4.cell 2
  have c3 : v4.cell? ⟨p.b, 3, none⟩ = some (.slice (some ⟨p.bg, 0, none⟩) (R.seen.length / 8) (R.seen.length / 8 + p.zg.length)) := by simpa [Rp.cells, HT.out] using hmv4.cell 3
  have c6 : v4.cell? ⟨p.b, 6, none⟩ = some (.slice (some ⟨f, 0, none⟩) R.seen.length (R.seen.length + zf.length)) := by rw [← HT.out]; simpa [Rp.cells] using hmv4.cell 6
  have hne4 : p.b ≠ w.heap.size := by omega
  have hlt4 : p.b < v4.heap.size := lt_of_heap hmv4.main
  have HM5 : Hid (RefIs (v4.setCell ⟨w.heap.size, 6, none⟩ (.slice (some ⟨g4, 0, none⟩) R.seen.length (R.seen.length + y4.length))) p R ∧ (v4.setCell ⟨w.heap.size, 6, none⟩ (.slice (some ⟨g4, 0, none⟩) R.seen.length (R.seen.length + y4.length))).heap[w.heap.size]? = some (.cells #[.slice (some ⟨g0, 0, none⟩) R.seen.length (R.seen.length + y0.length), .slice (some ⟨g1, 0, none⟩) R.seen.length (R.seen.length + y1.length), .slice (some ⟨g2, 0, none⟩) R.seen.length (R.seen.length + y2.length), .slice (some ⟨g3, 0, none⟩) (R.seen.length / 8) ((R.seen.length / 8) + y3.length), .bool R.fuse, .int .i64 R.left, .slice (some ⟨g4, 0, none⟩) R.seen.length (R.seen.length + y4.length), .int .i64 R.steps, .int .i64 R.many] 41 (0, 0))) := by
    refine ⟨hmv4.kept ((Kept.refl [w.heap.size] _).setCell (by simp) _) (fun x hx hm => ?_), ?_⟩
    · simp only [List.mem_singleton] at hm
      have := HH.out.1.blocks_lt x hx
      omega
    · rw [main_set hbv4]; simp
  have HR4 : Hid ((v4.setCell ⟨w.heap.size, 6, none⟩ (.slice (some ⟨g4, 0, none⟩) R.seen.length (R.seen.length + y4.length))).heap[g4]? = some (.cells (row xs y4) 44 (0, 0)) ∧ Kept [w.heap.size] (v3.setCell ⟨w.heap.size, 3, none⟩ (.slice (some ⟨g3, 0, none⟩) (R.seen.length / 8) ((R.seen.length / 8) + y3.length))) (v4.setCell ⟨w.heap.size, 6, none⟩ (.slice (some ⟨g4, 0, none⟩) R.seen.length (R.seen.length + y4.length))) ∧ w.heap.size < g4) := ⟨by rw [heap_set_other (by simp; omega)]; exact hr4, (hK4.mono (by simp)).setCell (by simp) _, hgb4⟩
  clear hmv4 hbv4 hgb4 hr4
  have K5 := KK.out.trans HR4.out.2.1 hm
  have HK : Hid (Kept [] w _) := K5
  clear hm K5
  go_wp2
  go_ret
  have o0 : g0 < v0.heap.size := HB1.out ▸ lt_of_heap HR0.out.1
  have o1 : g1 < v1.heap.size := HB2.out ▸ lt_of_heap HR1.out.1
  have o2 : g2 < v2.heap.size := HB3.out ▸ lt_of_heap HR2.out.1
  have o3 : g3 < v3.heap.size := HB4.out ▸ lt_of_heap HR3.out.1
  have r0 := (kept_at HR4.out.2.1 (kept_at HR3.out.2.1 (kept_at HR2.out.2.1 (kept_at HR1.out.2.1 HR0.out.1 (by simp; have := HR0.out.2.2; omega)) (by simp; have := HR0.out.2.2; omega)) (by simp; have := HR0.out.2.2; omega)) (by simp; have := HR0.out.2.2; omega))
  have r1 := (kept_at HR4.out.2.1 (kept_at HR3.out.2.1 (kept_at HR2.out.2.1 HR1.out.1 (by simp; have := HR1.out.2.2; omega)) (by simp; have := HR1.out.2.2; omega)) (by simp; have := HR1.out.2.2; omega))
  have r2 := (kept_at HR4.out.2.1 (kept_at HR3.out.2.1 HR2.out.1 (by simp; have := HR2.out.2.2; omega)) (by simp; have := HR2.out.2.2; omega))
  have r3 := (kept_at HR4.out.2.1 HR3.out.1 (by simp; have := HR3.out.2.2; omega))
  have r4 := HR4.out.1
  refine ⟨⟨w.heap.size, g0, g1, g2, g3, y0, y1, y2, y3, .slice (some ⟨g4, 0, none⟩) R.seen.length (R.seen.length + y4.length)⟩, rfl, HK.out, rcopy_fin HH.out.1.ok HM5.out.2 r0 r1 r2 r3 (by rw [HH.out.2]; exact ⟨g4, y4, by rw [hxl], r4, hxl⟩) (by simp [sb]) ⟨HR0.out.2.2, by omega, by omega, by omega, by simp [sb]; omega⟩ (Nat.le_refl _)⟩

theorem rcopy_any {w : World} {p : Rp} {R : Rf} (h : RefIs w p R) :
    Calls Try.prog 14 #[.pointer (some ⟨p.b, 0, none⟩)] w fun e w' => ∃ q, e = .returned (.pointer (some ⟨q.b, 0, none⟩)) ∧ Kept [] w w' ∧ (∀ k ∈ q.blocks, w.heap.size ≤ k) ∧ RefIs w' q R := by
  cases hT : R.thn with
  | none => exact rcopy_none h hT
  | some xs => exact rcopy_some h xs hT

end Go.Proofs.Ytghcommbflfbnaa
