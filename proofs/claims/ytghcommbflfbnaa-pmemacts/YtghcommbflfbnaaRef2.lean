/-
  The reference memory: mark, Store, Flush, Fuse.
-/
import Derived.Test.YtghcommbflfbnaaRef
import Derived.Deep.QuietTactic
import Derived.BigQuiet
namespace Go.Proofs.Ytghcommbflfbnaa
open Go.RowKit

/-- The append of a row to a new empty slice, as the law of the list gives it. -/
theorem appended_row {w w1 : World} {xs : List Int} {n g cap H : Nat} (hH : w.heap.size ≤ H)
    (hown1 : w1.ownsRow w.heap.size 44 1 (.slice (some ⟨g, 0, none⟩) n cap) n (xs.map (Value.int .u64))) (hgrow : (w.alloc (.cells #[] 44)).grownBy w1 (some w.heap.size))
    (hat : (some w.heap.size : Option Nat) = some g ∨ g = H) : w.heap.size ≤ g ∧ Kept [] w w1 ∧ ∃ ys : List Value, cap = n + ys.length ∧ w1.heap[g]? = some (.cells (row xs ys) 44 (0, 0)) := by
  obtain ⟨-, hr⟩ := hown1
  refine ⟨?_, ?_, ?_⟩
  · rcases hat with h2 | h2
    · simp at h2; omega
    · omega
  · refine ⟨hgrow.os, hgrow.tape, hgrow.output, by have := hgrow.size; simp at this; omega, fun k hk _ => ?_⟩
    rw [hgrow.block k (by simp; omega) (by simp; omega), Below.heap_alloc _ _ _ hk]
  · rcases hr with ⟨h2, _⟩ | ⟨g', cap', cur, h2, _, h3, h4, _, h5, h6⟩
    · cases h2
    · simp only [Value.slice.injEq, Option.some.injEq, Addr.mk.injEq, true_and, and_true] at h2
      obtain ⟨rfl, rfl⟩ := h2
      refine ⟨cur.toList.drop n, ?_, ?_⟩
      · simp [h5]; omega
      · rw [h3]
        simp only [Nat.mul_one] at h6
        congr 2
        apply Array.ext'
        rw [toList_row, ← h6, List.take_append_drop]

set_option maxHeartbeats 1000000 in
theorem mark_yes {w : World} {p : Rp} {R : Rf} (h : RefIs w p R) (h1 : R.fuse = true) (h2 : R.left = 0) (h3 : R.thn = none) :
    Calls Try.prog 47 #[.pointer (some ⟨p.b, 0, none⟩)] w fun e w' => e = .returned (.tuple #[]) ∧ ∃ p', RTo w p w' p' ∧ RefIs w' p' { R with thn := some R.seen } := by
  have c0 : w.cell? ⟨p.b, 0, none⟩ = some (.slice (some ⟨p.bs, 0, none⟩) R.seen.length (R.seen.length + p.zs.length)) := by simpa [Rp.cells] using h.cell 0
  have c4 : w.cell? ⟨p.b, 4, none⟩ = some (.bool true) := by rw [← h1]; simpa [Rp.cells] using h.cell 4
  have c5 : w.cell? ⟨p.b, 5, none⟩ = some (.int .i64 0) := by rw [← h2]; simpa [Rp.cells] using h.cell 5
  have ht := h.thn
  rw [h3] at ht
  simp only [ThenIs] at ht
  have c6 : w.cell? ⟨p.b, 6, none⟩ = some (.slice none 0 0) := by rw [← ht]; simpa [Rp.cells] using h.cell 6
  have hlt := lt_of_heap h.main
  have hbs := lt_of_heap h.seen
  have hk : (w.alloc (.cells #[] 44)).heap[p.bs]? = some (.cells (row R.seen p.zs) 44 (0, 0)) := by rw [Below.heap_alloc _ _ _ hbs]; exact h.seen
  have hnews := row_news hk
  have hone := row_oneCell R.seen
  have hb0 := build0
  have hlen : (R.seen.map (Value.int .u64)).length = R.seen.length * 1 := by simp
  obtain ⟨i0, hi, hz0, hz1, hz2⟩ := info_parts info44
  have hne := fun (w : World) => Lib.run_eql_slice_nil (P := Try.prog) w
  have hown : (w.alloc (.cells #[] 44)).ownsRow w.heap.size 44 1 (.slice (some ⟨w.heap.size, 0, none⟩) 0 0) 0 [] := World.ownsRow_made w #[] 0 (Nat.le_refl _) (by unfold maxLen; omega) (by simp)
  have hlo := h.ok.lo
  have hhi := h.ok.hi
  have HM : Hid (_ ∧ _ ∧ _) := ⟨h, h1, h2⟩
  clear h h1 h2 h3 ht hk
  go_enter Try.func47, Try.ntmps47
  go_wp2_with (first
    | (at_builtin; refine wpList_append_lies _ rfl _ _ 38 rfl w.heap.size 44 i0 (.int .u64 0) 1 8 Try.underlying38 hi hz0 hz1 hz2 rfl (by omega) _ 0 [] rfl hown ⟨p.bs, 0, none⟩ R.seen.length (R.seen.length + p.zs.length) (R.seen.map (Value.int .u64)) rfl hlen hnews hone ?hpos ?h63 ?hby (by simp) (w.heap.size + 1) (by simp) ?_))
  case hpos => omega
  case h63 => unfold maxLen; omega
  case hby => omega
  intro g cap w1 hown1 hgrow hat hltg
  obtain ⟨hg, hK, ys, hcap, hrow⟩ := appended_row (Nat.le_succ _) hown1 hgrow hat
  have hm := HM.out.1.kept0 hK
  have d6 : w1.cell? ⟨p.b, 6, none⟩ = some p.tv := by simpa [Rp.cells] using hm.cell 6
  have f6 := hm.frozen 6
  have HY : Hid (_ ∧ _ ∧ _ ∧ _ ∧ _) := ⟨hg, hK, hcap, hrow, hm⟩
  clear hg hK hcap hrow hm hown1 hgrow hat hltg hown hnews hone c0 c4 c5 c6
  go_wp2
  go_end0
  obtain ⟨hg, hK, hcap, hrow, hm⟩ := HY.out
  have hT : ThenIs w1 (.slice (some ⟨g, 0, none⟩) R.seen.length cap) R.seen.length (some R.seen) := ⟨g, ys, by rw [hcap], hrow, rfl⟩
  refine ⟨rfl, _, ⟨?_, ?_, ?_⟩, hm.setThen _ _ hT (by
    have := rnodup_new (n := R.seen.length) (c := cap) HM.out.1 hg
    exact this)⟩
  · rfl
  · exact (hK.mono (by simp)).setCell (by simp [Rp.blocks]) _
  · intro k hk
    rw [mem_rblocks] at hk ⊢
    simp only [sb, List.mem_singleton] at hk
    omega

set_option maxHeartbeats 1000000 in
theorem mark_no {w : World} {p : Rp} {R : Rf} (h : RefIs w p R) (hx : R.fuse = false ∨ (R.fuse = true ∧ R.left ≠ 0) ∨ (R.fuse = true ∧ R.left = 0 ∧ R.thn ≠ none)) :
    Calls Try.prog 47 #[.pointer (some ⟨p.b, 0, none⟩)] w fun e w' => e = .returned (.tuple #[]) ∧ w' = w := by
  have c4 : w.cell? ⟨p.b, 4, none⟩ = some (.bool R.fuse) := by simpa [Rp.cells] using h.cell 4
  have c5 : w.cell? ⟨p.b, 5, none⟩ = some (.int .i64 R.left) := by simpa [Rp.cells] using h.cell 5
  have c6 : w.cell? ⟨p.b, 6, none⟩ = some p.tv := by simpa [Rp.cells] using h.cell 6
  have hne := fun (w : World) => Lib.run_eql_slice_nil (P := Try.prog) w
  have ht := h.thn
  rcases hx with h1 | ⟨h1, h2⟩ | ⟨h1, h2, h3⟩
  · rw [h1] at c4
    clear h1 ht
    go_enter Try.func47, Try.ntmps47
    go_wp2
    go_end0
    exact ⟨rfl, rfl⟩
  · rw [h1] at c4
    have t1 : (R.left == 0) = false := by simpa using h2
    clear h1 h2 ht
    go_enter Try.func47, Try.ntmps47
    go_wp2
    go_end0
    exact ⟨rfl, rfl⟩
  · rw [h1] at c4
    rw [h2] at c5
    cases hT : R.thn with
    | none => exact absurd hT h3
    | some xs =>
      rw [hT] at ht
      obtain ⟨f, zf, htv, _⟩ := ht
      rw [htv] at c6
      clear h1 h2 h3 htv hT
      go_enter Try.func47, Try.ntmps47
      go_wp2
      go_end0
      exact ⟨rfl, rfl⟩

theorem mark_any {w : World} {p : Rp} {R : Rf} (h : RefIs w p R) :
    Calls Try.prog 47 #[.pointer (some ⟨p.b, 0, none⟩)] w fun e w' => e = .returned (.tuple #[]) ∧ ∃ p', RTo w p w' p' ∧ RefIs w' p' R.mark := by
  by_cases hy : R.fuse = true ∧ R.left = 0 ∧ R.thn = none
  · have hm : R.mark = { R with thn := some R.seen } := by simp [Rf.mark, hy.1, hy.2.1, hy.2.2]
    rw [hm]
    exact mark_yes h hy.1 hy.2.1 hy.2.2
  · have hm : R.mark = R := by
      unfold Rf.mark
      rw [if_neg]
      intro h2
      simp at h2
      exact hy ⟨h2.1.1, h2.1.2, h2.2⟩
    have hx : R.fuse = false ∨ (R.fuse = true ∧ R.left ≠ 0) ∨ (R.fuse = true ∧ R.left = 0 ∧ R.thn ≠ none) := by
      cases hf : R.fuse with
      | false => exact Or.inl rfl
      | true =>
        by_cases hl : R.left = 0
        · exact Or.inr (Or.inr ⟨rfl, hl, fun ht => hy ⟨hf, hl, ht⟩⟩)
        · exact Or.inr (Or.inl ⟨rfl, hl⟩)
    refine (mark_no h hx).mono ?_
    rintro e w1 ⟨rfl, rfl⟩
    exact ⟨rfl, p, RTo.refl _ _, by rw [hm]; exact h⟩

/-- A Store that is OK. -/
def Rf.store (R : Rf) (k : Nat) (v : Int) : Rf := ({ R.worked with many := R.many + 1, seen := R.seen.set k v } : Rf).mark

set_option maxHeartbeats 1000000 in
theorem rstore_yes {w : World} {p : Rp} {R : Rf} (h : RefIs w p R) (k : Nat) (v : Int) (hk : k < R.seen.length) (hs0 : -1000000000 < R.steps) (hs : R.steps < 1000000000) (ht0 : -1000000000 < R.many) (ht : R.many < 1000000000) :
    Calls Try.prog 29 #[.pointer (some ⟨p.b, 0, none⟩), .int .i64 (k : Int), .int .u64 v] w fun e w' => e = .returned (.int .i64 0) ∧ ∃ p', RTo w p w' p' ∧ RefIs w' p' (R.store k v) := by
  have c0 : w.cell? ⟨p.b, 0, none⟩ = some (.slice (some ⟨p.bs, 0, none⟩) R.seen.length (R.seen.length + p.zs.length)) := by simpa [Rp.cells] using h.cell 0
  have hi := h.ok.hi
  have i1 : (k : Int) < (R.seen.length : Int) := by omega
  go_enter Try.func29, Try.ntmps29
  go_wp2_with fail
  refine (works_any h hs0 hs).mono ?_
  rintro e w1 ⟨rfl, hto1, hm1⟩
  have hne : p.bs ≠ p.b := h.ne.1.1
  have d0 : w1.cell? ⟨p.b, 0, none⟩ = some (.slice (some ⟨p.bs, 0, none⟩) R.seen.length (R.seen.length + p.zs.length)) := by simpa [Rp.cells, Rf.worked] using hm1.cell 0
  have d8 : w1.cell? ⟨p.b, 8, none⟩ = some (.int .i64 R.many) := by simpa [Rp.cells, Rf.worked] using hm1.cell 8
  have f8 := hm1.frozen 8
  have dk : w1.cell? ⟨p.bs, k, none⟩ = some (.int .u64 (wordAt R.seen k)) := row_word (xs := R.seen) hm1.seen hk
  have fk : w1.frozen? ⟨p.bs, k, none⟩ = false := row_frozen hm1.seen k
  have hm2 : RefIs (w1.setCell ⟨p.b, 8, none⟩ (.int .i64 (R.many + 1))) p { R.worked with many := R.many + 1 } := hm1.setField 8 _ (by simp [Rp.cells]) ⟨hm1.ok.llen, hm1.ok.wlen, hm1.ok.glen, hm1.ok.mul, hm1.ok.lo, hm1.ok.hi, hm1.ok.left⟩ rfl rfl rfl rfl rfl
  have hm3 := hm2.setSeen k hk v
  have hto3 : RTo w p ((w1.setCell ⟨p.b, 8, none⟩ (.int .i64 (R.many + 1))).setCell ⟨p.bs, k, none⟩ (.int .u64 v)) p := (hto1.trans (RTo.cell 8 _)).trans ⟨rfl, (Kept.refl _ _).setCell (by simp [Rp.blocks]) _, fun _ h => Or.inl h⟩
  have HX : Hid (_ ∧ _) := ⟨hm3, hto3⟩
  clear hm3 hto3 hm2 hm1 hto1 c0 h
  go_wp2_with fail
  refine (mark_any HX.out.1).mono ?_
  rintro e w4 ⟨rfl, p4, hto4, hm4⟩
  have HY : Hid (_ ∧ _) := ⟨hto4, hm4⟩
  clear hto4 hm4
  go_wp2
  go_ret
  exact ⟨rfl, p4, HX.out.2.trans HY.out.1, HY.out.2⟩

set_option maxHeartbeats 1000000 in
theorem rstore_no {w : World} {p : Rp} {R : Rf} (h : RefIs w p R) (a v : Int) (ha : a < 0 ∨ (R.seen.length : Int) ≤ a) :
    Calls Try.prog 29 #[.pointer (some ⟨p.b, 0, none⟩), .int .i64 a, .int .u64 v] w fun e w' => e = .returned (.int .i64 101) ∧ w = w' := by
  have c0 : w.cell? ⟨p.b, 0, none⟩ = some (.slice (some ⟨p.bs, 0, none⟩) R.seen.length (R.seen.length + p.zs.length)) := by simpa [Rp.cells] using h.cell 0
  by_cases hn : a < 0
  · go_enter Try.func29, Try.ntmps29
    go_wp2
    go_ret
    exact ⟨rfl, rfl⟩
  · have hn' : (R.seen.length : Int) ≤ a := by omega
    go_enter Try.func29, Try.ntmps29
    go_wp2
    go_ret
    exact ⟨rfl, rfl⟩

/-- A Fuse that is OK. -/
def Rf.setFuse (R : Rf) (k : Int) : Rf := if R.thn.isSome then R else ({ R with fuse := true, left := k } : Rf).mark

set_option maxHeartbeats 1000000 in
theorem rfuse_yes {w : World} {p : Rp} {R : Rf} (h : RefIs w p R) (k : Int) (hk0 : 0 ≤ k) (hk : k ≤ 9223372036854775807) :
    Calls Try.prog 32 #[.pointer (some ⟨p.b, 0, none⟩), .int .i64 k] w fun e w' => e = .returned (.int .i64 0) ∧ ∃ p', RTo w p w' p' ∧ RefIs w' p' (R.setFuse k) := by
  have c6 : w.cell? ⟨p.b, 6, none⟩ = some p.tv := by simpa [Rp.cells] using h.cell 6
  have c4 : w.cell? ⟨p.b, 4, none⟩ = some (.bool R.fuse) := by simpa [Rp.cells] using h.cell 4
  have c5 : w.cell? ⟨p.b, 5, none⟩ = some (.int .i64 R.left) := by simpa [Rp.cells] using h.cell 5
  have f4 := h.frozen 4
  have f5 := h.frozen 5
  have hne := fun (w : World) => run_neq_slice_nil_any (P := Try.prog) w
  have ht := h.thn
  cases hT : R.thn with
  | some xs =>
    have hF : R.setFuse k = R := by simp [Rf.setFuse, hT]
    rw [hT] at ht
    obtain ⟨f, zf, htv, _⟩ := ht
    rw [htv] at c6
    have HF : Hid (_ = _) := hF
    clear htv hT hF
    go_enter Try.func32, Try.ntmps32
    go_wp2
    go_ret
    exact ⟨rfl, p, RTo.refl _ _, by rw [HF.out]; exact h⟩
  | none =>
    have hF : R.setFuse k = ({ R with fuse := true, left := k } : Rf).mark := by simp [Rf.setFuse, hT]
    rw [hT] at ht
    simp only [ThenIs] at ht
    rw [ht] at c6
    have h4 : RefIs (w.setCell ⟨p.b, 4, none⟩ (.bool true)) p { R with fuse := true } := h.setField 4 _ (by simp [Rp.cells]) ⟨h.ok.llen, h.ok.wlen, h.ok.glen, h.ok.mul, h.ok.lo, h.ok.hi, h.ok.left⟩ rfl rfl rfl rfl rfl
    have h5 : RefIs ((w.setCell ⟨p.b, 4, none⟩ (.bool true)).setCell ⟨p.b, 5, none⟩ (.int .i64 k)) p { R with fuse := true, left := k } := h4.setField 5 _ (by simp [Rp.cells]) ⟨h.ok.llen, h.ok.wlen, h.ok.glen, h.ok.mul, h.ok.lo, h.ok.hi, ⟨hk0, hk⟩⟩ rfl rfl rfl rfl rfl
    have HF : Hid (_ ∧ _) := ⟨hF, h5⟩
    clear ht hT hF h4 h5 h
    go_enter Try.func32, Try.ntmps32
    go_wp2_with fail
    refine (mark_any HF.out.2).mono ?_
    rintro e w4 ⟨rfl, p4, hto4, hm4⟩
    have HY : Hid (_ ∧ _) := ⟨hto4, hm4⟩
    clear hto4 hm4
    go_wp2
    go_ret
    exact ⟨rfl, p4, ((RTo.cell _ _).trans (RTo.cell _ _)).trans HY.out.1, by rw [HF.out.1]; exact HY.out.2⟩

set_option maxHeartbeats 400000 in
theorem rfuse_no (w : World) (b : Nat) (k : Int) (hk0 : k < 0) :
    Calls Try.prog 32 #[.pointer (some ⟨b, 0, none⟩), .int .i64 k] w fun e w' => e = .returned (.int .i64 102) ∧ w = w' := by
  go_enter Try.func32, Try.ntmps32
  go_wp2
  go_ret
  exact ⟨rfl, rfl⟩

end Go.Proofs.Ytghcommbflfbnaa
