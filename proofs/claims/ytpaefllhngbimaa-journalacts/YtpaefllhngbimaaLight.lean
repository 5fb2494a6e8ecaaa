/-
  slices.Clone over a row of words; light, which sets a fuse.
-/
import Derived.Test.YtpaefllhngbimaaUpd
import Derived.Deep.AppendLies
import Derived.OwnWalk
namespace Go.Proofs.Ytpaefllhngbimaa
open Go.RowKit

theorem info29 : (Try.prog.info? 29).map (fun i => (i.zero, i.size, i.bytes)) = some (some (.int .u64 0), 1, 8) := by kernel_rfl

theorem build0 (w : World) : (Instr.buildSlice 52 0 #[]).run Try.prog w = .ok (.slice (some ⟨w.heap.size, 0, none⟩) 0 0) (w.alloc (.cells #[] 29)) := by kernel_rfl

theorem row_news {w : World} {b : Nat} {xs : List Int} {zs : List Value} (h : w.heap[b]? = some (.cells (row xs zs) 29 (0, 0))) : ∀ j u, (xs.map (Value.int .u64))[j]? = some u → w.cell? ((⟨b, 0, none⟩ : Addr).add j) = some u := by
  intro j u hu
  have hj : j < xs.length := by
    rcases Nat.lt_or_ge j xs.length with h1 | h1
    · exact h1
    · rw [List.getElem?_eq_none (by simpa using h1)] at hu; cases hu
  have : (⟨b, 0, none⟩ : Addr).add j = ⟨b, j, none⟩ := by unfold Addr.add; split <;> simp_all
  rw [this, row_cell h hj, ← hu]
  simp [hj]

theorem row_oneCell (xs : List Int) : ∀ u ∈ xs.map (Value.int .u64), u.oneCell' = true := by
  intro u hu
  simp only [List.mem_map] at hu
  obtain ⟨a, _, rfl⟩ := hu
  rfl

set_option maxRecDepth 10000 in
set_option maxHeartbeats 400000 in
theorem clone_any (w : World) (b c : Nat) (xs : List Int) (zs : List Value) (n : Nat) (hn : xs.length = n) (h0 : 0 < n) (h1 : n ≤ 65536) (h : w.heap[b]? = some (.cells (row xs zs) 29 (0, 0))) :
    Calls Try.prog 43 #[.slice (some ⟨b, 0, none⟩) n c] w fun e w' => ∃ g zf, e = .returned (.slice (some ⟨g, 0, none⟩) n (n + zf)) ∧ w.heap.size ≤ g ∧ (∃ ys : List Value, ys.length = zf ∧ w'.heap[g]? = some (.cells (row xs ys) 29 (0, 0))) ∧ Kept [] w w' := by
  have hb := lt_of_heap h
  have hk : (w.alloc (.cells #[] 29)).heap[b]? = some (.cells (row xs zs) 29 (0, 0)) := by rw [Below.heap_alloc _ _ _ hb]; exact h
  have hnews := row_news hk
  have hone := row_oneCell xs
  have hb0 := build0
  have hlen : (xs.map (Value.int .u64)).length = n * 1 := by simp [hn]
  obtain ⟨i0, hi, hz0, hz1, hz2⟩ := info_parts info29
  have HK : Hid (_ = _) := hk
  have HH : Hid (_ = _) := h
  clear hk h
  have hne := fun (w : World) => Lib.run_eql_slice_nil (P := Try.prog) w
  have hown : (w.alloc (.cells #[] 29)).ownsRow w.heap.size 29 1 (.slice (some ⟨w.heap.size, 0, none⟩) 0 0) 0 [] := World.ownsRow_made w #[] 0 (Nat.le_refl _) (by unfold maxLen; omega) (by simp)
  go_enter Try.func43, Try.ntmps43
  go_wp2_with (first
    | (at_builtin; refine wpList_append_lies _ rfl _ _ 52 rfl w.heap.size 29 i0 (.int .u64 0) 1 8 Try.underlying52 hi hz0 hz1 hz2 rfl (by omega) _ 0 [] rfl hown ⟨b, 0, none⟩ n c (xs.map (Value.int .u64)) rfl hlen hnews hone h0 ?h63 ?hby (by simp) (w.heap.size + 1) (by simp) ?_))
  case h63 => unfold maxLen; omega
  case hby => omega
  intro g cap w1 hown1 hgrow hat hlt
  obtain ⟨-, hr⟩ := hown1
  have hg1 : w.heap.size ≤ g := by
    rcases hat with h2 | h2
    · simp [Value.ownBlock] at h2; omega
    · omega
  have hfin : ∃ ys : List Value, cap = n + ys.length ∧ w1.heap[g]? = some (.cells (row xs ys) 29 (0, 0)) := by
    rcases hr with ⟨h2, _⟩ | ⟨g', cap', cur, h2, _, h3, h4, _, h5, h6⟩
    · cases h2
    · simp only [Value.slice.injEq, Option.some.injEq, Addr.mk.injEq, true_and, and_true] at h2
      obtain ⟨rfl, rfl⟩ := h2
      refine ⟨cur.toList.drop n, ?_, ?_⟩
      · simp [h5]; omega
      · rw [h3]
        simp only [Nat.mul_one] at h6
        congr 2
        apply Array.ext'
        rw [toList_row, ← h6, List.take_append_drop]
  obtain ⟨ys, hcap, hrow⟩ := hfin
  have hK : Kept [] w w1 := by
    refine ⟨hgrow.os, hgrow.tape, hgrow.output, by have := hgrow.size; simp at this; omega, fun k hk _ => ?_⟩
    rw [hgrow.block k (by simp; omega) (by simp [Value.ownBlock]; omega), Below.heap_alloc _ _ _ hk]
  have HR : Hid (_ ∧ _ ∧ _ ∧ _) := ⟨hcap, hrow, hK, hg1⟩
  clear hcap hrow hK hg1 hr hgrow hat hown hlen hone hnews
  go_wp2
  go_ret
  obtain ⟨hcap, hrow, hK, hg1⟩ := HR.out
  exact ⟨g, ys.length, by rw [← hcap, ← Nat.zero_add n]; rfl, hg1, ⟨ys, rfl, hrow⟩, hK⟩

/-- A fuse with so many steps left. -/
def Pm.light (M : Pm) (left : Int) : Pm := if 0 < left then { M with fuse := some (.inl left) } else { M with fuse := some (.inr M.seen), way := [] }

theorem WayOk.nil (n : Nat) : WayOk n [] := ⟨by simp, by simp⟩

set_option maxHeartbeats 400000 in
theorem light_any {w : World} {p : Pl} {M : Pm} (h : MemIs w p M) (left : Int) (hl : left ≤ 9223372036854775807) :
    Calls Try.prog 47 #[.pointer (some ⟨p.b, 0, none⟩), .int .i64 left] w fun e w' => e = .returned (.tuple #[]) ∧ ∃ p', To w p w' p' ∧ MemIs w' p' (M.light left) := by
  have c0 : w.cell? ⟨p.b, 0, none⟩ = some (.slice (some ⟨p.bs, 0, none⟩) M.seen.length (M.seen.length + p.zs.length)) := by simpa using h.cell 0
  have c2 : w.cell? ⟨p.b, 2, none⟩ = some p.mv := by simpa using h.cell 2
  have c3 : w.cell? ⟨p.b, 3, none⟩ = some p.fv := by simpa using h.cell 3
  have f2 := h.frozen 2
  have f3 := h.frozen 3
  by_cases hp : 0 < left
  · have hM : M.light left = { M with fuse := some (.inl left) } := by simp [Pm.light, hp]
    have hF : FuseIs w (.iface 80 (.agg #[.int .i64 left])) M.seen.length (some (.inl left)) := ⟨rfl, hp, hl⟩
    have hfin := h.setFuse (.iface 80 (.agg #[.int .i64 left])) _ hF (nodup_lessF rfl h.apart)
    have HM : Hid (_ = _) := hM
    clear hM hF
    go_enter Try.func47, Try.ntmps47
    go_wp2
    refine bodyPost_ret (results_none rfl _ _ _) rfl ⟨rfl, _, ⟨?_, ?_, ?_⟩, by rw [HM.out]; exact hfin⟩
    · rfl
    · exact (Kept.refl _ _).setCell (by simp [Pl.blocks]) _
    · exact fresh_fv (by simp [vb])
  · have hM : M.light left = { M with fuse := some (.inr M.seen), way := [] } := by simp [Pm.light, hp]
    have HM : Hid (_ = _) := hM
    clear hM
    go_enter Try.func47, Try.ntmps47
    go_wp2_with fail
    refine (clone_any _ p.bs _ M.seen p.zs _ rfl ?hpos h.ok.hi h.seen).mono ?_
    case hpos => have := h.ok.lo; omega
    rintro e w1 ⟨g, zf, rfl, hg, ⟨ys, hys, hrow⟩, hK⟩
    have h1 := h.kept0 hK
    have d2 : w1.cell? ⟨p.b, 2, none⟩ = some p.mv := by simpa using h1.cell 2
    have d3 : w1.cell? ⟨p.b, 3, none⟩ = some p.fv := by simpa using h1.cell 3
    have g2 := h1.frozen 2
    have g3 := h1.frozen 3
    have HR : Hid (_ ∧ _ ∧ _) := ⟨hys, hrow, hK⟩
    clear c0 c2 c3 f2 f3 hys hrow hK
    go_wp2
    obtain ⟨hys, hrow, hK⟩ := HR.out
    have hF : FuseIs w1 (.iface 104 (.agg #[.slice (some ⟨g, 0, none⟩) M.seen.length (M.seen.length + zf)])) M.seen.length (some (.inr M.seen)) := ⟨g, ys, by rw [hys], hrow, rfl⟩
    have hnd : ({ p with fv := .iface 104 (.agg #[.slice (some ⟨g, 0, none⟩) M.seen.length (M.seen.length + zf)]) } : Pl).blocks.Nodup := nodup_moreF h rfl hg
    have hm := h1.setFuse _ _ hF hnd
    have hm2 := hm.setWay (.map none) [] (Or.inl ⟨rfl, rfl⟩) (WayOk.nil _) (nodup_less hm.apart)
    go_end0
    refine ⟨rfl, _, ⟨?_, ?_, ?_⟩, by rw [HM.out]; exact hm2⟩
    · rfl
    · exact ((hK.mono (by simp)).setCell (by simp [Pl.blocks]) _).setCell (by simp [Pl.blocks]) _
    · intro k hk
      simp [Pl.blocks, vb] at hk
      simp [Pl.blocks]
      omega

end Go.Proofs.Ytpaefllhngbimaa
