/-
  'append' of zeros.
-/
import Derived.Test.YtehfmmmkhjjjfaaBase
namespace Go.Proofs.Ytehfmmmkhjjjfaa
open Go.RowKit
set_option linter.unusedSimpArgs false
set_option linter.unusedVariables false

theorem zeros_list (m : Nat) : (Builtin.zeroCells (Value.int .i64 0).cells m).toList = List.replicate m (Value.int .i64 0) := by
  apply List.ext_getElem?
  intro i
  simp only [Builtin.zeroCells, Value.cells, Array.toList_map, List.getElem?_map, List.getElem?_replicate]
  by_cases h : i < m
  · simp [h, List.getElem?_range, Nat.mod_one]
  · simp [h]

theorem zeros_arr (m : Nat) : Builtin.zeroCells (Value.int .i64 0).cells m = (List.replicate m (Value.int .i64 0)).toArray := by
  apply Array.ext'
  rw [zeros_list]

/-- 'append(s, make([]int, m)...)'. -/
theorem run_append_zeros (ty : TypeId) (w : World) (H : Nat) (v : Value) (xs : List Int) (hown : Own w H v xs) (m : Nat) (hm : 0 < m) (hx : xs.length ≤ 1048576) (hmm : m ≤ 1048576) (hH : H ≤ w.heap.size) :
    ∃ v' w', (Builtin.append_ #[23, 3] ty #[v, .int .i64 (m : Int)]).run Try.prog w = .ok v' w' ∧ Own w' H v' (xs ++ List.replicate m 0) ∧ w.grownBy w' v.ownBlock := by
  obtain ⟨i, hi, hz, hs, hb⟩ := info_parts info3
  have hw : IntKind.i64.wrap (m : Int) = (m : Int) := by rw [IntKind.wrap_i64]; omega
  have n0 : ¬ ((m : Int) < 0) := by omega
  have n1 : ¬ ((281474976710656 : Int) < (m : Int) * 8) := by omega
  have n2 : m ≠ 0 := by omega
  have n3 : ¬ ((m : Int) ≤ 0) := by omega
  have grown : ∀ (old : Nat), old < xs.length + m → ∀ (row : Option Nat),
      Own (w.drew.alloc (.cells ((xs.map (Value.int .i64)).toArray ++ Builtin.zeroCells (Value.int .i64 0).cells m ++ Builtin.zeroCells (Value.int .i64 0).cells (grownCap w (xs.length + m) old 3 - (xs.length + m))) 3)) H
        (.slice (some ⟨w.heap.size, 0, none⟩) (xs.length + m) (grownCap w (xs.length + m) old 3)) (xs ++ List.replicate m 0) ∧
      w.grownBy (w.drew.alloc (.cells ((xs.map (Value.int .i64)).toArray ++ Builtin.zeroCells (Value.int .i64 0).cells m ++ Builtin.zeroCells (Value.int .i64 0).cells (grownCap w (xs.length + m) old 3 - (xs.length + m))) 3)) row := by
    intro old ho row
    have hge := grownCap_ge w (xs.length + m) old 3
    have hcm : grownCap w (xs.length + m) old 3 ≤ maxLen := grownCap_le_maxLen w (xs.length + m) old 3 (by unfold maxLen; omega)
    refine ⟨⟨by simp, .inr ⟨w.heap.size, _, _, by simp, hH, heap_alloc_new w.drew _, by simpa using hge, hcm, ?_, ?_⟩⟩, ⟨rfl, rfl, rfl, by simp, fun k hk _ => Below.heap_alloc w.drew _ k hk⟩⟩
    · simp [zeros_arr]
      omega
    · simp only [zeros_arr, Array.toList_append, List.map_append, List.map_replicate, List.length_append, List.length_replicate, Nat.mul_one]
      rw [show xs.length + m = (xs.map (Value.int .i64) ++ List.replicate m (Value.int .i64 0)).length from by simp]
      exact List.take_left
  rcases hown.form with ⟨rfl, rfl⟩ | ⟨g, cap, cur, rfl, h2, h3, h4, h5, h6, h7⟩
  · have hgr := grown 0 (by simp; omega) none
    have h48' : ¬ (281474976710656 < Builtin.nextslicecap m 0 * 8) := by
      have := growslice_fits (need := m) (old := 0) (bytes := 8) hm (by omega)
      omega
    have h63' : ¬ ((9223372036854775807 : Int) < (m : Int)) := by omega
    refine ⟨_, _, ?_, hgr.1, hgr.2⟩
    simp [h63', Builtin.append_, run_underlying Try.underlying23, run_underlying Try.underlying3, sizeOf, typeInfo, zeroValue, asInt, asIntOf, hi, hz, hs, hb, hw, n0, n1, n2, n3, h48', Question.forced, Builtin.firstCells, newRow, grownCap]
  · by_cases hroom : xs.length + m ≤ cap
    · have hst := run_storeCells_at Try.prog g xs.length 3 (List.replicate m (Value.int .i64 0)) 0 cur w h3 (by simp; omega) (by
        intro v hv
        rw [List.eq_of_mem_replicate hv]; rfl)
      simp only [Nat.add_zero, List.length_replicate] at hst
      refine ⟨.slice (some ⟨g, 0, none⟩) (xs.length + m) cap, w.setRow g (cur.toList.take xs.length ++ List.replicate m (Value.int .i64 0) ++ cur.toList.drop (xs.length + m)).toArray, ?_, ⟨by simp, .inr ⟨g, cap, _, by simp, h2, setRow_heap w g cur _ 3 _ h3, by simpa using hroom, h5, ?_, ?_⟩⟩, ⟨rfl, rfl, rfl, by simp, fun k _ hk => setRow_other w g k _ (fun e => hk (by simp [Value.ownBlock, e]))⟩⟩
      · simp [Builtin.append_, run_underlying Try.underlying23, run_underlying Try.underlying3, sizeOf, typeInfo, zeroValue, asInt, asIntOf, hi, hz, hs, hb, hw, n0, n1, n2, n3, hroom, zeros_arr, Addr.add_lit, hst]
      · simp
        omega
      · rw [h7]
        simp only [List.length_append, List.length_replicate, Nat.mul_one, List.map_append, List.map_replicate]
        rw [show xs.length + m = (xs.map (Value.int .i64) ++ List.replicate m (Value.int .i64 0)).length from by simp]
        exact List.take_left
    · have hgr := grown cap (by omega) (Value.ownBlock (.slice (some ⟨g, 0, none⟩) xs.length cap))
      have h48' : ¬ (281474976710656 < Builtin.nextslicecap (xs.length + m) cap * 8) := by
        have := growslice_fits (need := xs.length + m) (old := cap) (bytes := 8) (by omega) (by omega)
        omega
      have h63' : ¬ (9223372036854775807 < ((xs.length : Int) + (m : Int))) := by omega
      have holds : ∀ j u, (xs.map (Value.int .i64))[j]? = some u → w.drew.cell? ((⟨g, 0, none⟩ : Addr).add j) = some u := fun j u hu => by
        have := World.ownsRow.cells hown (g := g) rfl j u hu
        simpa using this
      have hfo := run_firstCells_some (P := Try.prog) w.drew 1 xs.length ⟨g, 0, none⟩ xs.length cap (xs.map (Value.int .i64)) (by simp) holds
      refine ⟨_, _, ?_, hgr.1, hgr.2⟩
      simp [Builtin.append_, run_underlying Try.underlying23, run_underlying Try.underlying3, sizeOf, typeInfo, zeroValue, asInt, asIntOf, hi, hz, hs, hb, hw, n0, n1, n2, n3, hroom, h63', h48', Question.forced, hfo, newRow, grownCap]

end Go.Proofs.Ytehfmmmkhjjjfaa
