/-
  The reference's NewLog.
-/
import Derived.Test.YtlecpeofjabndaaOc
import Derived.Test.YtlecpeofjabndaaLs
import Derived.Deep.CutRange
import Derived.Deep.CutBlock
namespace Go.Proofs.Ytlecpeofjabndaa
open Go.RowKit
set_option linter.unusedVariables false
set_option linter.unusedSimpArgs false

theorem ms0 : madeCells #[Value.int .i64 0, .int .i64 0] 0 = (laC (freshC 0 0)).toArray := by kernel_rfl
theorem ms1 : madeCells #[Value.int .i64 0, .int .i64 0] 2 = (laC (freshC 1 0)).toArray := by kernel_rfl
theorem ms2 : madeCells #[Value.int .i64 0, .int .i64 0] 4 = (laC (freshC 2 0)).toArray := by kernel_rfl
theorem ms3 : madeCells #[Value.int .i64 0, .int .i64 0] 6 = (laC (freshC 3 0)).toArray := by kernel_rfl
theorem ms4 : madeCells #[Value.int .i64 0, .int .i64 0] 8 = (laC (freshC 4 0)).toArray := by kernel_rfl
theorem ms5 : madeCells #[Value.int .i64 0, .int .i64 0] 10 = (laC (freshC 5 0)).toArray := by kernel_rfl
theorem ms6 : madeCells #[Value.int .i64 0, .int .i64 0] 12 = (laC (freshC 6 0)).toArray := by kernel_rfl
theorem ms7 : madeCells #[Value.int .i64 0, .int .i64 0] 14 = (laC (freshC 7 0)).toArray := by kernel_rfl
theorem ms8 : madeCells #[Value.int .i64 0, .int .i64 0] 16 = (laC (freshC 8 0)).toArray := by kernel_rfl

theorem make_stamps (n : Nat) (h : n ≤ 8) (w : World) : (Instr.makeSlice 48 (.int .i64 (n : Int)) (.int .i64 (n : Int))).run Try.prog w = .ok (.slice (some ⟨w.heap.size, 0, none⟩) n n) (w.alloc (.cells (laC (freshC n 0)).toArray 35 (0, 0))) := by
  obtain ⟨i0, hi, hz0, hz1, hz2⟩ := info_parts info35
  have := run_make (P := Try.prog) w 48 35 i0 _ Try.underlying48 hi hz0 .i64 .i64 n n (by omega) (by omega) (by rw [hz2]; omega) (by omega)
  rw [this]
  have e : madeCells (Value.agg #[.int .i64 0, .int .i64 0]).cells ((n : Int).toNat * i0.size) = (laC (freshC n 0)).toArray := by
    rw [hz1]
    have hc : n = 0 ∨ n = 1 ∨ n = 2 ∨ n = 3 ∨ n = 4 ∨ n = 5 ∨ n = 6 ∨ n = 7 ∨ n = 8 := by omega
    rcases hc with rfl | rfl | rfl | rfl | rfl | rfl | rfl | rfl | rfl
    · exact ms0
    · exact ms1
    · exact ms2
    · exact ms3
    · exact ms4
    · exact ms5
    · exact ms6
    · exact ms7
    · exact ms8
  rw [e]
  simp

theorem laC_fresh {n j : Nat} (hj : j < n) : (laC (freshC n j)).set (j * 2 + 1) (.int .i64 (j : Int)) = laC (freshC n (j + 1)) := by
  rw [← freshC_step hj, laC_set _ _ _ (by rw [freshC_length]; exact hj)]
  have h0 := (laC_get (freshC n j) j _ (List.getElem?_eq_getElem (by rw [freshC_length]; exact hj))).1
  rw [freshC_get] at h0
  rw [list_set_self (laC (freshC n j)) (j * 2) (.int .i64 0) h0]

theorem fresh_v (n j : Nat) : (freshC n j).map Co.v = List.replicate n (Value.slice none 0 0) := by
  apply List.ext_getElem (by simp [freshC])
  intro i h1 h2
  simp [freshC]

theorem new3 (w : World) (A B D : Array Value) (t u v : TypeId) : ∃ W, W = (((w.alloc (.cells A t (0, 0))).alloc (.cells B u (0, 0))).alloc (.cells D v (0, 0))).drew ∧ W.heap[w.heap.size]? = some (.cells A t (0, 0)) ∧ W.heap[w.heap.size + 1]? = some (.cells B u (0, 0)) ∧ W.heap[w.heap.size + 1 + 1]? = some (.cells D v (0, 0)) ∧ Kept [] w W := by
  obtain ⟨U, X, HU, HK, HB⟩ := three w A B D t u v
  refine ⟨_, rfl, ?_, ?_, ?_, ?_⟩
  · rw [HU.out.1, HU.out.2]; exact HB.out.1
  · rw [HU.out.1, HU.out.2]; exact HB.out.2.1
  · rw [HU.out.1, HU.out.2]; exact HB.out.2.2
  · rw [HU.out.1]; exact HK.out.1.drew

set_option maxRecDepth 100000 in
set_option maxHeartbeats 8000000 in
theorem r_new (n : Nat) (h1 : 1 ≤ n) (h8 : n ≤ 8) (w : World) : Calls Try.prog 8 #[.int .i64 (n : Int)] w fun e w' => ∃ q gc gl, e = .returned (.tuple #[.pointer (some ⟨q, 0, none⟩), .int .i64 0]) ∧ Re w.heap.size w' q gc gl (freshC n n) ∧ Kept [] w w' := by
  have hm1 := make_rests n h8
  obtain ⟨rz, hrz⟩ : ∃ rz, rz = (List.replicate n (Value.slice none 0 0)).toArray := ⟨_, rfl⟩
  rw [← hrz] at hm1
  have HZ : Hid (rz = (List.replicate n (Value.slice none 0 0)).toArray) := hrz
  clear hrz
  have hm2 := make_stamps n h8
  have i1 : ¬ (n : Int) < 1 := by omega
  have i2 : ¬ (8 : Int) < (n : Int) := by omega
  have i3 : (n : Int) ≤ 8 := by omega
  have i4 : (1 : Int) ≤ (n : Int) := by omega
  go_enter Try.func8, Try.ntmps8
  go_upto_region 3 with fail
  go_cut [4] from 12 to 17 (fun v wx => ∃ q gc gl : Nat, v = .pointer (some ⟨q, 0, none⟩) ∧ Hid (wx.heap[q]? = some (.cells #[.slice (some ⟨gc, 0, none⟩) n n, .slice (some ⟨gl, 0, none⟩) n n] 50 (0, 0)) ∧ wx.heap[gc]? = some (.cells rz 44 (0, 0)) ∧ wx.heap[gl]? = some (.cells (laC (freshC n 0)).toArray 35 (0, 0)) ∧ (q ≠ gc ∧ q ≠ gl ∧ gc ≠ gl) ∧ (w.heap.size ≤ q ∧ w.heap.size ≤ gc ∧ w.heap.size ≤ gl) ∧ Kept [] w wx))
  case first =>
    go_region
    · obtain ⟨W, hW, f1, f2, f3, fk⟩ := new3 w rz (laC (freshC n 0)).toArray #[.slice (some ⟨w.heap.size, 0, none⟩) n n, .slice (some ⟨w.heap.size + 1, 0, none⟩) n n] 44 35 50
      have HF : Hid (_ ∧ _ ∧ _ ∧ _) := ⟨f1, f2, f3, fk⟩
      clear f1 f2 f3 fk
      rw [← hW]
      clear hW
      go_wp2_with fail
      go_meet
      case rel => exact ⟨w.heap.size + 1 + 1, w.heap.size, w.heap.size + 1, rfl, HF.out.2.2.1, HF.out.1, HF.out.2.1, ⟨by omega, by omega, by omega⟩, ⟨by omega, by omega, by omega⟩, HF.out.2.2.2⟩
    · obtain ⟨W, hW, f1, f2, f3, fk⟩ := new3 w (laC (freshC n 0)).toArray rz #[.slice (some ⟨w.heap.size + 1, 0, none⟩) n n, .slice (some ⟨w.heap.size, 0, none⟩) n n] 35 44 50
      have HF : Hid (_ ∧ _ ∧ _ ∧ _) := ⟨f1, f2, f3, fk⟩
      clear f1 f2 f3 fk
      rw [← hW]
      clear hW
      go_wp2_with fail
      go_meet
      case rel => exact ⟨w.heap.size + 1 + 1, w.heap.size + 1, w.heap.size, rfl, HF.out.2.2.1, HF.out.2.1, HF.out.1, ⟨by omega, by omega, by omega⟩, ⟨by omega, by omega, by omega⟩, HF.out.2.2.2⟩
  case rest =>
    obtain ⟨q, gc, gl, rfl, HB⟩ := hcut
    clear hm1 hm2
    go_wp2_with fail
    go_loopw [5] (fun i wr => ∃ j : Nat, i = .int .i64 (j : Int) ∧ j ≤ n ∧ Hid (wr.heap[q]? = some (.cells #[.slice (some ⟨gc, 0, none⟩) n n, .slice (some ⟨gl, 0, none⟩) n n] 50 (0, 0)) ∧ wr.heap[gc]? = some (.cells rz 44 (0, 0)) ∧ wr.heap[gl]? = some (.cells (laC (freshC n j)).toArray 35 (0, 0)) ∧ Kept [] w wr)) (fun i _ => (n - intOf i).toNat)
    case atStart => exact ⟨0, rfl, by omega, HB.out.1, HB.out.2.1, HB.out.2.2.1, HB.out.2.2.2.2.2⟩
    case round =>
      obtain ⟨j, rfl, hj, HJ⟩ := hrel
      have c0 : wr.cell? ⟨q, 1, none⟩ = some (.slice (some ⟨gl, 0, none⟩) n n) := cellB HJ.out.1
      by_cases hlt : j < n
      · have j0 : (0 : Int) ≤ (j : Int) := by omega
        have j1 : (j : Int) < (n : Int) := by omega
        have qq := laC_get (freshC n j) j _ (List.getElem?_eq_getElem (by rw [freshC_length]; exact hlt))
        obtain ⟨qk, c2⟩ : ∃ qk, wr.cell? ⟨gl, j * 2 + 1, none⟩ = some (.int .i64 qk) := ⟨_, by rw [cellB HJ.out.2.2.1]; simpa using qq.2⟩
        have z2 := frozen_of HJ.out.2.2.1 (j * 2 + 1)
        have hn := HB.out.2.2.2.1
        have HJ2 : Hid ((wr.setCell ⟨gl, j * 2 + 1, none⟩ (.int .i64 (j : Int))).heap[q]? = some (.cells #[.slice (some ⟨gc, 0, none⟩) n n, .slice (some ⟨gl, 0, none⟩) n n] 50 (0, 0)) ∧ (wr.setCell ⟨gl, j * 2 + 1, none⟩ (.int .i64 (j : Int))).heap[gc]? = some (.cells rz 44 (0, 0)) ∧ (wr.setCell ⟨gl, j * 2 + 1, none⟩ (.int .i64 (j : Int))).heap[gl]? = some (.cells (laC (freshC n (j + 1))).toArray 35 (0, 0)) ∧ Kept [] w (wr.setCell ⟨gl, j * 2 + 1, none⟩ (.int .i64 (j : Int)))) := by
          refine ⟨?_, ?_, ?_, ?_⟩
          · rw [Below.heap_setCell _ _ _ _ (show q ≠ gl from hn.2.1)]; exact HJ.out.1
          · rw [Below.heap_setCell _ _ _ _ (show gc ≠ gl from hn.2.2)]; exact HJ.out.2.1
          · rw [block_set HJ.out.2.2.1, ← laC_fresh hlt]; simp
          · exact HJ.out.2.2.2.setCell (Or.inr HB.out.2.2.2.2.1.2.2) _
        clear qq hn
        go_wp2_with fail
        go_roundw
        case rel => exact ⟨j + 1, by go_num, by omega, HJ2.out⟩
        case measure => simp [intOf]; omega
      · have hjn : j = n := by omega
        subst hjn
        have j1 : ¬ (j : Int) < (j : Int) := by omega
        have hn := HB.out.2.2.2.1
        have hg := HB.out.2.2.2.2.1
        have hL : Re w.heap.size wr q gc gl (freshC j j) := by
          refine ⟨by rw [freshC_length]; exact HJ.out.1, by rw [fresh_v, ← HZ.out]; exact HJ.out.2.1, HJ.out.2.2.1, ?_, hn.1, hn.2.1, hn.2.2, hg.1, hg.2.1, hg.2.2, ?_, ?_, by rw [freshC_length]; omega, by rw [freshC_length]; omega, ?_, ?_⟩
          · intro i hi; rw [freshC_get]; exact Rr.nil _ _
          · intro i hi x hx; rw [freshC_get] at hx; simp [Value.ownBlock] at hx
          · intro i l hi hl x hil hx; rw [freshC_get] at hx; simp [Value.ownBlock] at hx
          · intro i hi; rw [freshC_get]; simp
          · intro i hi r hr; rw [freshC_get] at hr; simp at hr
        have HLq : Hid (_) := hL
        clear hL hn hg
        go_wp2_with fail
        go_ret2
        first | exact ⟨q, gc, gl, rfl, HLq.out, HJ.out.2.2.2⟩ | exact ⟨q, rfl, ⟨gc, gl, HLq.out⟩, HJ.out.2.2.2⟩

end Go.Proofs.Ytlecpeofjabndaa
