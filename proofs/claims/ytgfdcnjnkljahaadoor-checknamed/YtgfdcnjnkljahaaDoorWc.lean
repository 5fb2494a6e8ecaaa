/-
  Copy of the root alone.
-/
import Derived.Test.YtgfdcnjnkljahaaDoorWb
namespace Go.Proofs.YtgfdcnjnkljahaaDoor
open Go.RowKit Go.Lib Go.Maps
set_option linter.unusedVariables false
set_option linter.unusedSimpArgs false

/-- A copy is answered. -/
def Copied (w : World) (e : Ending) (w' : World) : Prop :=
  ∃ g cg cur e0 m cm mur, e = .returned (.agg #[.slice (some ⟨g, 0, none⟩) 1 cg, .slice none 0 0, .slice (some ⟨m, 0, none⟩) 1 cm]) ∧ w'.heap[g]? = some (.cells cur 31 (0, 0)) ∧ cur.toList.take 4 = [.int .i64 1, .bool true, .slice (some ⟨e0, 0, none⟩) 0 0, .string ⟨#[]⟩] ∧ w'.heap[m]? = some (.cells mur 3 (0, 0)) ∧ mur.toList.take 1 = [.int .i64 0] ∧ Kept [] w w' ∧ g ≠ m ∧ w.heap.size ≤ g ∧ 1 ≤ cg ∧ 1 ≤ cm

/-- How far the copy has come. -/
def Cop (w V wr : World) (B : Nat) (j : Nat) : Prop :=
  Kept [] w wr ∧ Kept [B] V wr ∧ ((j = 0 ∧ wr.heap[B]? = some (.cells #[.slice none 0 0, .slice none 0 0, .slice none 0 0] 27 (0, 0))) ∨ (j = 1 ∧ ∃ g cg cur e0, wr.heap[B]? = some (.cells #[.slice (some ⟨g, 0, none⟩) 1 cg, .slice none 0 0, .slice none 0 0] 27 (0, 0)) ∧ wr.heap[g]? = some (.cells cur 31 (0, 0)) ∧ cur.toList.take 4 = [.int .i64 1, .bool true, .slice (some ⟨e0, 0, none⟩) 0 0, .string ⟨#[]⟩] ∧ B < g ∧ 1 ≤ cg))

set_option maxRecDepth 100000 in
set_option maxHeartbeats 8000000 in
theorem r_Copy1 {w : World} {I M : Nat} (hI : w.heap[I]? = some (.cells #[.int .i64 1, .bool true, .slice none 0 0, .string ⟨#[]⟩] 31 (0, 0))) (hM : w.heap[M]? = some (.cells #[.int .i64 0] 3 (0, 0))) :
    Calls Tryd.prog 15 #[.agg #[.slice (some ⟨I, 0, none⟩) 1 1, .slice none 0 0, .slice (some ⟨M, 0, none⟩) 1 1]] w (Copied w) := by
  obtain ⟨h0, h1, h2, h3⟩ := three w (.cells #[.slice (some ⟨I, 0, none⟩) 1 1, .slice none 0 0, .slice (some ⟨M, 0, none⟩) 1 1] 27 (0, 0)) (.cells #[.slice none 0 0, .slice none 0 0, .slice none 0 0] 27 (0, 0)) (.cells #[.slice none 0 0, .slice none 0 0, .slice none 0 0] 27 (0, 0))
  obtain ⟨V, hV⟩ : ∃ V, (((w.alloc (.cells #[.slice (some ⟨I, 0, none⟩) 1 1, .slice none 0 0, .slice (some ⟨M, 0, none⟩) 1 1] 27 (0, 0))).alloc (.cells #[.slice none 0 0, .slice none 0 0, .slice none 0 0] 27 (0, 0))).alloc (.cells #[.slice none 0 0, .slice none 0 0, .slice none 0 0] 27 (0, 0))) = V := ⟨_, rfl⟩
  rw [hV] at h0 h1 h2 h3
  obtain ⟨B, hB⟩ : ∃ B, w.heap.size = B := ⟨_, rfl⟩
  rw [hB] at h1 h2 h3
  have HI : Hid (V.heap[I]? = some (.cells #[.int .i64 1, .bool true, .slice none 0 0, .string ⟨#[]⟩] 31 (0, 0))) := by show _ = _; rw [h0.block _ (lt_of_heap hI) (by simp)]; exact hI
  have HMm : Hid (V.heap[M]? = some (.cells #[.int .i64 0] 3 (0, 0))) := by show _ = _; rw [h0.block _ (lt_of_heap hM) (by simp)]; exact hM
  have hIl := lt_of_heap hI
  have hMl := lt_of_heap hM
  rw [hB] at hIl hMl
  have HV : Hid (_) := hV
  have HB : Hid (w.heap.size = B) := hB
  have HC : Hid (Cop w V V (B + 1 + 1) 0) := ⟨h0, Kept.refl _ _, Or.inl ⟨rfl, h3⟩⟩
  have H1 : Hid (V.heap[B]? = some (.cells #[.slice (some ⟨I, 0, none⟩) 1 1, .slice none 0 0, .slice (some ⟨M, 0, none⟩) 1 1] 27 (0, 0))) := h1
  have H2 : Hid (V.heap[B + 1]? = some (.cells #[.slice none 0 0, .slice none 0 0, .slice none 0 0] 27 (0, 0))) := h2
  clear h0 h1 h2 h3 hI hM hV hB
  go_enter Tryd.func15, Tryd.ntmps15
  go_upto_region 2 with fail
  (try simp only [Below.size_alloc, Array.size_push])
  rw [HV.out]
  rw [HB.out]
  clear HV
  go_wp2_with fail
  go_loopw [4] (fun ix wr => ∃ j : Nat, ix = .int .i64 (j : Int) ∧ j ≤ 1 ∧ Hid (Cop w V wr (B + 1 + 1) j)) (fun ix _ => (1 - intOf ix).toNat)
  case atStart => exact ⟨0, rfl, by omega, HC.out⟩
  case round =>
    obtain ⟨j, rfl, hj, HJ⟩ := hrel
    clear HC
    obtain ⟨kw, kv, hc⟩ := HJ.out
    have x0 : wr.cell? ⟨B, 0, none⟩ = some (.slice (some ⟨I, 0, none⟩) 1 1) := kv.cell (by rw [cellB H1.out]; rfl) (by simp only [List.mem_singleton]; omega)
    rcases hc with ⟨rfl, hb⟩ | ⟨rfl, g, cg, cur, e0, hb, hg, hcur, hBg, hcg⟩
    · have hIw : wr.heap[I]? = some (.cells #[.int .i64 1, .bool true, .slice none 0 0, .string ⟨#[]⟩] 31 (0, 0)) := by rw [kv.block _ (lt_of_heap HI.out) (by simp; omega)]; exact HI.out
      have i0 : wr.cell? ⟨I, 0, none⟩ = some (.int .i64 1) := cellB hIw
      have i1 : wr.cell? ⟨I, 1, none⟩ = some (.bool true) := cellB hIw
      have i2 : wr.cell? ⟨I, 2, none⟩ = some (.slice none 0 0) := cellB hIw
      have i3 : wr.cell? ⟨I, 3, none⟩ = some (.string ⟨#[]⟩) := cellB hIw
      have hap := app_empty
      go_upto_region 7 with fail
      obtain ⟨Y, hY⟩ : ∃ Y, wr.heap.size = Y := ⟨_, rfl⟩
      rw [hY]
      obtain ⟨W1, hW1⟩ : ∃ W1, ((wr.alloc (.cells #[.int .i64 1, .bool true, .slice (some ⟨Y + 1, 0, none⟩) 0 0, .string ⟨#[]⟩] 31 (0, 0))).alloc (.cells #[] 33 (0, 0))) = W1 := ⟨_, rfl⟩
      rw [hW1]
      have k1 : Kept [] wr W1 := by rw [← hW1]; exact ((Kept.refl [] wr).alloc _).alloc _
      have hY1 : W1.heap[Y]? = some (.cells #[.int .i64 1, .bool true, .slice (some ⟨Y + 1, 0, none⟩) 0 0, .string ⟨#[]⟩] 31 (0, 0)) := by
        rw [← hW1, Below.heap_alloc _ _ _ (by simp [hY]), ← hY]; exact Go.heap_alloc_new _ _
      have y0 : W1.cell? ⟨Y, 0, none⟩ = some (.int .i64 1) := cellB hY1
      have y1 : W1.cell? ⟨Y, 1, none⟩ = some (.bool true) := cellB hY1
      have y2 : W1.cell? ⟨Y, 2, none⟩ = some (.slice (some ⟨Y + 1, 0, none⟩) 0 0) := cellB hY1
      have y3 : W1.cell? ⟨Y, 3, none⟩ = some (.string ⟨#[]⟩) := cellB hY1
      have hb1 : W1.heap[B + 1 + 1]? = some (.cells #[.slice none 0 0, .slice none 0 0, .slice none 0 0] 27 (0, 0)) := by rw [k1.block _ (lt_of_heap hb) (by simp)]; exact hb
      have q0 : W1.cell? ⟨B + 1 + 1, 0, none⟩ = some (.slice none 0 0) := cellB hb1
      have k2 : Kept [] W1 (W1.alloc (.cells #[.int .i64 1, .bool true, .slice (some ⟨Y + 1, 0, none⟩) 0 0, .string ⟨#[]⟩] 31 (0, 0))) := (Kept.refl [] W1).alloc _
      obtain ⟨g, cg, cur, w5, hr5, hg5, hc5, k5, hgs, hcg⟩ := app_ino1 (w := W1.alloc (.cells #[.int .i64 1, .bool true, .slice (some ⟨Y + 1, 0, none⟩) 0 0, .string ⟨#[]⟩] 31 (0, 0))) (b := W1.heap.size) (x := rootI) (a := some ⟨Y + 1, 0, none⟩) (c := 0) (Go.heap_alloc_new _ _)
      have HAp : Hid (_) := hr5
      have hb5 : w5.heap[B + 1 + 1]? = some (.cells #[.slice none 0 0, .slice none 0 0, .slice none 0 0] 27 (0, 0)) := by rw [(k2.trans k5 (by simp)).block _ (lt_of_heap hb1) (by simp)]; exact hb1
      have q5 : w5.cell? ⟨B + 1 + 1, 0, none⟩ = some (.slice none 0 0) := cellB hb5
      have z5 : w5.frozen? ⟨B + 1 + 1, 0, none⟩ = false := by simp [World.frozen?, hb5]
      have hBg : B + 1 + 1 < g := by have := lt_of_heap hb1; simp at hgs; omega
      obtain ⟨W6, hW6⟩ : ∃ W6, w5.setCell ⟨B + 1 + 1, 0, none⟩ (.slice (some ⟨g, 0, none⟩) 1 cg) = W6 := ⟨_, rfl⟩
      have k6 : Kept [B + 1 + 1] w5 W6 := by rw [← hW6]; exact (Kept.refl _ _).setCell (Or.inl (by simp)) _
      have HC1 : Hid (Cop w V W6 (B + 1 + 1) 1) := by
        have kk : Kept [] wr w5 := (k1.trans k2 (by simp)).trans k5 (by simp)
        refine ⟨(kw.trans kk (by simp)).trans k6 (fun x hx => Or.inr (by simp at hx; have := HB.out; omega)), (kv.trans kk (by simp)).trans k6 (by simp), Or.inr ⟨rfl, g, cg, cur, Y + 1, ?_, ?_, hc5, hBg, hcg⟩⟩
        · rw [← hW6, Go.heap_setCell_same w5 _ 0 _ _ _ hb5]; rfl
        · rw [k6.block _ (lt_of_heap hg5) (by simp; omega)]; exact hg5
      have HW6 : Hid (_) := hW6
      clear hY hW1 k1 hY1 hb1 k2 hr5 hg5 hc5 k5 hgs hcg hb5 k6 hW6 hap kw kv hb hIw hBg HJ
      clear x0 i0 i1 i2 i3
      go_wp2_with (at_builtin; refine wpList_append_run _ rfl _ _ 23 23 rfl _ _ rfl rfl _ _ HAp.out ?_)
      clear HAp y0 y1 y2 y3 q0
      go_wp2_with fail
      go_roundw
      case rel => exact ⟨1, rfl, by omega, by rw [HW6.out]; exact HC1.out⟩
      case measure => simp [intOf]
    · have HB3 : Hid (_) := hb
      have hMw : wr.heap[M]? = some (.cells #[.int .i64 0] 3 (0, 0)) := by rw [kv.block _ (lt_of_heap HMm.out) (by simp; omega)]; exact HMm.out
      have hBw : wr.heap[B]? = some (.cells #[.slice (some ⟨I, 0, none⟩) 1 1, .slice none 0 0, .slice (some ⟨M, 0, none⟩) 1 1] 27 (0, 0)) := by rw [kv.block _ (lt_of_heap H1.out) (by simp only [List.mem_singleton]; omega)]; exact H1.out
      have hRw : wr.heap[B + 1]? = some (.cells #[.slice none 0 0, .slice none 0 0, .slice none 0 0] 27 (0, 0)) := by rw [kv.block _ (lt_of_heap H2.out) (by simp only [List.mem_singleton]; omega)]; exact H2.out
      have x1 : wr.cell? ⟨B, 1, none⟩ = some (.slice none 0 0) := cellB hBw
      have q1 : wr.cell? ⟨B + 1 + 1, 1, none⟩ = some (.slice none 0 0) := cellB hb
      have z1 : wr.frozen? ⟨B + 1 + 1, 1, none⟩ = false := by simp [World.frozen?, hb]
      obtain ⟨W5, hW5⟩ : ∃ W5, wr.setCell ⟨B + 1 + 1, 1, none⟩ (.slice none 0 0) = W5 := ⟨_, rfl⟩
      have k5 : Kept [B + 1 + 1] wr W5 := by rw [← hW5]; exact (Kept.refl _ _).setCell (Or.inl (by simp)) _
      have hb5 : W5.heap[B + 1 + 1]? = some (.cells #[.slice (some ⟨g, 0, none⟩) 1 cg, .slice none 0 0, .slice none 0 0] 27 (0, 0)) := by rw [← hW5, Go.heap_setCell_same wr _ 1 _ _ _ hb]; rfl
      have hap := app_none wr
      have j1 : ¬ ((1 : Nat) : Int) < 1 := by omega
      go_upto_region 9 with fail
      have hB5 : W5.heap[B]? = some (.cells #[.slice (some ⟨I, 0, none⟩) 1 1, .slice none 0 0, .slice (some ⟨M, 0, none⟩) 1 1] 27 (0, 0)) := by rw [k5.block _ (lt_of_heap hBw) (by simp only [List.mem_singleton]; omega)]; exact hBw
      have hM5 : W5.heap[M]? = some (.cells #[.int .i64 0] 3 (0, 0)) := by rw [k5.block _ (lt_of_heap hMw) (by simp; omega)]; exact hMw
      have x2 : W5.cell? ⟨B, 2, none⟩ = some (.slice (some ⟨M, 0, none⟩) 1 1) := cellB hB5
      have q2 : W5.cell? ⟨B + 1 + 1, 2, none⟩ = some (.slice none 0 0) := cellB hb5
      obtain ⟨m, cm, mur, w6, hr6, hm6, hc6, k6, hms, hcm⟩ := app_int1 hM5
      have HAp : Hid (_) := hr6
      have hb6 : w6.heap[B + 1 + 1]? = some (.cells #[.slice (some ⟨g, 0, none⟩) 1 cg, .slice none 0 0, .slice none 0 0] 27 (0, 0)) := by rw [k6.block _ (lt_of_heap hb5) (by simp)]; exact hb5
      have q6 : w6.cell? ⟨B + 1 + 1, 2, none⟩ = some (.slice none 0 0) := cellB hb6
      have z6 : w6.frozen? ⟨B + 1 + 1, 2, none⟩ = false := by simp [World.frozen?, hb6]
      obtain ⟨W7, hW7⟩ : ∃ W7, w6.setCell ⟨B + 1 + 1, 2, none⟩ (.slice (some ⟨m, 0, none⟩) 1 cm) = W7 := ⟨_, rfl⟩
      have k7 : Kept [B + 1 + 1] w6 W7 := by rw [← hW7]; exact (Kept.refl _ _).setCell (Or.inl (by simp)) _
      have hb7 : W7.heap[B + 1 + 1]? = some (.cells #[.slice (some ⟨g, 0, none⟩) 1 cg, .slice none 0 0, .slice (some ⟨m, 0, none⟩) 1 cm] 27 (0, 0)) := by rw [← hW7, Go.heap_setCell_same w6 _ 2 _ _ _ hb6]; rfl
      have hR7 : W7.heap[B + 1]? = some (.cells #[.slice none 0 0, .slice none 0 0, .slice none 0 0] 27 (0, 0)) := by rw [k7.block _ (by have := lt_of_heap hRw; have := k5.size; have := k6.size; omega) (by simp only [List.mem_singleton]; omega), k6.block _ (by have := lt_of_heap hRw; have := k5.size; omega) (by simp), k5.block _ (lt_of_heap hRw) (by simp only [List.mem_singleton]; omega)]; exact hRw
      have r0 : W7.cell? ⟨B + 1 + 1, 0, none⟩ = some (.slice (some ⟨g, 0, none⟩) 1 cg) := cellB hb7
      have r1 : W7.cell? ⟨B + 1 + 1, 1, none⟩ = some (.slice none 0 0) := cellB hb7
      have r2 : W7.cell? ⟨B + 1 + 1, 2, none⟩ = some (.slice (some ⟨m, 0, none⟩) 1 cm) := cellB hb7
      have s0 : W7.cell? ⟨B + 1, 0, none⟩ = some (.slice none 0 0) := cellB hR7
      have s1 : W7.cell? ⟨B + 1, 1, none⟩ = some (.slice none 0 0) := cellB hR7
      have s2 : W7.cell? ⟨B + 1, 2, none⟩ = some (.slice none 0 0) := cellB hR7
      have sf : ∀ i, W7.frozen? ⟨B + 1, i, none⟩ = false := fun i => by simp [World.frozen?, hR7]
      have sf0 := sf 0
      have sf1 := sf 1
      have sf2 := sf 2
      obtain ⟨W8, hW8⟩ : ∃ W8, ((W7.setCell ⟨B + 1, 0, none⟩ (.slice (some ⟨g, 0, none⟩) 1 cg)).setCell ⟨B + 1, 1, none⟩ (.slice none 0 0)).setCell ⟨B + 1, 2, none⟩ (.slice (some ⟨m, 0, none⟩) 1 cm) = W8 := ⟨_, rfl⟩
      have k8 : Kept [B + 1] W7 W8 := by rw [← hW8]; exact (((Kept.refl [B + 1] W7).setCell (Or.inl (by simp)) _).setCell (Or.inl (by simp)) _).setCell (Or.inl (by simp)) _
      have hR8 : W8.heap[B + 1]? = some (.cells #[.slice (some ⟨g, 0, none⟩) 1 cg, .slice none 0 0, .slice (some ⟨m, 0, none⟩) 1 cm] 27 (0, 0)) := by
        have e1 : (W7.setCell ⟨B + 1, 0, none⟩ (.slice (some ⟨g, 0, none⟩) 1 cg)).heap[B + 1]? = _ := Go.heap_setCell_same W7 _ 0 _ _ _ hR7
        have e2 : ((W7.setCell ⟨B + 1, 0, none⟩ (.slice (some ⟨g, 0, none⟩) 1 cg)).setCell ⟨B + 1, 1, none⟩ (.slice none 0 0)).heap[B + 1]? = _ := Go.heap_setCell_same _ _ 1 _ _ _ e1
        have e3 : (((W7.setCell ⟨B + 1, 0, none⟩ (.slice (some ⟨g, 0, none⟩) 1 cg)).setCell ⟨B + 1, 1, none⟩ (.slice none 0 0)).setCell ⟨B + 1, 2, none⟩ (.slice (some ⟨m, 0, none⟩) 1 cm)).heap[B + 1]? = _ := Go.heap_setCell_same _ _ 2 _ _ _ e2
        rw [← hW8, e3]; rfl
      have HE : Hid (W8.heap[B + 1]? = some (.cells #[.slice (some ⟨g, 0, none⟩) 1 cg, .slice none 0 0, .slice (some ⟨m, 0, none⟩) 1 cm] 27 (0, 0)) ∧ Copied w (.returned (.agg #[.slice (some ⟨g, 0, none⟩) 1 cg, .slice none 0 0, .slice (some ⟨m, 0, none⟩) 1 cm])) W8) := by
        have hsz := HB.out
        have hg5 : W5.heap[g]? = some (.cells cur 31 (0, 0)) := by rw [k5.block _ (lt_of_heap hg) (by simp only [List.mem_singleton]; omega)]; exact hg
        have hg6 : w6.heap[g]? = some (.cells cur 31 (0, 0)) := by rw [k6.block _ (lt_of_heap hg5) (by simp)]; exact hg5
        have hm1 : B + 1 + 1 < m := by have := lt_of_heap hb5; omega
        have hg7 : W7.heap[g]? = some (.cells cur 31 (0, 0)) := by rw [k7.block _ (lt_of_heap hg6) (by simp only [List.mem_singleton]; omega)]; exact hg6
        have hm7 : W7.heap[m]? = some (.cells mur 3 (0, 0)) := by rw [k7.block _ (lt_of_heap hm6) (by simp only [List.mem_singleton]; omega)]; exact hm6
        refine ⟨hR8, g, cg, cur, e0, m, cm, mur, rfl, ?_, hcur, ?_, hc6, ?_, ?_, by omega, hcg, hcm⟩
        · rw [k8.block _ (lt_of_heap hg7) (by simp only [List.mem_singleton]; omega)]; exact hg7
        · rw [k8.block _ (lt_of_heap hm7) (by simp only [List.mem_singleton]; omega)]; exact hm7
        · exact (((kw.trans k5 (fun x hx => Or.inr (by simp at hx; omega))).trans k6 (by simp)).trans k7 (fun x hx => Or.inr (by simp at hx; omega))).trans k8 (fun x hx => Or.inr (by simp at hx; omega))
        · have := lt_of_heap hg5; omega
      have HW7 : Hid (_) := hW7
      have HW8 : Hid (_) := hW8
      clear hap x1 q1 z1 hR8 hW8 k8 k7 k6 hb7 hb6 hm6 hc6 hms hcm hr6 hR7 sf
      go_wp2_with (at_builtin; refine wpList_append_run _ rfl _ _ 25 25 rfl _ _ rfl rfl _ _ HAp.out ?_)
      clear HAp x2 q2
      (try simp only [Exit.inBlock, Exit.then])
      refine bodyPost_ret (results_cell_row rfl _ _ (B + 1) 27 _ (0, 0) _ rfl (by first | exact HE.out.1 | (rw [HW8.out]; exact HE.out.1)) Tryd.underlying27 rfl (by kernel_rfl)) rfl ?_
      first | exact HE.out.2 | (rw [HW8.out]; exact HE.out.2)

end Go.Proofs.YtgfdcnjnkljahaaDoor
