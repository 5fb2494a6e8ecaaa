/-
  Package oplog: New, Add.
-/
import Derived.Test.YtlecpeofjabndaaLh
import Derived.BigQuiet
namespace Go.Proofs.Ytlecpeofjabndaa
open Go.RowKit
set_option linter.unusedVariables false
set_option linter.unusedSimpArgs false

/-- An append as a step of a region that draws, by its run. -/
theorem step_append_run9 {P : Program} {ops : Array Oper} {o : Oper} {a : Act} {w : World} {K : Act → World → Prop} {Q : Exit → Act → World → Prop} {E : Prop} (hg : o.guard = none) (s x : Operand) (t1 t2 : TypeId)
    (hop : o.op = Op.call { callee := Callee.builtin Builtin.append, args := #[s, x], argTypes := #[t1, t2] }) (v u : Value) (hs : a.eval s = v) (hx : a.eval x = u) (v' : Value) (w' : World)
    (hrun : (Builtin.append_ #[t1, t2] o.type #[v, u]).run P w = .ok v' w') (hK : K (a.put o.dst v') w') : if Region.wanted o (yielded ops a.tmps) = true then Oper.wp P o a w K Q else E := by
  have hw : Region.wanted o (yielded ops a.tmps) = true := by simp [Region.wanted, hg]
  rw [if_pos hw]
  unfold Oper.wp
  simp [execOp, hop, resolve, invoke, builtin, hs, hx, hrun, Result.andThen]
  exact hK

/-- At an append: whatever it does, by its run. -/
theorem wpList_append_run {P : Program} (w : World) {ops : Array Oper} {rest : List Oper} {o : Oper} {a : Act} {Q : Exit → Act → World → Prop} (hgd : o.guard = none) (s x : Operand) (t1 t2 : TypeId)
    (ho : o.op = .call { callee := .builtin .append, args := #[s, x], argTypes := #[t1, t2] }) (v u : Value) (hs : a.eval s = v) (hx : a.eval x = u) (v' : Value) (w' : World)
    (hr : (Builtin.append_ #[t1, t2] o.type #[v, u]).run P w = .ok v' w') (h : wpList P ops Q rest (a.put o.dst v') w') : wpList P ops Q (o :: rest) a w := by
  refine wpList_plain hgd fun K hK => ?_
  unfold Oper.wp execOp
  simp only [ho, resolve, invoke, builtin, Sem.run_bind, Sem.run_pure, Result.andThen_ok, List.map_toArray, List.map_cons, List.map_nil, hs, hx, hr]
  exact hK _ _ h

theorem info66 : (Try.prog.info? 66).map (fun i => (i.zero, i.size, i.bytes)) = some (some (.agg #[.slice none 0 0, .int .i64 0, .int .i64 0]), 3, 40) := by kernel_rfl

/-- New logs; the first j last stamps are set. -/
def freshC (n j : Nat) : List Co := (List.range n).map fun i => ⟨.slice none 0 0, [], 0, if i < j then (i : Int) else 0⟩

theorem freshC_length (n j : Nat) : (freshC n j).length = n := by simp [freshC]

theorem freshC_get {n j i : Nat} (hi : i < (freshC n j).length) : (freshC n j)[i] = ⟨.slice none 0 0, [], 0, if i < j then (i : Int) else 0⟩ := by simp [freshC]

theorem freshC_step {n j : Nat} (hj : j < n) : (freshC n j).set j ⟨.slice none 0 0, [], 0, (j : Int)⟩ = freshC n (j + 1) := by
  apply List.ext_getElem (by simp [freshC])
  intro i h1 h2
  by_cases e : j = i
  · subst e; simp [freshC]
  · rw [List.getElem_set_ne e, freshC_get, freshC_get]
    by_cases c : i < j
    · rw [if_pos c, if_pos (by omega)]
    · rw [if_neg c, if_neg (by omega)]

theorem mk0 : madeCells #[Value.slice none 0 0, .int .i64 0, .int .i64 0] 0 = (coC (freshC 0 0)).toArray := by kernel_rfl
theorem mk1 : madeCells #[Value.slice none 0 0, .int .i64 0, .int .i64 0] 3 = (coC (freshC 1 0)).toArray := by kernel_rfl
theorem mk2 : madeCells #[Value.slice none 0 0, .int .i64 0, .int .i64 0] 6 = (coC (freshC 2 0)).toArray := by kernel_rfl
theorem mk3 : madeCells #[Value.slice none 0 0, .int .i64 0, .int .i64 0] 9 = (coC (freshC 3 0)).toArray := by kernel_rfl
theorem mk4 : madeCells #[Value.slice none 0 0, .int .i64 0, .int .i64 0] 12 = (coC (freshC 4 0)).toArray := by kernel_rfl
theorem mk5 : madeCells #[Value.slice none 0 0, .int .i64 0, .int .i64 0] 15 = (coC (freshC 5 0)).toArray := by kernel_rfl
theorem mk6 : madeCells #[Value.slice none 0 0, .int .i64 0, .int .i64 0] 18 = (coC (freshC 6 0)).toArray := by kernel_rfl
theorem mk7 : madeCells #[Value.slice none 0 0, .int .i64 0, .int .i64 0] 21 = (coC (freshC 7 0)).toArray := by kernel_rfl
theorem mk8 : madeCells #[Value.slice none 0 0, .int .i64 0, .int .i64 0] 24 = (coC (freshC 8 0)).toArray := by kernel_rfl

theorem make_cores (n : Nat) (h : n ≤ 8) (w : World) : (Instr.makeSlice 62 (.int .i64 (n : Int)) (.int .i64 (n : Int))).run Try.prog w = .ok (.slice (some ⟨w.heap.size, 0, none⟩) n n) (w.alloc (.cells (coC (freshC n 0)).toArray 66 (0, 0))) := by
  obtain ⟨i0, hi, hz0, hz1, hz2⟩ := info_parts info66
  have := run_make (P := Try.prog) w 62 66 i0 _ Try.underlying62 hi hz0 .i64 .i64 n n (by omega) (by omega) (by rw [hz2]; omega) (by omega)
  rw [this]
  have e : madeCells (Value.agg #[.slice none 0 0, .int .i64 0, .int .i64 0]).cells ((n : Int).toNat * i0.size) = (coC (freshC n 0)).toArray := by
    rw [hz1]
    have hc : n = 0 ∨ n = 1 ∨ n = 2 ∨ n = 3 ∨ n = 4 ∨ n = 5 ∨ n = 6 ∨ n = 7 ∨ n = 8 := by omega
    rcases hc with rfl | rfl | rfl | rfl | rfl | rfl | rfl | rfl | rfl
    · exact mk0
    · exact mk1
    · exact mk2
    · exact mk3
    · exact mk4
    · exact mk5
    · exact mk6
    · exact mk7
    · exact mk8
  rw [e]
  simp

theorem coC_fresh {n j : Nat} (hj : j < n) : (((coC (freshC n j)).set (j * 3 + 1) (.int .i64 0)).set (j * 3 + 2) (.int .i64 (j : Int))) = coC (freshC n (j + 1)) := by
  rw [← freshC_step hj, coC_set _ _ _ (by rw [freshC_length]; exact hj)]
  have h0 := (coC_get (freshC n j) j _ (List.getElem?_eq_getElem (by rw [freshC_length]; exact hj))).1
  rw [freshC_get] at h0
  rw [list_set_self (coC (freshC n j)) (j * 3) (.slice none 0 0) h0]

set_option maxRecDepth 100000 in
set_option maxHeartbeats 4000000 in
theorem p_new (n : Nat) (h1 : 1 ≤ n) (h8 : n ≤ 8) (w : World) : Calls Try.prog 7 #[.int .i64 (n : Int)] w fun e w' => ∃ p g, e = .returned (.tuple #[.pointer (some ⟨p, 0, none⟩), .int .i64 0]) ∧ Lo w.heap.size w' p g (freshC n n) ∧ Kept [] w w' := by
  have hm := make_cores n h8 w
  obtain ⟨U, X, HU, HK, HB⟩ := two w (coC (freshC n 0)).toArray #[.slice (some ⟨w.heap.size, 0, none⟩) n n] 66 64
  have i1 : ¬ (n : Int) < 1 := by omega
  have i2 : ¬ (8 : Int) < (n : Int) := by omega
  have i3 : (n : Int) ≤ 8 := by omega
  have i4 : (1 : Int) ≤ (n : Int) := by omega
  have hs : (w.alloc (.cells (coC (freshC n 0)).toArray 66 (0, 0))).heap.size = w.heap.size + 1 := by simp
  go_enter Try.func7, Try.ntmps7
  go_upto_region 4 with fail
  rw [HU.out.1]
  try rw [hs]
  rw [HU.out.2] at HB ⊢
  have c0 : U.cell? ⟨X + 1, 0, none⟩ = some (.slice (some ⟨X, 0, none⟩) n n) := cellB HB.out.2
  clear hm hs
  go_wp2_with fail
  clear c0
  go_loopw [21] (fun i wr => ∃ j : Nat, i = .int .i64 (j : Int) ∧ j ≤ n ∧ Hid (wr.heap[X]? = some (.cells (coC (freshC n j)).toArray 66 (0, 0)) ∧ wr.heap[X + 1]? = some (.cells #[.slice (some ⟨X, 0, none⟩) n n] 64 (0, 0)) ∧ Kept [] w wr)) (fun i _ => (n - intOf i).toNat)
  case atStart => exact ⟨0, rfl, by omega, HB.out.1, HB.out.2, HK.out.1⟩
  case round =>
    obtain ⟨j, rfl, hj, HJ⟩ := hrel
    have c0 : wr.cell? ⟨X + 1, 0, none⟩ = some (.slice (some ⟨X, 0, none⟩) n n) := cellB HJ.out.2.1
    by_cases hlt : j < n
    · have j0 : (0 : Int) ≤ (j : Int) := by omega
      have j1 : (j : Int) < (n : Int) := by omega
      have q := coC_get (freshC n j) j _ (List.getElem?_eq_getElem (by rw [freshC_length]; exact hlt))
      have f : ∀ z, wr.cell? ⟨X, z, none⟩ = (coC (freshC n j))[z]? := fun z => by rw [cellB HJ.out.1]; simp
      obtain ⟨qa, c1⟩ : ∃ qa, wr.cell? ⟨X, j * 3 + 1, none⟩ = some (.int .i64 qa) := ⟨_, by rw [f]; exact q.2.1⟩
      obtain ⟨qk, c2⟩ : ∃ qk, wr.cell? ⟨X, j * 3 + 2, none⟩ = some (.int .i64 qk) := ⟨_, by rw [f]; exact q.2.2⟩
      have z1 := frozen_of HJ.out.1 (j * 3 + 1)
      have z2 := frozen_of HJ.out.1 (j * 3 + 2)
      clear q f
      have HJ2 : Hid (((wr.setCell ⟨X, j * 3 + 1, none⟩ (.int .i64 0)).setCell ⟨X, j * 3 + 2, none⟩ (.int .i64 (j : Int))).heap[X]? = some (.cells (coC (freshC n (j + 1))).toArray 66 (0, 0)) ∧ ((wr.setCell ⟨X, j * 3 + 1, none⟩ (.int .i64 0)).setCell ⟨X, j * 3 + 2, none⟩ (.int .i64 (j : Int))).heap[X + 1]? = some (.cells #[.slice (some ⟨X, 0, none⟩) n n] 64 (0, 0)) ∧ Kept [] w ((wr.setCell ⟨X, j * 3 + 1, none⟩ (.int .i64 0)).setCell ⟨X, j * 3 + 2, none⟩ (.int .i64 (j : Int)))) := by
        refine ⟨?_, ?_, ?_⟩
        · rw [block_set (block_set HJ.out.1 _ _) _ _, ← coC_fresh hlt]; simp
        · rw [Below.heap_setCell _ _ _ _ (by show X + 1 ≠ X; omega), Below.heap_setCell _ _ _ _ (by show X + 1 ≠ X; omega)]; exact HJ.out.2.1
        · exact (HJ.out.2.2.setCell (Or.inr HK.out.2.1) _).setCell (Or.inr HK.out.2.1) _
      go_wp2_with fail
      go_roundw
      case rel => exact ⟨j + 1, by go_num, by omega, HJ2.out⟩
      case measure => simp [intOf]; omega
    · have hjn : j = n := by omega
      subst hjn
      have j1 : ¬ (j : Int) < (j : Int) := by omega
      go_wp2_with fail
      go_ret2
      have hL : Lo w.heap.size wr (X + 1) X (freshC j j) := by
       refine ⟨?_, HJ.out.1, ?_, by omega, by have := HK.out.2.2; omega, HK.out.2.1, ?_, ?_, by rw [freshC_length]; omega, by rw [freshC_length]; omega, ?_, ?_⟩
       · rw [HJ.out.2.1, freshC_length]
       · intro i hi; rw [freshC_get]; exact Rr.nil _ _
       · intro i hi x hx; rw [freshC_get] at hx; simp [Value.ownBlock] at hx
       · intro i l hi hl x hil hx; rw [freshC_get] at hx; simp [Value.ownBlock] at hx
       · intro i hi; rw [freshC_get]; simp
       · intro i hi r hr; rw [freshC_get] at hr; simp at hr
      exact ⟨X + 1, rfl, ⟨X, hL⟩, HJ.out.2.2⟩

set_option maxRecDepth 100000 in
set_option maxHeartbeats 4000000 in
theorem p_new_bad (z : Int) (hz : z < 1 ∨ 8 < z) (w : World) : Calls Try.prog 7 #[.int .i64 z] w fun e w' => e = .returned (.tuple #[.pointer none, .int .i64 1700]) ∧ w' = w := by
  by_cases h1 : z < 1
  · have d1 : decide (z < 1) = true := decide_eq_true h1
    go_enter Try.func7, Try.ntmps7
    go_wp2_with fail
    go_ret2
    exact ⟨rfl, rfl⟩
  · have d1 : decide (z < 1) = false := decide_eq_false h1
    have h2 : (8 : Int) < z := by omega
    have d2 : decide ((8 : Int) < z) = true := decide_eq_true h2
    go_enter Try.func7, Try.ntmps7
    go_wp2_with fail
    go_ret2
    exact ⟨rfl, rfl⟩

end Go.Proofs.Ytlecpeofjabndaa
