/-
  The findings of a look: Swap, Push.
-/
import Derived.Test.YtgfdcnjnkljahaaDoorXb
import Derived.Deep.RegionLaw
namespace Go.Proofs.YtgfdcnjnkljahaaDoor
open Go.RowKit Go.Lib
set_option linter.unusedVariables false

/-- One cell of the row turned. -/
theorem row_set {w : World} {H : Nat} {g n c : Nat} {xs : List Value} (h : w.ownsRow H 42 3 (.slice (some ⟨g, 0, none⟩) n c) n xs) (k : Nat) (u : Value) (hu : u.oneCell' = true) (hk : k < n * 3) :
    (w.setCell ⟨g, k, none⟩ u).ownsRow H 42 3 (.slice (some ⟨g, 0, none⟩) n c) n (xs.set k u) := by
  obtain ⟨h1, h2⟩ := h
  rcases h2 with ⟨h3, h4⟩ | ⟨g', cap, cur, h3, h4, h5, h6, h7, h8, h9⟩
  · cases h3
  · injection h3 with e1 e2 e3
    injection e1 with e1
    injection e1 with e1
    subst e1 e3
    refine ⟨by simpa using h1, Or.inr ⟨g, c, cur.setIfInBounds k u, rfl, h4, ?_, h6, h7, by simpa using h8, ?_⟩⟩
    · rw [Go.heap_setCell_same w g k cur _ u h5]
    · rw [Array.toList_setIfInBounds, List.take_set, h9]

theorem Tl.cell {F : List Nat} {w0 w : World} {X : Nat} {q : Lq} {g n c : Nat} {L : List Fi} (h : Tl F w0 X q w (.slice (some ⟨g, 0, none⟩) n c) L) : n = L.length := by
  rcases h.form with ⟨h1, -⟩ | ⟨g', cap, cur, h1, -⟩
  · cases h1
  · injection h1

theorem Tl.put {F : List Nat} {w0 w : World} {X : Nat} {q : Lq} {g c : Nat} {L : List Fi} (h : Tl F w0 X q w (.slice (some ⟨g, 0, none⟩) L.length c) L) (i : Nat) (hi : i < L.length) (f : Fi) :
    Tl F w0 X q (((w.setCell ⟨g, i * 3, none⟩ (.int .i64 f.kind)).setCell ⟨g, i * 3 + 1, none⟩ (.int .i64 f.num)).setCell ⟨g, i * 3 + 2, none⟩ (.string f.name)) (.slice (some ⟨g, 0, none⟩) L.length c) (L.set i f) := by
  obtain ⟨hX, hg⟩ := h.own g rfl
  refine ⟨((h.kept.setCell hg _).setCell hg _).setCell hg _, h.inF, ?_, ?_, h.own⟩
  · rw [Below.heap_setCell _ _ _ _ (fun e => by simp at e; omega), Below.heap_setCell _ _ _ _ (fun e => by simp at e; omega), Below.heap_setCell _ _ _ _ (fun e => by simp at e; omega)]
    exact h.blk
  · have r1 := row_set h.row (i * 3) (.int .i64 f.kind) rfl (by omega)
    have r2 := row_set r1 (i * 3 + 1) (.int .i64 f.num) rfl (by omega)
    have r3 := row_set r2 (i * 3 + 2) (.string f.name) rfl (by omega)
    rw [List.length_set, fcs_set L i f hi]
    exact r3

/-- Two findings change their places. -/
def swapL (L : List Fi) (i j : Nat) : List Fi :=
  match L[i]?, L[j]? with
  | some x, some y => (L.set i y).set j x
  | _, _ => L

theorem swapL_length (L : List Fi) (i j : Nat) : (swapL L i j).length = L.length := by
  unfold swapL; split <;> simp

theorem swapL_eq (L : List Fi) (i j : Nat) (hi : i < L.length) (hj : j < L.length) : swapL L i j = (L.set i L[j]).set j L[i] := by
  unfold swapL; rw [List.getElem?_eq_getElem hi, List.getElem?_eq_getElem hj]

set_option maxRecDepth 100000 in
set_option maxHeartbeats 4000000 in
theorem t_swap {F : List Nat} {w0 w : World} {X : Nat} {q : Lq} {a : Option Addr} {c : Nat} {L : List Fi} (h : Tl F w0 X q w (.slice a L.length c) L) (i j : Nat) (hi : i < L.length) (hj : j < L.length) :
    Calls Tryd.prog 86 #[.slice a L.length c, .int .i64 (i : Int), .int .i64 (j : Int)] w fun e w' => e = .returned (.tuple #[]) ∧ Tl F w0 X q w' (.slice a L.length c) (swapL L i j) := by
  rw [swapL_eq L i j hi hj]
  obtain ⟨a', c', e1, -, hs⟩ := h.slice
  injection e1 with e2 e3 e4
  subst e2
  obtain ⟨g, rfl, p0, p1, p2, fz⟩ := hs i hi
  obtain ⟨g', e5, q0, q1, q2, -⟩ := hs j hj
  injection e5 with e6
  injection e6 with e7
  subst e7
  have HT : Hid (Tl F w0 X q (((((((w.setCell ⟨g, i * 3, none⟩ (.int .i64 (L[j]).kind)).setCell ⟨g, i * 3 + 1, none⟩ (.int .i64 (L[j]).num)).setCell ⟨g, i * 3 + 2, none⟩ (.string (L[j]).name)).setCell ⟨g, j * 3, none⟩ (.int .i64 (L[i]).kind)).setCell ⟨g, j * 3 + 1, none⟩ (.int .i64 (L[i]).num)).setCell ⟨g, j * 3 + 2, none⟩ (.string (L[i]).name))) (.slice (some ⟨g, 0, none⟩) L.length c) ((L.set i L[j]).set j L[i])) := by
    have h1 := h.put i hi L[j]
    have e : (L.set i L[j]).length = L.length := by simp
    rw [← e] at h1
    have h2 := h1.put j (by rw [e]; exact hj) L[i]
    rw [e] at h2
    exact h2
  by_cases hij : i = j
  · subst hij
    have i0 : (0 : Int) ≤ (i : Int) := by omega
    have i1 : (i : Int) < (L.length : Int) := by omega
    have f0 := fz (i * 3)
    have f1 := fz (i * 3 + 1)
    have f2 := fz (i * 3 + 2)
    clear fz hs h q0 q1 q2
    go_enter Tryd.func86, Tryd.ntmps86
    go_upto_region 0 with fail
    go_region
    go_end0
    exact ⟨rfl, HT.out.drew⟩
  · have i0 : (0 : Int) ≤ (i : Int) := by omega
    have i1 : (i : Int) < (L.length : Int) := by omega
    have j0 : (0 : Int) ≤ (j : Int) := by omega
    have j1 : (j : Int) < (L.length : Int) := by omega
    have f0 := fz (i * 3)
    have f1 := fz (i * 3 + 1)
    have f2 := fz (i * 3 + 2)
    have f3 := fz (j * 3)
    have f4 := fz (j * 3 + 1)
    have f5 := fz (j * 3 + 2)
    clear fz hs h
    go_enter Tryd.func86, Tryd.ntmps86
    go_upto_region 0 with fail
    go_region
    go_end0
    exact ⟨rfl, HT.out.drew⟩

theorem infoF : (Tryd.prog.info? 42).map (fun i => (i.zero, i.size, i.bytes)) = some (some (.agg #[.int .i64 0, .int .i64 0, .string ⟨#[]⟩]), 3, 32) := by kernel_rfl

theorem info_parts {t : TypeId} {z : Value} {s b : Nat} (h : (Tryd.prog.info? t).map (fun i => (i.zero, i.size, i.bytes)) = some (some z, s, b)) : ∃ i, Tryd.prog.info? t = some i ∧ i.zero = some z ∧ i.size = s ∧ i.bytes = b := by
  cases hi : Tryd.prog.info? t with
  | none => rw [hi] at h; cases h
  | some i0 => rw [hi] at h; have := Option.some.inj h; simp at this; exact ⟨i0, rfl, this.1, this.2.1, this.2.2⟩

theorem add_lit (b o j : Nat) : (⟨b, o, none⟩ : Addr).add j = ⟨b, o + j, none⟩ := by unfold Addr.add; split <;> simp_all

/-- An append of one finding that lies in a block of its own. -/
theorem append_one {w : World} {H : Nat} {v : Value} {L : List Fi} (h : w.ownsRow H 42 3 v L.length (fcs L)) (hH : H ≤ w.heap.size) (b : Nat) (f : Fi) (hb : w.heap[b]? = some (.cells #[.int .i64 f.kind, .int .i64 f.num, .string f.name] 42 (0, 0))) (hl : L.length < 4000000000000) (ty t : TypeId) (ht : Tryd.prog.underlying t = some (.slice 42)) :
    ∃ g cap w', (Builtin.append_ #[t, t] ty #[v, .slice (some ⟨b, 0, none⟩) 1 1]).run Tryd.prog w = .ok (.slice (some ⟨g, 0, none⟩) (L.length + 1) cap) w' ∧ w'.ownsRow H 42 3 (.slice (some ⟨g, 0, none⟩) (L.length + 1) cap) (L ++ [f]).length (fcs (L ++ [f])) ∧ w.grownBy w' v.ownBlock ∧ (v.ownBlock = some g ∨ g = w.heap.size) ∧ g < w'.heap.size := by
  obtain ⟨i0, hi, hz0, hz1, hz2⟩ := info_parts infoF
  obtain ⟨g, cap, w', hr, h2, h3, h4, h5⟩ := run_append_lies (P := Tryd.prog) w t ty H 42 i0 _ 3 32 ht hi hz0 hz1 hz2 rfl (by omega) v L.length (fcs L) h ⟨b, 0, none⟩ 1 1 (fcs [f]) (by rw [fcs_length]; rfl)
    (fun j u hu => by
      rw [add_lit, Nat.zero_add, cellB hb]
      simpa [fcs] using hu)
    (fcs_one [f]) (by omega) (by unfold maxLen; omega) (by omega) hH w.heap.size rfl
  refine ⟨g, cap, w', hr, ?_, h3, h4, h5⟩
  rw [List.length_append, fcs_append]
  exact h2

/-- A block of one's own. -/
theorem one_box (w : World) (A : Array Value) (t : TypeId) : ∃ U X, Hid (w.alloc (.cells A t (0, 0)) = U ∧ w.heap.size = X) ∧ Kept [] w U ∧ U.heap[X]? = some (.cells A t (0, 0)) :=
  ⟨_, _, ⟨rfl, rfl⟩, (Kept.refl [] w).alloc _, Go.heap_alloc_new _ _⟩

theorem Tl.frozen {F : List Nat} {w0 w : World} {X : Nat} {q : Lq} {v : Value} {L : List Fi} (h : Tl F w0 X q w v L) (i : Nat) : w.frozen? ⟨X, i, none⟩ = false := by simp [World.frozen?, h.blk]

/-- At an append in a drawn region: whatever it does, by its run. -/
theorem step_append_run {P : Program} {ops : Array Oper} {o : Oper} {a : Act} {w : World} {K : Act → World → Prop} {Q : Exit → Act → World → Prop} {E : Prop} (hg : o.guard = none) (s x : Operand) (t1 t2 : TypeId)
    (hop : o.op = Op.call { callee := Callee.builtin Builtin.append, args := #[s, x], argTypes := #[t1, t2] }) (v u : Value) (hs : a.eval s = v) (hx : a.eval x = u) (v' : Value) (w' : World)
    (hrun : (Builtin.append_ #[t1, t2] o.type #[v, u]).run P w = .ok v' w') (hK : K (a.put o.dst v') w') : if Region.wanted o (yielded ops a.tmps) = true then Oper.wp P o a w K Q else E := by
  have hw : Region.wanted o (yielded ops a.tmps) = true := by simp [Region.wanted, hg]
  rw [if_pos hw]
  unfold Oper.wp
  simp [execOp, hop, resolve, invoke, builtin, hs, hx, hrun, Result.andThen]
  exact hK

theorem row_far {w : World} {H X i : Nat} {v u : Value} {n : Nat} {xs : List Value} (h : w.ownsRow H 42 3 v n xs) (hX : v.ownBlock ≠ some X) : (w.setCell ⟨X, i, none⟩ u).ownsRow H 42 3 v n xs := by
  refine ⟨h.1, ?_⟩
  rcases h.2 with hn | ⟨g, cap, cur, rfl, hb, hgg, rest⟩
  · exact .inl hn
  · exact .inr ⟨g, cap, cur, rfl, hb, by rw [Below.heap_setCell _ _ _ _ (fun e => hX (by simp [Value.ownBlock] at e ⊢; exact e))]; exact hgg, rest⟩

set_option maxRecDepth 100000 in
set_option maxHeartbeats 4000000 in
theorem t_push {F : List Nat} {w0 w : World} {X : Nat} {q : Lq} {v : Value} {L : List Fi} (h : Tl F w0 X q w v L) (f : Fi) (hl : L.length < 4000000000000) :
    Calls Tryd.prog 95 #[.pointer (some ⟨X, 7, none⟩), .iface 42 f.v] w fun e w' => e = .returned (.tuple #[]) ∧ ∃ v', Tl F w0 X q w' v' (L ++ [f]) := by
  obtain ⟨U, B, HU, ku, b1⟩ := one_box w #[.int .i64 f.kind, .int .i64 f.num, .string f.name] 42
  have hT := h.same ku
  obtain ⟨a, n, c, rfl⟩ : ∃ a n c, v = .slice a n c := by
    rcases h.form with ⟨h1, -⟩ | ⟨g, cap, cur, h1, -⟩
    · exact ⟨_, _, _, h1⟩
    · exact ⟨_, _, _, h1⟩
  have hta : (Instr.typeAssert (.iface 42 f.v) 20 42 true).run Tryd.prog w = .ok (.tuple #[f.v, .bool true]) w := by kernel_rfl
  have c7 := hT.c7
  have z7 := hT.frozen 7
  have d0 : U.cell? ⟨B, 0, none⟩ = some (.int .i64 f.kind) := cellB b1
  have d1 : U.cell? ⟨B, 1, none⟩ = some (.int .i64 f.num) := cellB b1
  have d2 : U.cell? ⟨B, 2, none⟩ = some (.string f.name) := cellB b1
  have kv := (Kept.refl [] U).alloc (.cells #[.int .i64 f.kind, .int .i64 f.num, .string f.name] 42 (0, 0))
  have hV := (hT.same kv).drew
  have hb : ((U.alloc (.cells #[.int .i64 f.kind, .int .i64 f.num, .string f.name] 42 (0, 0))).drew).heap[U.heap.size]? = some (.cells #[.int .i64 f.kind, .int .i64 f.num, .string f.name] 42 (0, 0)) := Go.heap_alloc_new _ _
  obtain ⟨g, cap, w3, hrun, h2, h3, h4, h5⟩ := append_one hV.row (Nat.zero_le _) U.heap.size f hb hl 55 55 Tryd.underlying55
  have e7 : (U.alloc (.cells #[.int .i64 f.kind, .int .i64 f.num, .string f.name] 42 (0, 0))).cell? ⟨X, 7, none⟩ = some (.slice a n c) := (hT.same kv).c7
  have hbl : w3.heap[X]? = some (.cells (q.cs (.slice a n c)) 57 (0, 0)) := by
    rw [h3.block X (lt_of_heap hV.blk) (fun e => (hV.own X e.symm).1 rfl)]; exact hV.blk
  have y7 : w3.cell? ⟨X, 7, none⟩ = some (.slice a n c) := by rw [cellB hbl]; rfl
  have x7 : w3.frozen? ⟨X, 7, none⟩ = false := by simp [World.frozen?, hbl]
  have HN : Hid (Tl F w0 X q (w3.setCell ⟨X, 7, none⟩ (.slice (some ⟨g, 0, none⟩) (L.length + 1) cap)) (.slice (some ⟨g, 0, none⟩) (L.length + 1) cap) (L ++ [f])) := by
    have hk : Kept F w0 w3 := hV.kept.grown h3 (fun k e => (hV.own k e).2)
    have hg : g ≠ X ∧ (g ∈ F ∨ w0.heap.size ≤ g) := by
      rcases h4 with h4 | h4
      · exact hV.own g h4
      · rw [h4]
        exact ⟨fun e => by have := lt_of_heap hV.blk; omega, Or.inr hV.kept.size⟩
    refine ⟨hk.setCell (Or.inl hV.inF) _, hV.inF, ?_, ?_, fun k hk => by simp [Value.ownBlock] at hk; subst hk; exact hg⟩
    · rw [Go.heap_setCell_same w3 X 7 _ _ _ hbl]; rfl
    · exact row_far h2 (fun e => by simp [Value.ownBlock] at e; exact hg.1 e)
  clear hT h ku b1 kv hV hb h2 h3 h4 h5 hbl
  go_enter Tryd.func95, Tryd.ntmps95
  go_upto_region 2 with fail
  rw [HU.out.1, HU.out.2]
  clear HU hta
  go_region_law
    (refine step_append_run (by rfl) _ _ 55 55 (by rfl) _ _ (by rfl) (by rfl) _ _ hrun ?_)
  all_goals go_wp2
  all_goals go_end0
  all_goals exact ⟨rfl, _, HN.out⟩

end Go.Proofs.YtgfdcnjnkljahaaDoor
