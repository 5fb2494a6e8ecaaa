/-
  Rows of texts: read, held side by side, and of a call's own.
-/
import Derived.Test.YtgfdcnjnkljahaaDoorSg
import Derived.Maps.AppendAt
namespace Go.Proofs.YtgfdcnjnkljahaaDoor
open Go.RowKit
set_option linter.unusedVariables false

/-- A text of a row (none behind its end). -/
def tx (xs : List ByteArray) (i : Nat) : ByteArray := xs.getD i ⟨#[]⟩

theorem tx_ext {xs ys : List ByteArray} (hl : xs.length = ys.length) (h : ∀ j, j < xs.length → tx xs j = tx ys j) : xs = ys := by
  apply List.ext_getElem hl
  intro i h1 h2
  have := h i h1
  unfold tx at this
  rw [List.getD_eq_getElem?_getD, List.getD_eq_getElem?_getD, List.getElem?_eq_getElem h1, List.getElem?_eq_getElem h2] at this
  exact this

theorem ret_bool {x y : Bool} (h : x = y) : Ending.returned (.bool x) = .returned (.bool y) := by rw [h]

/-- A slice's texts lie there. -/
def Ss (w : World) (a : Option Addr) (xs : List ByteArray) : Prop :=
  xs.length ≤ 9223372036854775807 ∧ ∀ i, i < xs.length → ∃ b off, a = some ⟨b, off, none⟩ ∧ w.cell? ⟨b, off + i, none⟩ = some (.string (tx xs i))

theorem Ss.same {w w' : World} {a : Option Addr} {xs : List ByteArray} (h : Ss w a xs) (hk : ∀ x, a = some x → w'.heap[x.block]? = w.heap[x.block]?) : Ss w' a xs :=
  ⟨h.1, fun i hi => by
    obtain ⟨b, off, rfl, hc⟩ := h.2 i hi
    refine ⟨b, off, rfl, ?_⟩
    have := hk _ rfl
    unfold World.cell? at hc ⊢
    simp only [] at hc ⊢ this
    rw [this]
    exact hc⟩

theorem Ss.lt {w : World} {a : Option Addr} {xs : List ByteArray} (h : Ss w a xs) (hx : xs ≠ []) {x : Addr} (hax : a = some x) : x.block < w.heap.size := by
  obtain ⟨b, off, rfl, hc⟩ := h.2 0 (by cases xs with | nil => exact absurd rfl hx | cons => simp)
  simp at hax
  subst hax
  rcases Nat.lt_or_ge b w.heap.size with h' | h'
  · exact h'
  · simp [World.cell?, Array.getElem?_eq_none h'] at hc

theorem Ss.none {w : World} {a : Option Addr} : Ss w a [] := ⟨by simp, fun i hi => by simp at hi⟩

theorem Ss.kept {w w' : World} {a : Option Addr} {xs : List ByteArray} (h : Ss w a xs) (k : Kept [] w w') : Ss w' a xs := by
  by_cases hx : xs = []
  · subst hx; exact Ss.none
  · exact h.same fun x hax => k.block _ (h.lt hx hax) (by simp)

theorem Ss.drewN {w : World} {a : Option Addr} {xs : List ByteArray} (h : Ss w a xs) (n : Nat) : Ss (w.drewN n) a xs := h

theorem Ss.take {w : World} {a : Option Addr} {xs : List ByteArray} (h : Ss w a xs) (n : Nat) : Ss w a (xs.take n) :=
  ⟨by have := h.1; rw [List.length_take]; omega, fun i hi => by
    rw [List.length_take] at hi
    obtain ⟨b, off, rfl, hc⟩ := h.2 i (by omega)
    refine ⟨b, off, rfl, ?_⟩
    rw [hc]
    congr 2
    unfold tx
    rw [List.getD_eq_getElem?_getD, List.getD_eq_getElem?_getD, List.getElem?_take_of_lt (by omega)]⟩

/-- A row of texts of a call's own, in a block from H on. -/
def Sr (w : World) (H : Nat) (v : Value) (xs : List ByteArray) : Prop := w.ownsRow H 9 1 v xs.length (xs.map Value.string)

theorem Sr.nil (w : World) (H : Nat) : Sr w H (.slice none 0 0) [] := World.ownsRow_nil w H 9 1

theorem Sr.same {w w' : World} {H : Nat} {v : Value} {xs : List ByteArray} (h : Sr w H v xs) (hk : ∀ k, v.ownBlock = some k → w'.heap[k]? = w.heap[k]?) : Sr w' H v xs := by
  refine ⟨h.1, ?_⟩
  rcases h.2 with hn | ⟨g, cap, cur, rfl, hb, hgg, rest⟩
  · exact .inl hn
  · exact .inr ⟨g, cap, cur, rfl, hb, by rw [hk g rfl]; exact hgg, rest⟩

theorem Sr.block {w : World} {H : Nat} {v : Value} {xs : List ByteArray} (h : Sr w H v xs) : ∀ k, v.ownBlock = some k → H ≤ k ∧ k < w.heap.size := World.ownsRow.lt h

theorem Sr.kept {w w' : World} {H : Nat} {v : Value} {xs : List ByteArray} (h : Sr w H v xs) (k : Kept [] w w') : Sr w' H v xs :=
  h.same fun x hx => k.block x (h.block x hx).2 (by simp)

theorem Sr.less {w : World} {H H' : Nat} {v : Value} {xs : List ByteArray} (h : Sr w H v xs) (hH : H' ≤ H) : Sr w H' v xs := by
  refine ⟨h.1, ?_⟩
  rcases h.2 with hn | ⟨g, cap, cur, rfl, hb, rest⟩
  · exact .inl hn
  · exact .inr ⟨g, cap, cur, rfl, by omega, rest⟩

/-- Its form, and its texts. -/
theorem Sr.read {w : World} {H : Nat} {v : Value} {xs : List ByteArray} (h : Sr w H v xs) : ∃ a c, v = .slice a xs.length c ∧ Ss w a xs ∧ ∀ x, a = some x → H ≤ x.block := by
  rcases h.2 with ⟨rfl, h2⟩ | ⟨g, cap, cur, rfl, hb, hgg, h4, h5, h6, h7⟩
  · have : xs = [] := List.eq_nil_of_length_eq_zero h2
    subst this
    exact ⟨_, _, rfl, Ss.none, fun x hx => by cases hx⟩
  · refine ⟨_, _, rfl, ⟨by unfold maxLen at h5; omega, fun i hi => ⟨g, 0, rfl, ?_⟩⟩, fun x hx => by cases hx; exact hb⟩
    rw [Nat.zero_add, cell_of_row _ _ _ _ _ _ hgg]
    have h8 : (cur.toList.take (xs.length * 1))[i]? = (xs.map Value.string)[i]? := by rw [h7]
    rw [List.getElem?_take_of_lt (by omega), Array.getElem?_toList] at h8
    rw [h8]
    unfold tx
    rw [List.getD_eq_getElem?_getD]
    simp [hi]

theorem info9 : (Tryd.prog.info? 9).map (fun i => (i.zero, i.size, i.bytes)) = some (some (.string ⟨#[]⟩), 1, 16) := by kernel_rfl

theorem texts_oneCell (xs : List ByteArray) : ∀ u ∈ xs.map Value.string, u.oneCell' = true := by
  intro u hu
  simp only [List.mem_map] at hu
  obtain ⟨a, _, rfl⟩ := hu
  rfl

/-- An append of texts that lie somewhere. -/
theorem append_texts {w : World} {H : Nat} {v : Value} {xs ys : List ByteArray} (h : Sr w H v xs) (hH : H ≤ w.heap.size) (a : Option Addr) (n c : Nat) (hn : n = ys.length) (hy : Ss w a ys) (ha : a ≠ none) (hb : (xs.length + ys.length) * 16 ≤ 140737488355328) (ty : TypeId) :
    ∃ v' w', (Builtin.append_ #[43, 43] ty #[v, .slice a n c]).run Tryd.prog w = .ok v' w' ∧ Sr w' H v' (xs ++ ys) ∧ w.grownBy w' v.ownBlock := by
  subst hn
  obtain ⟨i0, hi, hz0, hz1, hz2⟩ := info_parts info9
  cases a with
  | none => exact absurd rfl ha
  | some ad =>
    obtain ⟨v', w', hr, h2, h3, _, h5⟩ := run_append_own_at (P := Tryd.prog) w H 43 ty 9 i0 (.string ⟨#[]⟩) 1 16 Tryd.underlying43 hi hz0 hz1 hz2 rfl (by omega) v xs.length (xs.map Value.string) h ad ys.length c (ys.map Value.string) (by simp)
      (fun j u hu => by
        rw [List.getElem?_map] at hu
        rcases Nat.lt_or_ge j ys.length with hj | hj
        · obtain ⟨b, off, e, hc⟩ := hy.2 j hj
          cases e
          have ea : (⟨b, off, none⟩ : Addr).add j = ⟨b, off + j, none⟩ := by unfold Addr.add; split <;> simp_all
          rw [ea, hc]
          unfold tx
          rw [List.getD_eq_getElem?_getD]
          rw [List.getElem?_eq_getElem hj] at hu ⊢
          simpa using hu
        · rw [List.getElem?_eq_none hj] at hu; cases hu)
      (texts_oneCell ys) (by unfold maxLen; omega) hb hH
    refine ⟨v', w', hr, ?_, h3⟩
    unfold Sr
    rw [List.length_append, List.map_append]
    exact h2

/-- An append of one text, built for it. -/
theorem append_text {w : World} {H : Nat} {v : Value} {xs : List ByteArray} (h : Sr w H v xs) (hH : H ≤ w.heap.size) (e : ByteArray) (hb : xs.length + 1 ≤ 1000000) (ty : TypeId) :
    ∃ v' w', (Builtin.append_ #[43, 43] ty #[v, .slice (some ⟨w.heap.size, 0, none⟩) 1 1]).run Tryd.prog (w.alloc (.cells #[.string e] 9)) = .ok v' w' ∧ Sr w' H v' (xs ++ [e]) ∧ Kept v.ownBlock.toList w w' := by
  have hk : Kept [] w (w.alloc (.cells #[.string e] 9)) := (Kept.refl [] w).alloc _
  have hs : Ss (w.alloc (.cells #[.string e] 9)) (some ⟨w.heap.size, 0, none⟩) [e] := ⟨by simp, fun i hi => ⟨_, _, rfl, by
    have : i = 0 := by simpa using hi
    subst this
    rw [cell_of_row _ _ _ _ _ _ (heap_alloc_new w _)]
    rfl⟩⟩
  obtain ⟨v', w', hr, h2, h3⟩ := append_texts (h.kept hk) (by have := hk.size; omega) _ 1 1 rfl hs (by simp) (by simp; omega) ty
  exact ⟨v', w', hr, h2, (hk.mono (by simp)).grown h3 fun x hx => Or.inl (by rw [hx]; simp)⟩

/-- At an append: whatever it does, by its run. -/
theorem wpList_append_run {P : Program} (w : World) {ops : Array Oper} {rest : List Oper} {o : Oper} {a : Act} {Q : Exit → Act → World → Prop} (hgd : o.guard = none) (s x : Operand) (t1 t2 : TypeId)
    (ho : o.op = .call { callee := .builtin .append, args := #[s, x], argTypes := #[t1, t2] }) (v u : Value) (hs : a.eval s = v) (hx : a.eval x = u) (v' : Value) (w' : World)
    (hr : (Builtin.append_ #[t1, t2] o.type #[v, u]).run P w = .ok v' w') (h : wpList P ops Q rest (a.put o.dst v') w') : wpList P ops Q (o :: rest) a w := by
  refine wpList_plain hgd fun K hK => ?_
  unfold Oper.wp execOp
  simp only [ho, resolve, invoke, builtin, Sem.run_bind, Sem.run_pure, Result.andThen_ok, List.map_toArray, List.map_cons, List.map_nil, hs, hx, hr]
  exact hK _ _ h

theorem kept_of_own {w w' : World} {H : Nat} {v : Value} {w0 : World} (h0 : Kept [] w0 w) (h : Kept v.ownBlock.toList w w') (hv : ∀ k, v.ownBlock = some k → w0.heap.size ≤ k) : Kept [] w0 w' :=
  h0.trans h fun x hx => Or.inr (hv x (by simpa using hx))

end Go.Proofs.YtgfdcnjnkljahaaDoor
