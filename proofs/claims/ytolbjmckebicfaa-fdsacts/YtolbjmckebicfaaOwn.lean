/-
  Rows of ints of a call's own: what they look like, and what an append makes of them.
-/
import Derived.Test.YtolbjmckebicfaaHs
import Derived.OwnWalk
namespace Go.Proofs.Ytolbjmckebicfaa
open Go.RowKit

theorem cellB {w : World} {B i : Nat} {cs : Array Value} {t : TypeId} {z : Nat × Nat} (h : w.heap[B]? = some (.cells cs t z)) : w.cell? ⟨B, i, none⟩ = cs[i]? := by
  simp [World.cell?, h]

theorem add_lit (g o j : Nat) : (⟨g, o, none⟩ : Addr).add j = ⟨g, o + j, none⟩ := by unfold Addr.add; split <;> simp_all

/-- A row of ints of the call's own, in a block from H on. -/
def Own (w : World) (H : Nat) (v : Value) (xs : List Int) : Prop := w.ownsRow H 3 1 v xs.length (xs.map (Value.int .i64))

theorem Own.nil (w : World) (H : Nat) : Own w H (.slice none 0 0) [] := World.ownsRow_nil w H 3 1

theorem Own.form {w : World} {H : Nat} {v : Value} {xs : List Int} (h : Own w H v xs) : (v = .slice none 0 0 ∧ xs = []) ∨
    ∃ g cap cur, v = .slice (some ⟨g, 0, none⟩) xs.length cap ∧ H ≤ g ∧ w.heap[g]? = some (.cells cur 3 (0, 0)) ∧ xs.length ≤ cap ∧ cap ≤ maxLen ∧ cur.size = cap ∧ cur.toList.take xs.length = xs.map (Value.int .i64) := by
  rcases h.2 with ⟨h1, h2⟩ | ⟨g, cap, cur, h1, h2, h3, h4, h5, h6, h7⟩
  · exact Or.inl ⟨h1, List.eq_nil_of_length_eq_zero h2⟩
  · exact Or.inr ⟨g, cap, cur, h1, h2, h3, h4, h5, by simpa using h6, by simpa using h7⟩

theorem Own.block {w : World} {H : Nat} {v : Value} {xs : List Int} (h : Own w H v xs) : ∀ k, v.ownBlock = some k → H ≤ k ∧ k < w.heap.size := World.ownsRow.lt h

/-- What a row that is none of nil looks like. -/
theorem Own.lies {w : World} {H g n cap : Nat} {xs : List Int} (h : Own w H (.slice (some ⟨g, 0, none⟩) n cap) xs) : n = xs.length ∧ n ≤ cap ∧ H ≤ g ∧ ∀ i, i < xs.length → w.cell? ⟨g, i, none⟩ = some (.int .i64 (wordAt xs i)) := by
  rcases h.form with ⟨h1, h2⟩ | ⟨g', c', cur, h1, h2, h3, h4, h5, h6, h7⟩
  · cases h1
  · simp only [Value.slice.injEq, Option.some.injEq, Addr.mk.injEq, and_true] at h1
    obtain ⟨rfl, rfl, rfl⟩ := h1
    refine ⟨rfl, h4, h2, fun i hi => ?_⟩
    have e : cur[i]? = some (.int .i64 (wordAt xs i)) := by
      have h8 : (cur.toList.take xs.length)[i]? = some (.int .i64 (wordAt xs i)) := by
        rw [h7]; simp [hi, wordAt]
      rw [List.getElem?_take_of_lt hi] at h8
      simpa using h8
    simp [World.cell?, h3, e]

theorem Own.same {w w' : World} {H : Nat} {v : Value} {xs : List Int} (h : Own w H v xs) (hk : ∀ k, v.ownBlock = some k → w'.heap[k]? = w.heap[k]?) : Own w' H v xs := by
  refine ⟨h.1, ?_⟩
  rcases h.2 with hn | ⟨g, cap, cur, rfl, hb, hgg, rest⟩
  · exact .inl hn
  · exact .inr ⟨g, cap, cur, rfl, hb, by rw [hk g rfl]; exact hgg, rest⟩

theorem Own.kept {w w' : World} {H : Nat} {v : Value} {xs : List Int} (h : Own w H v xs) (k : Kept [] w w') : Own w' H v xs :=
  h.same fun x hx => k.block x (h.block x hx).2 (by simp)

theorem Own.more {w' : World} {H : Nat} {v : Value} {n : Nat} {xs ys : List Int} (hn : n = xs.length + ys.length) (h : w'.ownsRow H 3 1 v n (xs.map (Value.int .i64) ++ ys.map (Value.int .i64))) : Own w' H v (xs ++ ys) := by
  subst hn
  unfold Own
  rw [List.length_append, List.map_append]
  exact h

/-- At an append: whatever it does, by its run. -/
theorem wpList_append_run {P : Program} (w : World) {ops : Array Oper} {rest : List Oper} {o : Oper} {a : Act} {Q : Exit → Act → World → Prop} (hgd : o.guard = none) (s x : Operand) (t1 t2 : TypeId)
    (ho : o.op = .call { callee := .builtin .append, args := #[s, x], argTypes := #[t1, t2] }) (v u : Value) (hs : a.eval s = v) (hx : a.eval x = u) (v' : Value) (w' : World)
    (hr : (Builtin.append_ #[t1, t2] o.type #[v, u]).run P w = .ok v' w') (h : wpList P ops Q rest (a.put o.dst v') w') : wpList P ops Q (o :: rest) a w := by
  refine wpList_plain hgd fun K hK => ?_
  unfold Oper.wp execOp
  simp only [ho, resolve, invoke, builtin, Sem.run_bind, Sem.run_pure, Result.andThen_ok, List.map_toArray, List.map_cons, List.map_nil, hs, hx, hr]
  exact hK _ _ h

/-- 'append' of nothing (nil). -/
theorem run_append_nil {t e : TypeId} (ht : Try.prog.underlying t = some (.slice e)) (he : (Try.prog.info? e).map (fun i => i.size) = some 1) (ty : TypeId) (w : World) (g n cap : Nat) (hn : n ≤ cap) :
    (Builtin.append_ #[t, t] ty #[.slice (some ⟨g, 0, none⟩) n cap, .slice none 0 0]).run Try.prog w = .ok (.slice (some ⟨g, 0, none⟩) n cap) w := by
  obtain ⟨i, hi, -⟩ := Option.map_eq_some_iff.1 he
  simp [Builtin.append_, run_underlying ht, sizeOf, typeInfo, hi, Builtin.lenOf, Builtin.firstCells, storeCells, hn]

theorem ints_oneCell (xs : List Int) : ∀ u ∈ xs.map (Value.int .i64), u.oneCell' = true := by
  intro u hu
  simp only [List.mem_map] at hu
  obtain ⟨a, _, rfl⟩ := hu
  rfl

/-- Where an append's row lies: where it lay, or anew; the rest is as it was. -/
structure Grew (w w' : World) (v v' : Value) : Prop where
  grown : w.grownBy w' v.ownBlock
  at_ : ∀ k, v'.ownBlock = some k → v.ownBlock = some k ∨ w.heap.size ≤ k

/-- An append of a row that lies in memory. -/
theorem append_row {w : World} {H : Nat} {v : Value} {xs : List Int} (h : Own w H v xs) (hH : H ≤ w.heap.size) (b o m c : Nat) (ys : List Int) (hm : m = ys.length) (hy : ∀ i, i < ys.length → w.cell? ⟨b, o + i, none⟩ = some (.int .i64 (wordAt ys i))) (hb : xs.length + m ≤ 1000000) (ty : TypeId) :
    ∃ v' w', (Builtin.append_ #[33, 33] ty #[v, .slice (some ⟨b, o, none⟩) m c]).run Try.prog w = .ok v' w' ∧ Own w' H v' (xs ++ ys) ∧ Grew w w' v v' := by
  subst hm
  obtain ⟨i0, hi, hz0, hz1, hz2⟩ := info_parts info3
  obtain ⟨v', w', hr, h2, h3, _, h5⟩ := run_append_own_at (P := Try.prog) w H 33 ty 3 i0 (.int .i64 0) 1 8 Try.underlying33 hi hz0 hz1 hz2 rfl (by omega) v xs.length (xs.map (Value.int .i64)) h ⟨b, o, none⟩ ys.length c (ys.map (Value.int .i64)) (by simp)
    (fun j u hu => by
      have hj : j < ys.length := by
        rcases Nat.lt_or_ge j ys.length with h1 | h1
        · exact h1
        · rw [List.getElem?_eq_none (by simpa using h1)] at hu; cases hu
      rw [add_lit, hy j hj, ← hu]
      simp [wordAt, hj])
    (ints_oneCell ys) (by unfold maxLen; omega) (by omega) hH
  refine ⟨v', w', hr, Own.more rfl h2, h3, fun k hk => ?_⟩
  rcases h5 with h5 | h5
  · exact Or.inl (h5 ▸ hk)
  · right
    rw [h5] at hk
    simp at hk
    omega

end Go.Proofs.Ytolbjmckebicfaa
