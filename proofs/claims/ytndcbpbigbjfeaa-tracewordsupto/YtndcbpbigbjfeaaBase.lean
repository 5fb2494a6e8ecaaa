/-
  Slices of ints in memory, and rows of ints that the call owns.
-/
import Derived.Test.YtndcbpbigbjfeaaRows
import Derived.WalkKit
import Derived.WalkSpells
import Derived.WalkLawsBesides
import Derived.Deep.Draws
import Derived.Deep.AppendLies
import Derived.Below
import Derived.OwnWalk
import Derived.BigQuiet
import Derived.Deep.QuietTactic
import Derived.Deep.RegionHeld3
import Derived.Deep.RegionLaw
import Derived.Laws.MakeOwn
import Derived.Maps.AppendAt
namespace Go.Proofs.Ytndcbpbigbjfeaa
open Go.RowKit
set_option linter.unusedSimpArgs false
set_option linter.unusedVariables false

theorem info3 : (Try.prog.info? 3).map (fun i => (i.zero, i.size, i.bytes)) = some (some (.int .i64 0), 1, 8) := by kernel_rfl

theorem info24 : (Try.prog.info? 24).map (fun i => (i.zero, i.size, i.bytes)) = some (some (.slice none 0 0), 1, 24) := by kernel_rfl
theorem info35 : (Try.prog.info? 35).map (fun i => (i.size, i.bytes)) = some (2, 16) := by kernel_rfl

theorem lt_of_heap {w : World} {k : Nat} {o : Obj} (h : w.heap[k]? = some o) : k < w.heap.size := (Array.getElem?_eq_some_iff.1 h).1

/-- All of w is in w' as it was. -/
abbrev Still (w w' : World) : Prop := Below w.heap.size w w'

theorem Still.trans {B : Nat} {a b c : World} (h : Below B a b) (k : Still b c) (hB : B ≤ b.heap.size) : Below B a c := Below.trans h (Below.mono k hB)

theorem Still.then {a b c : World} (h : Still a b) (k : Still b c) : Still a c := Still.trans h k h.size

theorem Below.drewN {B : Nat} {a w : World} (h : Below B a w) (n : Nat) : Below B a (w.drewN n) := ⟨h.os, h.tape, h.output, h.size, h.block⟩

theorem cell_still {w w' : World} (h : Still w w') {p : Addr} {v : Value} (hc : w.cell? p = some v) : w'.cell? p = some v := by
  rw [Below.cell h (World.block_lt_of_cell? w p hc)]; exact hc

theorem add_lit (g j : Nat) : (⟨g, 0, none⟩ : Addr).add j = ⟨g, j, none⟩ := by unfold Addr.add; split <;> simp_all

/-- A slice of ints that can be read. -/
def Il (w : World) (a : Option Addr) (n : Nat) (Z : Nat → Int) : Prop := ∀ i, i < n → ∃ b off, a = some ⟨b, off, none⟩ ∧ w.cell? ⟨b, off + i, none⟩ = some (.int .i64 (Z i))

theorem Il.still {w w' : World} {a : Option Addr} {n : Nat} {Z : Nat → Int} (h : Il w a n Z) (k : Still w w') : Il w' a n Z := fun i hi => by
  obtain ⟨b, off, h1, h2⟩ := h i hi
  exact ⟨b, off, h1, cell_still k h2⟩

theorem Il.congr {w : World} {a : Option Addr} {n : Nat} {Z Y : Nat → Int} (h : Il w a n Z) (e : ∀ i, i < n → Z i = Y i) : Il w a n Y := fun i hi => by
  obtain ⟨b, off, h1, h2⟩ := h i hi
  exact ⟨b, off, h1, by rw [← e i hi]; exact h2⟩

/-- A row of ints of the call's own, in a block from H on. -/
def Own (w : World) (H : Nat) (v : Value) (xs : List Int) : Prop := w.ownsRow H 3 1 v xs.length (xs.map (Value.int .i64))

theorem Own.nil (w : World) (H : Nat) : Own w H (.slice none 0 0) [] := World.ownsRow_nil w H 3 1

theorem Own.form {w : World} {H : Nat} {v : Value} {xs : List Int} (h : Own w H v xs) : (v = .slice none 0 0 ∧ xs = []) ∨
    ∃ g cap cur, v = .slice (some ⟨g, 0, none⟩) xs.length cap ∧ H ≤ g ∧ w.heap[g]? = some (.cells cur 3 (0, 0)) ∧ xs.length ≤ cap ∧ cap ≤ maxLen ∧ cur.size = cap ∧ cur.toList.take xs.length = xs.map (Value.int .i64) := by
  rcases h.2 with ⟨h1, h2⟩ | ⟨g, cap, cur, h1, h2, h3, h4, h5, h6, h7⟩
  · exact Or.inl ⟨h1, List.eq_nil_of_length_eq_zero h2⟩
  · exact Or.inr ⟨g, cap, cur, h1, h2, h3, h4, h5, by simpa using h6, by simpa using h7⟩

theorem Own.block {w : World} {H : Nat} {v : Value} {xs : List Int} (h : Own w H v xs) : ∀ k, v.ownBlock = some k → H ≤ k ∧ k < w.heap.size := World.ownsRow.lt h

/-- One more int. -/
theorem Own.more {w' : World} {H : Nat} {v : Value} {xs : List Int} {y : Int} (h : w'.ownsRow H 3 1 v (xs.length + 1) (xs.map (Value.int .i64) ++ [.int .i64 y])) : Own w' H v (xs ++ [y]) := by
  have := h
  simpa [Own] using this

theorem Own.il {w : World} {H : Nat} {a : Option Addr} {n cap : Nat} {xs : List Int} (h : Own w H (.slice a n cap) xs) : n = xs.length ∧ Il w a n (fun i => xs.getD i 0) := by
  rcases h.form with ⟨h1, h2⟩ | ⟨g, c, cur, h1, h2, h3, h4, h5, h6, h7⟩
  · simp only [Value.slice.injEq] at h1
    obtain ⟨rfl, rfl, rfl⟩ := h1
    subst h2
    exact ⟨rfl, fun i hi => by omega⟩
  · simp only [Value.slice.injEq] at h1
    obtain ⟨rfl, rfl, rfl⟩ := h1
    refine ⟨rfl, fun i hi => ⟨g, 0, rfl, ?_⟩⟩
    have e : cur[i]? = some (.int .i64 (xs.getD i 0)) := by
      have h8 : (cur.toList.take xs.length)[i]? = some (.int .i64 (xs.getD i 0)) := by
        rw [h7]; simp [hi]
      rw [List.getElem?_take_of_lt hi] at h8
      simpa using h8
    simp [World.cell?, h3, e]

theorem Own.isSlice {w : World} {H : Nat} {v : Value} {xs : List Int} (h : Own w H v xs) : ∃ a cap, v = .slice a xs.length cap := by
  rcases h.form with ⟨h1, h2⟩ | ⟨g, c, cur, h1, h2, h3, h4, h5, h6, h7⟩
  · subst h2; exact ⟨none, 0, h1⟩
  · exact ⟨_, c, h1⟩

/-- What is below H is no matter to it. -/
theorem Own.same {w w' : World} {H : Nat} {v : Value} {xs : List Int} (h : Own w H v xs) (hk : ∀ k, v.ownBlock = some k → w'.heap[k]? = w.heap[k]?) : Own w' H v xs := by
  refine ⟨h.1, ?_⟩
  rcases h.2 with hn | ⟨g, cap, cur, rfl, hb, hgg, rest⟩
  · exact .inl hn
  · exact .inr ⟨g, cap, cur, rfl, hb, by rw [hk g rfl]; exact hgg, rest⟩

theorem Own.still {w w' : World} {H : Nat} {v : Value} {xs : List Int} (h : Own w H v xs) (k : Still w w') : Own w' H v xs :=
  h.same fun x hx => k.block x (h.block x hx).2

theorem Own.mono {w : World} {H H' : Nat} {v : Value} {xs : List Int} (h : Own w H v xs) (hH : H' ≤ H) : Own w H' v xs := by
  refine ⟨h.1, ?_⟩
  rcases h.2 with hn | ⟨g, cap, cur, hv, hb, rest⟩
  · exact .inl hn
  · exact .inr ⟨g, cap, cur, hv, by omega, rest⟩

/-- A cell of it is another now. -/
theorem Own.set {w : World} {H g n cap : Nat} {xs : List Int} (h : Own w H (.slice (some ⟨g, 0, none⟩) n cap) xs) (c : Nat) (hc : c < xs.length) (y : Int) :
    Own (w.setCell ⟨g, c, none⟩ (.int .i64 y)) H (.slice (some ⟨g, 0, none⟩) n cap) (xs.set c y) := by
  rcases h.form with ⟨h1, h2⟩ | ⟨g', c', cur, h1, h2, h3, h4, h5, h6, h7⟩
  · cases h1
  · simp only [Value.slice.injEq, Option.some.injEq, Addr.mk.injEq, and_true] at h1
    obtain ⟨rfl, rfl, rfl⟩ := h1
    refine ⟨by simp, .inr ⟨g, cap, cur.setIfInBounds c (.int .i64 y), by simp, h2, heap_setCell_same w g c cur 3 _ h3, by simpa using h4, h5, by simpa using h6, ?_⟩⟩
    simp only [List.length_set, Nat.mul_one, Array.toList_setIfInBounds, List.map_set]
    rw [← h7]
    apply List.ext_getElem?
    intro i
    simp only [List.getElem?_take, List.getElem?_set]
    split
    · have : i < cap := by omega
      simp_all
    · simp_all

theorem Own.cell {w : World} {H g n cap : Nat} {xs : List Int} (h : Own w H (.slice (some ⟨g, 0, none⟩) n cap) xs) (c : Nat) (hc : c < xs.length) :
    w.cell? ⟨g, c, none⟩ = some (.int .i64 (xs.getD c 0)) ∧ w.frozen? ⟨g, c, none⟩ = false ∧ H ≤ g := by
  obtain ⟨h1, h2⟩ := h.il
  obtain ⟨b, off, h3, h4⟩ := h2 c (by omega)
  simp only [Option.some.injEq, Addr.mk.injEq, and_true] at h3
  obtain ⟨rfl, rfl⟩ := h3
  refine ⟨by simpa using h4, ?_, (h.block g rfl).1⟩
  rcases h.form with ⟨h1, h2⟩ | ⟨g', c', cur, h1, h2, h3, h4, h5, h6, h7⟩
  · cases h1
  · simp only [Value.slice.injEq, Option.some.injEq, Addr.mk.injEq, and_true] at h1
    obtain ⟨rfl, rfl, rfl⟩ := h1
    simp [World.frozen?, h3]

/-- The first m of it. -/
theorem Own.first {w : World} {H g n cap : Nat} {xs : List Int} (h : Own w H (.slice (some ⟨g, 0, none⟩) n cap) xs) (m : Nat) (hm : m ≤ xs.length) : Own w H (.slice (some ⟨g, 0, none⟩) m cap) (xs.take m) := by
  rcases h.form with ⟨h1, h2⟩ | ⟨g', c', cur, h1, h2, h3, h4, h5, h6, h7⟩
  · cases h1
  · simp only [Value.slice.injEq, Option.some.injEq, Addr.mk.injEq, and_true] at h1
    obtain ⟨rfl, rfl, rfl⟩ := h1
    have hl : (xs.take m).length = m := by simp; omega
    refine ⟨by simp, .inr ⟨g, cap, cur, by rw [hl], h2, h3, by rw [hl]; omega, h5, by simpa using h6, ?_⟩⟩
    rw [hl, Nat.mul_one, List.map_take, ← h7, List.take_take, Nat.min_eq_left hm]

/-- At an append: whatever it does, by its run. -/
theorem wpList_append_run {P : Program} (w : World) {ops : Array Oper} {rest : List Oper} {o : Oper} {a : Act} {Q : Exit → Act → World → Prop} (hgd : o.guard = none) (s x : Operand) (t1 t2 : TypeId)
    (ho : o.op = .call { callee := .builtin .append, args := #[s, x], argTypes := #[t1, t2] }) (v u : Value) (hs : a.eval s = v) (hx : a.eval x = u) (v' : Value) (w' : World)
    (hr : (Builtin.append_ #[t1, t2] o.type #[v, u]).run P w = .ok v' w') (h : wpList P ops Q rest (a.put o.dst v') w') : wpList P ops Q (o :: rest) a w := by
  refine wpList_plain hgd fun K hK => ?_
  unfold Oper.wp execOp
  simp only [ho, resolve, invoke, builtin, Sem.run_bind, Sem.run_pure, Result.andThen_ok, List.map_toArray, List.map_cons, List.map_nil, hs, hx, hr]
  exact hK _ _ h

/-- 'append' of nothing onto what is empty. -/
theorem run_append_none {t e : TypeId} (ht : Try.prog.underlying t = some (.slice e)) (he : (Try.prog.info? e).map (fun i => i.size) = some 1) (ty : TypeId) (w : World) (g : Nat) (a : Option Addr) (c : Nat) :
    (Builtin.append_ #[t, t] ty #[.slice (some ⟨g, 0, none⟩) 0 0, .slice a 0 c]).run Try.prog w = .ok (.slice (some ⟨g, 0, none⟩) 0 0) w := by
  obtain ⟨i, hi, -⟩ := Option.map_eq_some_iff.1 he
  cases a with
  | none => simp [Builtin.append_, run_underlying ht, sizeOf, typeInfo, hi, Builtin.lenOf, Builtin.firstCells, storeCells]
  | some a => simp [Builtin.append_, run_underlying ht, sizeOf, typeInfo, hi, Builtin.lenOf, Builtin.firstCells, loadCells, loadCellsFrom, storeCells]

theorem ints_oneCell (xs : List Int) : ∀ u ∈ xs.map (Value.int .i64), u.oneCell' = true := by
  intro u hu
  simp only [List.mem_map] at hu
  obtain ⟨a, _, rfl⟩ := hu
  rfl

/-- A slice of ints that can be read: its ints, and room enough. -/
def Rd (w : World) (v : Value) (X : List Int) : Prop := ∃ a c, v = .slice a X.length c ∧ X.length ≤ c ∧ Il w a X.length (fun i => X.getD i 0)

theorem Rd.still {w w' : World} {v : Value} {X : List Int} (h : Rd w v X) (k : Still w w') : Rd w' v X := by
  obtain ⟨a, c, h1, h2, h3⟩ := h
  exact ⟨a, c, h1, h2, h3.still k⟩

theorem Own.rd {w : World} {H : Nat} {v : Value} {X : List Int} (h : Own w H v X) : Rd w v X := by
  rcases h.form with ⟨h1, rfl⟩ | ⟨g, c, cur, h1, h2, h3, h4, -⟩
  · exact ⟨none, 0, h1, Nat.le_refl _, fun i hi => by simp at hi⟩
  · subst h1
    exact ⟨_, c, rfl, h4, h.il.2⟩

/-- The first of it, and the rest. -/
theorem Rd.cons {w : World} {v : Value} {x : Int} {X : List Int} (h : Rd w v (x :: X)) : ∃ b off c, v = .slice (some ⟨b, off, none⟩) (X.length + 1) (c + 1) ∧ X.length ≤ c ∧ w.cell? ⟨b, off, none⟩ = some (.int .i64 x) ∧
    ∀ p : Option Addr, (c ≠ 0 → p = some ⟨b, off + 1, none⟩) → Rd w (.slice p X.length c) X := by
  obtain ⟨a, c, h1, h2, h3⟩ := h
  simp only [List.length_cons] at h1 h2 h3
  obtain ⟨b, off, rfl, hc⟩ := h3 0 (by omega)
  obtain ⟨c, rfl⟩ : ∃ k, c = k + 1 := ⟨c - 1, by omega⟩
  refine ⟨b, off, c, h1, by omega, by simpa using hc, fun p hp => ⟨p, c, rfl, by omega, fun i hi => ?_⟩⟩
  obtain ⟨b', off', e, hc'⟩ := h3 (i + 1) (by omega)
  simp only [Option.some.injEq, Addr.mk.injEq, and_true] at e
  obtain ⟨rfl, rfl⟩ := e
  refine ⟨b, off + 1, hp (by omega), ?_⟩
  rw [show off + 1 + i = off + (i + 1) from by omega]
  simpa using hc'

theorem Rd.nil {w : World} {v : Value} (h : Rd w v []) : ∃ a c, v = .slice a 0 c := by
  obtain ⟨a, c, h1, -⟩ := h
  exact ⟨a, c, h1⟩

/-- One of it. -/
theorem Rd.at {w : World} {a : Option Addr} {n c : Nat} {X : List Int} (h : Rd w (.slice a n c) X) {i : Nat} (hi : i < X.length) : n = X.length ∧ ∃ b off, a = some ⟨b, off, none⟩ ∧ w.cell? ⟨b, off + i, none⟩ = some (.int .i64 (X.getD i 0)) := by
  obtain ⟨a', c', h1, h2, h3⟩ := h
  simp only [Value.slice.injEq] at h1
  obtain ⟨rfl, rfl, rfl⟩ := h1
  exact ⟨rfl, h3 i hi⟩

/-- An append of a slice's ints. -/
theorem append_any {w : World} {H : Nat} {v u : Value} {xs ys : List Int} (h : Own w H v xs) (hu : Rd w u ys) (hH : H ≤ w.heap.size) (hb : (xs.length + ys.length) * 8 ≤ 140737488355328) (ty : TypeId) :
    ∃ v' w', (Builtin.append_ #[24, 24] ty #[v, u]).run Try.prog w = .ok v' w' ∧ Own w' H v' (xs ++ ys) ∧ w.grownBy w' v.ownBlock ∧ (v'.ownBlock = v.ownBlock ∨ v'.ownBlock = some w.heap.size) := by
  obtain ⟨i0, hi, hz0, hz1, hz2⟩ := info_parts info3
  obtain ⟨a, c, rfl, hc, hl⟩ := hu
  by_cases h0 : ys = []
  · subst h0
    refine ⟨v, w, ?_, by simpa using h, ⟨rfl, rfl, rfl, Nat.le_refl _, fun _ _ _ => rfl⟩, Or.inl rfl⟩
    have h3 : i0.size = 1 := hz1
    rcases h.form with ⟨rfl, rfl⟩ | ⟨g, cap, cur, rfl, h2, -, h4, -⟩
    · cases a <;> simp [Builtin.append_, run_underlying Try.underlying24, sizeOf, typeInfo, hi, Builtin.lenOf, Builtin.firstCells, storeCells, loadCells, loadCellsFrom]
    · have h5 : ¬ (cap < xs.length) := by omega
      cases a <;> simp [Builtin.append_, run_underlying Try.underlying24, sizeOf, typeInfo, hi, Builtin.lenOf, Builtin.firstCells, storeCells, loadCells, loadCellsFrom, h4]
  · obtain ⟨b, off, rfl, -⟩ := hl 0 (List.length_pos_iff.2 h0)
    obtain ⟨v', w', hr, h2, h3, _, h5⟩ := run_append_own_at (P := Try.prog) w H 24 ty 3 i0 (.int .i64 0) 1 8 Try.underlying24 hi hz0 hz1 hz2 rfl (by omega) v xs.length (xs.map (Value.int .i64)) h ⟨b, off, none⟩ ys.length c (ys.map (Value.int .i64)) (by simp)
      (fun j u hu => by
        have hj : j < ys.length := by
          rcases Nat.lt_or_ge j ys.length with h1 | h1
          · exact h1
          · rw [List.getElem?_eq_none (by simpa using h1)] at hu; cases hu
        obtain ⟨b', off', e, hc'⟩ := hl j hj
        simp only [Option.some.injEq, Addr.mk.injEq, and_true] at e
        obtain ⟨rfl, rfl⟩ := e
        rw [show (⟨b, off, none⟩ : Addr).add j = ⟨b, off + j, none⟩ from by unfold Addr.add; split <;> simp_all, hc', ← hu]
        simp [hj])
      (ints_oneCell ys) (by unfold maxLen; omega) hb hH
    refine ⟨v', w', hr, ?_, h3, h5⟩
    unfold Own
    rw [List.length_append, List.map_append]
    exact h2

end Go.Proofs.Ytndcbpbigbjfeaa
