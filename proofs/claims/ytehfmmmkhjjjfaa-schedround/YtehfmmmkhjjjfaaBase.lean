/-
  Slices of bools and of ints in memory, slices of slices of bools, and rows of ints that the call owns.
-/
import Derived.Test.YtehfmmmkhjjjfaaRows
import Derived.WalkKit
import Derived.WalkSpells
import Derived.WalkLawsBesides
import Derived.Deep.Draws
import Derived.Deep.AppendLies
import Derived.Below
import Derived.OwnWalk
import Derived.BigQuiet
import Derived.Deep.QuietTactic
namespace Go.Proofs.Ytehfmmmkhjjjfaa
open Go.RowKit
set_option linter.unusedSimpArgs false
set_option linter.unusedVariables false

theorem info3 : (Try.prog.info? 3).map (fun i => (i.zero, i.size, i.bytes)) = some (some (.int .i64 0), 1, 8) := by kernel_rfl
theorem info4 : (Try.prog.info? 4).map (fun i => (i.zero, i.size, i.bytes)) = some (some (.bool false), 1, 1) := by kernel_rfl
theorem info22 : (Try.prog.info? 22).map (fun i => (i.zero, i.size, i.bytes)) = some (some (.slice none 0 0), 1, 24) := by kernel_rfl

theorem lt_of_heap {w : World} {k : Nat} {o : Obj} (h : w.heap[k]? = some o) : k < w.heap.size := (Array.getElem?_eq_some_iff.1 h).1

/-- All of w is in w' as it was. -/
abbrev Still (w w' : World) : Prop := Below w.heap.size w w'

theorem Still.trans {B : Nat} {a b c : World} (h : Below B a b) (k : Still b c) (hB : B ≤ b.heap.size) : Below B a c := Below.trans h (Below.mono k hB)

theorem Still.then {a b c : World} (h : Still a b) (k : Still b c) : Still a c := Still.trans h k h.size

theorem Below.drewN {B : Nat} {a w : World} (h : Below B a w) (n : Nat) : Below B a (w.drewN n) := ⟨h.os, h.tape, h.output, h.size, h.block⟩

theorem cell_still {w w' : World} (h : Still w w') {p : Addr} {v : Value} (hc : w.cell? p = some v) : w'.cell? p = some v := by
  rw [Below.cell h (World.block_lt_of_cell? w p hc)]; exact hc

theorem add_lit (g j : Nat) : (⟨g, 0, none⟩ : Addr).add j = ⟨g, j, none⟩ := by unfold Addr.add; split <;> simp_all

/-- A slice of bools that can be read. -/
def Bl (w : World) (a : Option Addr) (n : Nat) (B : Nat → Bool) : Prop := ∀ i, i < n → ∃ b off, a = some ⟨b, off, none⟩ ∧ w.cell? ⟨b, off + i, none⟩ = some (.bool (B i))

/-- A slice of ints that can be read. -/
def Il (w : World) (a : Option Addr) (n : Nat) (Z : Nat → Int) : Prop := ∀ i, i < n → ∃ b off, a = some ⟨b, off, none⟩ ∧ w.cell? ⟨b, off + i, none⟩ = some (.int .i64 (Z i))

/-- A slice of slices of bools that can be read. -/
def Gr (w : World) (a : Option Addr) (n : Nat) (L : Nat → Nat) (B : Nat → Nat → Bool) : Prop :=
  ∀ r, r < n → ∃ b off A C, a = some ⟨b, off, none⟩ ∧ w.cell? ⟨b, off + r, none⟩ = some (.slice A (L r) C) ∧ Bl w A (L r) (B r)

theorem Bl.still {w w' : World} {a : Option Addr} {n : Nat} {B : Nat → Bool} (h : Bl w a n B) (k : Still w w') : Bl w' a n B := fun i hi => by
  obtain ⟨b, off, h1, h2⟩ := h i hi
  exact ⟨b, off, h1, cell_still k h2⟩

theorem Il.still {w w' : World} {a : Option Addr} {n : Nat} {Z : Nat → Int} (h : Il w a n Z) (k : Still w w') : Il w' a n Z := fun i hi => by
  obtain ⟨b, off, h1, h2⟩ := h i hi
  exact ⟨b, off, h1, cell_still k h2⟩

theorem Gr.still {w w' : World} {a : Option Addr} {n : Nat} {L : Nat → Nat} {B : Nat → Nat → Bool} (h : Gr w a n L B) (k : Still w w') : Gr w' a n L B := fun i hi => by
  obtain ⟨b, off, A, C, h1, h2, h3⟩ := h i hi
  exact ⟨b, off, A, C, h1, cell_still k h2, h3.still k⟩

theorem Il.congr {w : World} {a : Option Addr} {n : Nat} {Z Y : Nat → Int} (h : Il w a n Z) (e : ∀ i, i < n → Z i = Y i) : Il w a n Y := fun i hi => by
  obtain ⟨b, off, h1, h2⟩ := h i hi
  exact ⟨b, off, h1, by rw [← e i hi]; exact h2⟩

/-- A row of ints of the call's own, in a block from H on. -/
def Own (w : World) (H : Nat) (v : Value) (xs : List Int) : Prop := w.ownsRow H 3 1 v xs.length (xs.map (Value.int .i64))

theorem Own.nil (w : World) (H : Nat) : Own w H (.slice none 0 0) [] := World.ownsRow_nil w H 3 1

theorem Own.form {w : World} {H : Nat} {v : Value} {xs : List Int} (h : Own w H v xs) : (v = .slice none 0 0 ∧ xs = []) ∨
    ∃ g cap cur, v = .slice (some ⟨g, 0, none⟩) xs.length cap ∧ H ≤ g ∧ w.heap[g]? = some (.cells cur 3 (0, 0)) ∧ xs.length ≤ cap ∧ cap ≤ maxLen ∧ cur.size = cap ∧ cur.toList.take xs.length = xs.map (Value.int .i64) := by
  rcases h.2 with ⟨h1, h2⟩ | ⟨g, cap, cur, h1, h2, h3, h4, h5, h6, h7⟩
  · exact Or.inl ⟨h1, List.eq_nil_of_length_eq_zero h2⟩
  · exact Or.inr ⟨g, cap, cur, h1, h2, h3, h4, h5, by simpa using h6, by simpa using h7⟩

theorem Own.block {w : World} {H : Nat} {v : Value} {xs : List Int} (h : Own w H v xs) : ∀ k, v.ownBlock = some k → H ≤ k ∧ k < w.heap.size := World.ownsRow.lt h

/-- One more int. -/
theorem Own.more {w' : World} {H : Nat} {v : Value} {xs : List Int} {y : Int} (h : w'.ownsRow H 3 1 v (xs.length + 1) (xs.map (Value.int .i64) ++ [.int .i64 y])) : Own w' H v (xs ++ [y]) := by
  have := h
  simpa [Own] using this

theorem Own.il {w : World} {H : Nat} {a : Option Addr} {n cap : Nat} {xs : List Int} (h : Own w H (.slice a n cap) xs) : n = xs.length ∧ Il w a n (fun i => xs.getD i 0) := by
  rcases h.form with ⟨h1, h2⟩ | ⟨g, c, cur, h1, h2, h3, h4, h5, h6, h7⟩
  · simp only [Value.slice.injEq] at h1
    obtain ⟨rfl, rfl, rfl⟩ := h1
    subst h2
    exact ⟨rfl, fun i hi => by omega⟩
  · simp only [Value.slice.injEq] at h1
    obtain ⟨rfl, rfl, rfl⟩ := h1
    refine ⟨rfl, fun i hi => ⟨g, 0, rfl, ?_⟩⟩
    have e : cur[i]? = some (.int .i64 (xs.getD i 0)) := by
      have h8 : (cur.toList.take xs.length)[i]? = some (.int .i64 (xs.getD i 0)) := by
        rw [h7]; simp [hi]
      rw [List.getElem?_take_of_lt hi] at h8
      simpa using h8
    simp [World.cell?, h3, e]

theorem Own.isSlice {w : World} {H : Nat} {v : Value} {xs : List Int} (h : Own w H v xs) : ∃ a cap, v = .slice a xs.length cap := by
  rcases h.form with ⟨h1, h2⟩ | ⟨g, c, cur, h1, h2, h3, h4, h5, h6, h7⟩
  · subst h2; exact ⟨none, 0, h1⟩
  · exact ⟨_, c, h1⟩

/-- What is below H is no matter to it. -/
theorem Own.same {w w' : World} {H : Nat} {v : Value} {xs : List Int} (h : Own w H v xs) (hk : ∀ k, v.ownBlock = some k → w'.heap[k]? = w.heap[k]?) : Own w' H v xs := by
  refine ⟨h.1, ?_⟩
  rcases h.2 with hn | ⟨g, cap, cur, rfl, hb, hgg, rest⟩
  · exact .inl hn
  · exact .inr ⟨g, cap, cur, rfl, hb, by rw [hk g rfl]; exact hgg, rest⟩

theorem Own.still {w w' : World} {H : Nat} {v : Value} {xs : List Int} (h : Own w H v xs) (k : Still w w') : Own w' H v xs :=
  h.same fun x hx => k.block x (h.block x hx).2

theorem Own.mono {w : World} {H H' : Nat} {v : Value} {xs : List Int} (h : Own w H v xs) (hH : H' ≤ H) : Own w H' v xs := by
  refine ⟨h.1, ?_⟩
  rcases h.2 with hn | ⟨g, cap, cur, hv, hb, rest⟩
  · exact .inl hn
  · exact .inr ⟨g, cap, cur, hv, by omega, rest⟩

/-- A cell of it is another now. -/
theorem Own.set {w : World} {H g n cap : Nat} {xs : List Int} (h : Own w H (.slice (some ⟨g, 0, none⟩) n cap) xs) (c : Nat) (hc : c < xs.length) (y : Int) :
    Own (w.setCell ⟨g, c, none⟩ (.int .i64 y)) H (.slice (some ⟨g, 0, none⟩) n cap) (xs.set c y) := by
  rcases h.form with ⟨h1, h2⟩ | ⟨g', c', cur, h1, h2, h3, h4, h5, h6, h7⟩
  · cases h1
  · simp only [Value.slice.injEq, Option.some.injEq, Addr.mk.injEq, and_true] at h1
    obtain ⟨rfl, rfl, rfl⟩ := h1
    refine ⟨by simp, .inr ⟨g, cap, cur.setIfInBounds c (.int .i64 y), by simp, h2, heap_setCell_same w g c cur 3 _ h3, by simpa using h4, h5, by simpa using h6, ?_⟩⟩
    simp only [List.length_set, Nat.mul_one, Array.toList_setIfInBounds, List.map_set]
    rw [← h7]
    apply List.ext_getElem?
    intro i
    simp only [List.getElem?_take, List.getElem?_set]
    split
    · have : i < cap := by omega
      simp_all
    · simp_all

theorem Own.cell {w : World} {H g n cap : Nat} {xs : List Int} (h : Own w H (.slice (some ⟨g, 0, none⟩) n cap) xs) (c : Nat) (hc : c < xs.length) :
    w.cell? ⟨g, c, none⟩ = some (.int .i64 (xs.getD c 0)) ∧ w.frozen? ⟨g, c, none⟩ = false ∧ H ≤ g := by
  obtain ⟨h1, h2⟩ := h.il
  obtain ⟨b, off, h3, h4⟩ := h2 c (by omega)
  simp only [Option.some.injEq, Addr.mk.injEq, and_true] at h3
  obtain ⟨rfl, rfl⟩ := h3
  refine ⟨by simpa using h4, ?_, (h.block g rfl).1⟩
  rcases h.form with ⟨h1, h2⟩ | ⟨g', c', cur, h1, h2, h3, h4, h5, h6, h7⟩
  · cases h1
  · simp only [Value.slice.injEq, Option.some.injEq, Addr.mk.injEq, and_true] at h1
    obtain ⟨rfl, rfl, rfl⟩ := h1
    simp [World.frozen?, h3]

/-- The first m of it. -/
theorem Own.first {w : World} {H g n cap : Nat} {xs : List Int} (h : Own w H (.slice (some ⟨g, 0, none⟩) n cap) xs) (m : Nat) (hm : m ≤ xs.length) : Own w H (.slice (some ⟨g, 0, none⟩) m cap) (xs.take m) := by
  rcases h.form with ⟨h1, h2⟩ | ⟨g', c', cur, h1, h2, h3, h4, h5, h6, h7⟩
  · cases h1
  · simp only [Value.slice.injEq, Option.some.injEq, Addr.mk.injEq, and_true] at h1
    obtain ⟨rfl, rfl, rfl⟩ := h1
    have hl : (xs.take m).length = m := by simp; omega
    refine ⟨by simp, .inr ⟨g, cap, cur, by rw [hl], h2, h3, by rw [hl]; omega, h5, by simpa using h6, ?_⟩⟩
    rw [hl, Nat.mul_one, List.map_take, ← h7, List.take_take, Nat.min_eq_left hm]

/-- At an append: whatever it does, by its run. -/
theorem wpList_append_run {P : Program} (w : World) {ops : Array Oper} {rest : List Oper} {o : Oper} {a : Act} {Q : Exit → Act → World → Prop} (hgd : o.guard = none) (s x : Operand) (t1 t2 : TypeId)
    (ho : o.op = .call { callee := .builtin .append, args := #[s, x], argTypes := #[t1, t2] }) (v u : Value) (hs : a.eval s = v) (hx : a.eval x = u) (v' : Value) (w' : World)
    (hr : (Builtin.append_ #[t1, t2] o.type #[v, u]).run P w = .ok v' w') (h : wpList P ops Q rest (a.put o.dst v') w') : wpList P ops Q (o :: rest) a w := by
  refine wpList_plain hgd fun K hK => ?_
  unfold Oper.wp execOp
  simp only [ho, resolve, invoke, builtin, Sem.run_bind, Sem.run_pure, Result.andThen_ok, List.map_toArray, List.map_cons, List.map_nil, hs, hx, hr]
  exact hK _ _ h

/-- 'append' of nothing onto what is empty. -/
theorem run_append_none {t e : TypeId} (ht : Try.prog.underlying t = some (.slice e)) (he : (Try.prog.info? e).map (fun i => i.size) = some 1) (ty : TypeId) (w : World) (g : Nat) (a : Option Addr) (c : Nat) :
    (Builtin.append_ #[t, t] ty #[.slice (some ⟨g, 0, none⟩) 0 0, .slice a 0 c]).run Try.prog w = .ok (.slice (some ⟨g, 0, none⟩) 0 0) w := by
  obtain ⟨i, hi, -⟩ := Option.map_eq_some_iff.1 he
  cases a with
  | none => simp [Builtin.append_, run_underlying ht, sizeOf, typeInfo, hi, Builtin.lenOf, Builtin.firstCells, storeCells]
  | some a => simp [Builtin.append_, run_underlying ht, sizeOf, typeInfo, hi, Builtin.lenOf, Builtin.firstCells, loadCells, loadCellsFrom, storeCells]

end Go.Proofs.Ytehfmmmkhjjjfaa
