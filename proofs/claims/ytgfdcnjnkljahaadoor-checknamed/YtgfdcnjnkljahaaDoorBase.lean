/-
  What is kept by a call.
-/
import Derived.Test.YtgfdcnjnkljahaaDoorRows
import Derived.WalkKit
import Derived.WalkSpells
import Derived.WalkLawsBesides
import Derived.Deep.Draws
import Derived.Deep.AppendLies
namespace Go.Proofs.YtgfdcnjnkljahaaDoor
open Go.RowKit

/-- A row of ints as cells. -/
def i64s (xs : List Int) : Array Value := (xs.map (Value.int .i64)).toArray

theorem size_i64s (xs : List Int) : (i64s xs).size = xs.length := by simp [i64s]

/-- A word of a row (0 behind its end). -/
def wordAt (xs : List Int) (i : Nat) : Int := xs.getD i 0

/-- All blocks of w but those of F are in w' as they were. -/
structure Kept (F : List Nat) (w w' : World) : Prop where
  os : w'.os = w.os
  tape : w'.tape = w.tape
  output : w'.output = w.output
  size : w.heap.size ≤ w'.heap.size
  block : ∀ k, k < w.heap.size → k ∉ F → w'.heap[k]? = w.heap[k]?

theorem nor {F : List Nat} {i n : Nat} (hF : i ∉ F) (hi : i < n) (h : i ∈ F ∨ n ≤ i) : False := by
  rcases h with h | h
  · exact hF h
  · omega

theorem Kept.refl (F : List Nat) (w : World) : Kept F w w := ⟨rfl, rfl, rfl, Nat.le_refl _, fun _ _ _ => rfl⟩

/-- One behind the other: what the second turns was turned by the first, or is new. -/
theorem Kept.trans {F G : List Nat} {a b c : World} (h : Kept F a b) (k : Kept G b c) (hG : ∀ x ∈ G, x ∈ F ∨ a.heap.size ≤ x) : Kept F a c :=
  ⟨k.os.trans h.os, k.tape.trans h.tape, k.output.trans h.output, Nat.le_trans h.size k.size, fun i hi hF =>
    (k.block i (Nat.lt_of_lt_of_le hi h.size) (fun hm => by exact nor hF hi (hG i hm))).trans (h.block i hi hF)⟩

theorem Kept.mono {F G : List Nat} {a b : World} (h : Kept F a b) (hG : ∀ x ∈ F, x ∈ G ∨ a.heap.size ≤ x) : Kept G a b :=
  ⟨h.os, h.tape, h.output, h.size, fun i hi hF => h.block i hi (fun hm => by exact nor hF hi (hG i hm))⟩

theorem Kept.drew {F : List Nat} {a w : World} (h : Kept F a w) : Kept F a w.drew := ⟨h.os, h.tape, h.output, h.size, h.block⟩

theorem Kept.drewN {F : List Nat} {a w : World} (h : Kept F a w) (n : Nat) : Kept F a (w.drewN n) := ⟨h.os, h.tape, h.output, h.size, h.block⟩

theorem Kept.alloc {F : List Nat} {a w : World} (h : Kept F a w) (o : Obj) : Kept F a (w.alloc o) :=
  ⟨h.os, h.tape, h.output, by have := h.size; simp; omega, fun i hi hF => by rw [Below.heap_alloc _ _ _ (Nat.lt_of_lt_of_le hi h.size)]; exact h.block i hi hF⟩

theorem Kept.setCell {F : List Nat} {a w : World} (h : Kept F a w) {p : Addr} (hp : p.block ∈ F ∨ a.heap.size ≤ p.block) (u : Value) : Kept F a (w.setCell p u) :=
  ⟨h.os, h.tape, h.output, by have := h.size; simpa using this, fun i hi hF => by
    rw [Below.heap_setCell _ _ _ _ (fun e => nor hF hi (by rw [e]; exact hp))]; exact h.block i hi hF⟩

theorem Kept.setRow {F : List Nat} {a w : World} (h : Kept F a w) {g : Nat} (hp : g ∈ F ∨ a.heap.size ≤ g) (cs : Array Value) : Kept F a (w.setRow g cs) :=
  ⟨h.os, h.tape, h.output, by have := h.size; simpa using this, fun i hi hF => by
    have : (w.setRow g cs).heap[i]? = w.heap[i]? := by
      simp only [World.setRow, Array.getElem?_modify]
      rw [if_neg (fun e => nor hF hi (by rw [← e]; exact hp))]
    rw [this]; exact h.block i hi hF⟩

theorem Kept.below {F : List Nat} {B : Nat} {a w : World} (h : Kept F a w) (hB : B ≤ a.heap.size) (hF : ∀ x ∈ F, B ≤ x) : Below B a w :=
  ⟨h.os, h.tape, h.output, h.size, fun i hi => h.block i (by omega) (fun hm => by have := hF i hm; omega)⟩


theorem Kept.cell {F : List Nat} {w w' : World} (h : Kept F w w') {x i : Nat} {v : Value} (ha : w.cell? ⟨x, i, none⟩ = some v) (hF : x ∉ F) : w'.cell? ⟨x, i, none⟩ = some v := by
  rw [World.cell?_of_block (a := ⟨x, i, none⟩) (h.block x (block_lt_of_cell ha) hF)]; exact ha

theorem Kept.grown {F : List Nat} {a w w' : World} {r : Option Nat} (h : Kept F a w) (hg : w.grownBy w' r) (hr : ∀ k, r = some k → k ∈ F ∨ a.heap.size ≤ k) : Kept F a w' :=
  ⟨hg.os.trans h.os, hg.tape.trans h.tape, hg.output.trans h.output, Nat.le_trans h.size hg.size, fun i hi hF => by
    rw [hg.block i (Nat.lt_of_lt_of_le hi h.size) (fun e => nor hF hi (hr i e.symm))]; exact h.block i hi hF⟩

theorem lt_of_heap {w : World} {k : Nat} {o : Obj} (h : w.heap[k]? = some o) : k < w.heap.size := (Array.getElem?_eq_some_iff.1 h).1


theorem num (n : Int) (w : World) : Calls Tryd.prog 17 #[.int .i64 n] w fun e w' => e = .returned (.int .i64 n) ∧ w' = w := by
  go_enter Tryd.func17, Tryd.ntmps17
  go_wp2
  go_ret
  exact ⟨rfl, rfl⟩


end Go.Proofs.YtgfdcnjnkljahaaDoor
