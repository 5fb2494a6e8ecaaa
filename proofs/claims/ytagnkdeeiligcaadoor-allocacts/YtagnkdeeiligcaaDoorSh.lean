/-
  The places of a share: most, groups, heap, end, takenAt, beginsAt.
-/
import Derived.Test.YtagnkdeeiligcaaDoorFacts
import Derived.Deep.RegionHeld3
namespace Go.Proofs.YtagnkdeeiligcaaDoor
open Go.RowKit

/-- A share, as a value. -/
abbrev shv (b c a n : Nat) : Value := .agg #[.pointer (some ⟨b, 0, none⟩), .int .i64 (c : Int), .int .i64 (a : Int), .int .i64 (n : Int)]

/-- A share of a size that is met. -/
structure Fits (a n : Nat) : Prop where
  lo : 64 ≤ n
  hi : n ≤ 1000
  at_ : a ≤ 100000

def gro (n : Nat) : Nat := (n + 30) / 34
def heap (a n : Nat) : Nat := a + 1 + 2 * gro n
def room (n : Nat) : Nat := min (n - 1 - 2 * gro n) (gro n * 32)

theorem ret_int {k : IntKind} {x y : Int} (h : x = y) : Ending.returned (.int k x) = .returned (.int k y) := by rw [h]

/-- The box of a share lies at B. -/
def Box (B b c a n : Nat) (w : World) : Prop := w.cell? ⟨B, 0, none⟩ = some (.pointer (some ⟨b, 0, none⟩)) ∧ w.cell? ⟨B, 1, none⟩ = some (.int .i64 (c : Int)) ∧ w.cell? ⟨B, 2, none⟩ = some (.int .i64 (a : Int)) ∧ w.cell? ⟨B, 3, none⟩ = some (.int .i64 (n : Int))

theorem Box.kept {F : List Nat} {B b c a n : Nat} {w w' : World} (h : Box B b c a n w) (k : Kept F w w') (hF : B ∉ F) : Box B b c a n w' :=
  ⟨k.cell h.1 hF, k.cell h.2.1 hF, k.cell h.2.2.1 hF, k.cell h.2.2.2 hF⟩

theorem Box.kept0 {B b c a n : Nat} {w w' : World} (h : Box B b c a n w) (k : Kept [] w w') : Box B b c a n w' := h.kept k (by simp)

theorem cellB {w : World} {B i : Nat} {cs : Array Value} {t : TypeId} {z : Nat × Nat} (h : w.heap[B]? = some (.cells cs t z)) : w.cell? ⟨B, i, none⟩ = cs[i]? := by
  simp [World.cell?, h]

theorem Box.new (w : World) (b c a n : Nat) : Box w.heap.size b c a n (w.alloc (.cells #[.pointer (some ⟨b, 0, none⟩), .int .i64 (c : Int), .int .i64 (a : Int), .int .i64 (n : Int)] 61)) := by
  have e := Go.heap_alloc_new w (.cells #[.pointer (some ⟨b, 0, none⟩), .int .i64 (c : Int), .int .i64 (a : Int), .int .i64 (n : Int)] 61)
  exact ⟨cellB e, cellB e, cellB e, cellB e⟩

theorem most_any (w : World) (b c a n : Nat) (h : Fits a n) :
    Calls Tryd.prog 36 #[shv b c a n] w fun e w' => e = .returned (.int .i64 ((n / 4 : Nat) : Int)) ∧ Kept [] w w' := by
  have h1 := h.lo
  have h2 := h.hi
  have h3 := h.at_
  go_enter Tryd.func36, Tryd.ntmps36
  go_wp2
  go_ret
  exact ⟨ret_int (by omega), (Kept.refl _ _).alloc _⟩

theorem groups_any (w : World) (b c a n : Nat) (h : Fits a n) :
    Calls Tryd.prog 37 #[shv b c a n] w fun e w' => e = .returned (.int .i64 ((gro n : Nat) : Int)) ∧ Kept [] w w' := by
  have h1 := h.lo
  have h2 := h.hi
  have h3 := h.at_
  go_enter Tryd.func37, Tryd.ntmps37
  go_wp2
  go_ret
  exact ⟨ret_int (by unfold gro; omega), (Kept.refl _ _).alloc _⟩

theorem takenAt_any (w : World) (b c a n i : Nat) (h : Fits a n) (hi : i ≤ 100) :
    Calls Tryd.prog 52 #[shv b c a n, .int .i64 (i : Int)] w fun e w' => e = .returned (.int .i64 ((a + 1 + 2 * i : Nat) : Int)) ∧ Kept [] w w' := by
  have h1 := h.lo
  have h2 := h.hi
  have h3 := h.at_
  go_enter Tryd.func52, Tryd.ntmps52
  go_wp2
  go_ret
  exact ⟨ret_int (by omega), (Kept.refl _ _).alloc _⟩

theorem beginsAt_any (w : World) (b c a n i : Nat) (h : Fits a n) (hi : i ≤ 100) :
    Calls Tryd.prog 53 #[shv b c a n, .int .i64 (i : Int)] w fun e w' => e = .returned (.int .i64 ((a + 2 + 2 * i : Nat) : Int)) ∧ Kept [] w w' := by
  have h1 := h.lo
  have h2 := h.hi
  have h3 := h.at_
  go_enter Tryd.func53, Tryd.ntmps53
  go_wp2
  go_ret
  exact ⟨ret_int (by omega), (Kept.refl _ _).alloc _⟩

theorem gro_le {n : Nat} (h : n ≤ 1000) : gro n ≤ 30 := by unfold gro; omega

set_option maxHeartbeats 1000000 in
theorem heap_any (w : World) (b c a n : Nat) (h : Fits a n) :
    Calls Tryd.prog 33 #[shv b c a n] w fun e w' => e = .returned (.int .i64 ((heap a n : Nat) : Int)) ∧ Kept [] w w' := by
  have h1 := h.lo
  have h2 := h.hi
  have h3 := h.at_
  have h4 := gro_le h2
  go_enter Tryd.func33, Tryd.ntmps33
  go_wp2
  go_region_held3 (fun w' => w'.cell? ⟨w.heap.size, 0, none⟩ = some (.pointer (some ⟨b, 0, none⟩)) ∧ w'.cell? ⟨w.heap.size, 1, none⟩ = some (.int .i64 (c : Int)) ∧ w'.cell? ⟨w.heap.size, 2, none⟩ = some (.int .i64 (a : Int)) ∧ w'.cell? ⟨w.heap.size, 3, none⟩ = some (.int .i64 (n : Int))) (first | exact z1 | go_keep)
    ((go_at_call 37; refine (groups_any _ b c a n h).mono ?_; rintro e w1 ⟨rfl, hk1⟩; have z1 := Box.kept0 (B := w.heap.size) (b := b) (c := c) (a := a) (n := n) (by assumption) hk1))
  go_wp2
  go_ret
  exact ⟨ret_int (by unfold heap; simp only [IntKind.wrap_i64]; omega), ((Kept.refl [] w).alloc _).drew.trans hk1 (by simp)⟩

set_option maxHeartbeats 1000000 in
theorem end_any (w : World) (b c a n : Nat) (h : Fits a n) :
    Calls Tryd.prog 46 #[shv b c a n] w fun e w' => e = .returned (.int .i64 ((heap a n + room n : Nat) : Int)) ∧ Kept [] w w' := by
  have h1 := h.lo
  have h2 := h.hi
  have h3 := h.at_
  have h4 := gro_le h2
  go_enter Tryd.func46, Tryd.ntmps46
  go_wp2
  go_region_held3 (fun w' => w'.cell? ⟨w.heap.size, 0, none⟩ = some (.pointer (some ⟨b, 0, none⟩)) ∧ w'.cell? ⟨w.heap.size, 1, none⟩ = some (.int .i64 (c : Int)) ∧ w'.cell? ⟨w.heap.size, 2, none⟩ = some (.int .i64 (a : Int)) ∧ w'.cell? ⟨w.heap.size, 3, none⟩ = some (.int .i64 (n : Int))) (first | exact z1 | exact z2 | go_keep)
    (first
      | (go_at_call 37; refine (groups_any _ b c a n h).mono ?_; rintro e w1 ⟨rfl, hk1⟩; have z1 := Box.kept0 (B := w.heap.size) (b := b) (c := c) (a := a) (n := n) (by assumption) hk1)
      | (go_at_call 33; refine (heap_any _ b c a n h).mono ?_; rintro e w2 ⟨rfl, hk2⟩; have z2 := Box.kept0 (B := w.heap.size) (b := b) (c := c) (a := a) (n := n) (by assumption) hk2))
  go_wp2
  all_goals
    go_ret
    refine ⟨ret_int ?_, (((Kept.refl [] w).alloc _).drew.trans hk2 (by simp)).trans hk1 (by simp)⟩
    have h6 : gro n = (n + 30) / 34 := rfl
    simp only [IntKind.wrap_i64] at *
    unfold room
    unfold heap at *
    omega

end Go.Proofs.YtagnkdeeiligcaaDoor
