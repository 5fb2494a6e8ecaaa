/-
  New, Clear.
-/
import Derived.Test.YtolbjmckebicfaaOps
namespace Go.Proofs.Ytolbjmckebicfaa
open Go.RowKit

theorem info3 : (Try.prog.info? 3).map (fun i => (i.zero, i.size, i.bytes)) = some (some (.int .i64 0), 1, 8) := by kernel_rfl
theorem info44 : (Try.prog.info? 44).map (fun i => (i.zero, i.size, i.bytes)) = some (some (.slice none 0 0), 1, 24) := by kernel_rfl

/-- A new arena. -/
def fresh (n c : Nat) : Ar := { words := List.replicate n 0, traces := List.replicate c [] }

theorem make_words (n : Nat) (h : n ≤ 65536) (w : World) : (Instr.makeSlice 33 (.int .i64 (n : Int)) (.int .i64 (n : Int))).run Try.prog w = .ok (.slice (some ⟨w.heap.size, 0, none⟩) n n) (w.alloc (.cells (i64s (List.replicate n 0)) 3)) := by
  obtain ⟨i0, hi, hz0, hz1, hz2⟩ := info_parts info3
  have := run_make (P := Try.prog) w 33 3 i0 (.int .i64 0) Try.underlying33 hi hz0 .i64 .i64 n n (by omega) (by omega) (by rw [hz2]; omega) (by omega)
  rw [this]
  have e : madeCells (Value.int .i64 0).cells ((n : Int).toNat * i0.size) = i64s (List.replicate n 0) := by
    apply Array.ext'
    rw [hz1]
    simp [toList_madeCells_one, Value.cells, i64s]
  rw [e]
  simp

theorem make_traces (n : Nat) (h : n ≤ 65536) (w : World) : (Instr.makeSlice 50 (.int .i64 (n : Int)) (.int .i64 (n : Int))).run Try.prog w = .ok (.slice (some ⟨w.heap.size, 0, none⟩) n n) (w.alloc (.cells (List.replicate n (.slice none 0 0)).toArray 44)) := by
  obtain ⟨i0, hi, hz0, hz1, hz2⟩ := info_parts info44
  have := run_make (P := Try.prog) w 50 44 i0 (.slice none 0 0) Try.underlying50 hi hz0 .i64 .i64 n n (by omega) (by omega) (by rw [hz2]; omega) (by omega)
  rw [this]
  have e : madeCells (Value.slice none 0 0).cells ((n : Int).toNat * i0.size) = (List.replicate n (.slice none 0 0)).toArray := by
    apply Array.ext'
    rw [hz1]
    simp [toList_madeCells_one, Value.cells]
  rw [e]
  simp

theorem fresh_is {T : TypeId} {w : World} {b bw bt n c : Nat} (h0 : 1 ≤ n) (h1 : n ≤ 65536) (c0 : 1 ≤ c) (c1 : c ≤ 8) (n1 : b ≠ bw) (n2 : b ≠ bt) (n3 : bw ≠ bt)
    (hs : w.heap[bw]? = some (.cells (i64s (List.replicate n 0)) 3 (0, 0))) (hl : w.heap[bt]? = some (.cells (List.replicate c (.slice none 0 0)).toArray 44 (0, 0)))
    (hm : w.heap[b]? = some (.cells #[.slice (some ⟨bw, 0, none⟩) n n, .slice (some ⟨bt, 0, none⟩) c c] T (0, 0))) :
    ArIs T w ⟨b, bw, bt, List.replicate c (.slice none 0 0)⟩ (fresh n c) where
  lo := by simpa [fresh] using h0
  hi := by simpa [fresh] using h1
  clo := by simpa [fresh] using c0
  chi := by simpa [fresh] using c1
  main := by simpa [fresh] using hm
  words := hs
  slots := hl
  len := by simp [fresh]
  each := fun i v t hv ht => by
    simp [fresh, List.getElem?_replicate] at hv ht
    obtain ⟨-, rfl⟩ := hv
    obtain ⟨-, rfl⟩ := ht
    exact ⟨World.ownsRow_nil _ _ _ _, fun _ => rfl⟩
  n1 := n1
  n2 := n2
  n4 := n3
  off := fun i v k hv e => by
    simp [List.getElem?_replicate] at hv
    obtain ⟨-, rfl⟩ := hv
    simp [Value.ownBlock] at e
  pair := fun i j x y k _ hx _ e _ => by
    simp [List.getElem?_replicate] at hx
    obtain ⟨-, rfl⟩ := hx
    simp [Value.ownBlock] at e

theorem fresh_blocks (b bw bt c : Nat) : (⟨b, bw, bt, List.replicate c (.slice none 0 0)⟩ : Ap).blocks = [b, bw, bt] := by
  have : (List.replicate c (Value.slice none 0 0)).filterMap Value.ownBlock = [] := by
    rw [List.filterMap_eq_nil_iff]
    intro a ha
    rw [List.eq_of_mem_replicate ha]
    rfl
  simp only [Ap.blocks, this]

theorem three {w : World} (o1 o2 o3 : Obj) : (((w.alloc o1).alloc o2).alloc o3).drew.heap[w.heap.size]? = some o1 ∧ (((w.alloc o1).alloc o2).alloc o3).drew.heap[w.heap.size + 1]? = some o2 ∧ (((w.alloc o1).alloc o2).alloc o3).drew.heap[w.heap.size + 1 + 1]? = some o3 := by
  have z1 : ∀ o : Obj, (w.alloc o).heap.size = w.heap.size + 1 := fun o => by simp
  have z2 : ∀ o o' : Obj, ((w.alloc o).alloc o').heap.size = w.heap.size + 1 + 1 := fun o o' => by simp
  refine ⟨?_, ?_, ?_⟩
  · show (((w.alloc o1).alloc o2).alloc o3).heap[w.heap.size]? = _
    rw [Below.heap_alloc _ _ _ (by rw [z2]; omega), Below.heap_alloc _ _ _ (by rw [z1]; omega)]
    exact Go.heap_alloc_new _ _
  · show (((w.alloc o1).alloc o2).alloc o3).heap[w.heap.size + 1]? = _
    rw [Below.heap_alloc _ _ _ (by rw [z2]; omega), ← z1 o1]
    exact Go.heap_alloc_new _ _
  · show (((w.alloc o1).alloc o2).alloc o3).heap[w.heap.size + 1 + 1]? = _
    rw [← z2 o1 o2]
    exact Go.heap_alloc_new _ _

set_option maxHeartbeats 1000000 in
theorem new_yes (w : World) (n c : Nat) (h0 : 1 ≤ n) (h1 : n ≤ 65536) (c0 : 1 ≤ c) (c1 : c ≤ 8) :
    Calls Try.prog 6 #[.int .i64 (n : Int), .int .i64 (c : Int)] w fun e w' => ∃ p, e = .returned (.tuple #[.pointer (some ⟨p.b, 0, none⟩), .int .i64 0]) ∧ Kept [] w w' ∧ (∀ k ∈ p.blocks, w.heap.size ≤ k) ∧ ArIs 52 w' p (fresh n c) := by
  have m1 := make_words n h1
  have m2 := make_traces c (by omega)
  have d1 : decide ((n : Int) < 1) = false := by simp; omega
  have d2 : decide (65536 < (n : Int)) = false := by simp; omega
  have d3 : decide ((c : Int) < 1) = false := by simp; omega
  have d4 : decide (8 < (c : Int)) = false := by simp; omega
  go_enter Try.func6, Try.ntmps6
  go_wp2
  go_region
  · go_wp2
    go_ret2
    obtain ⟨e1, e2, e3⟩ := three (w := w) (.cells (i64s (List.replicate n 0)) 3) (.cells (List.replicate c (.slice none 0 0)).toArray 44) (.cells #[.slice (some ⟨w.heap.size, 0, none⟩) n n, .slice (some ⟨w.heap.size + 1, 0, none⟩) c c] 52)
    refine ⟨_, rfl, ((((Kept.refl _ _).alloc _).alloc _).alloc _).drew, ?_, fresh_is h0 h1 c0 c1 (by omega) (by omega) (by omega) e1 e2 e3⟩
    intro k hk
    rw [fresh_blocks] at hk
    simp at hk
    omega
  · go_wp2
    go_ret2
    obtain ⟨e1, e2, e3⟩ := three (w := w) (.cells (List.replicate c (.slice none 0 0)).toArray 44) (.cells (i64s (List.replicate n 0)) 3) (.cells #[.slice (some ⟨w.heap.size + 1, 0, none⟩) n n, .slice (some ⟨w.heap.size, 0, none⟩) c c] 52)
    refine ⟨_, rfl, ((((Kept.refl _ _).alloc _).alloc _).alloc _).drew, ?_, fresh_is h0 h1 c0 c1 (by omega) (by omega) (by omega) e2 e1 e3⟩
    intro k hk
    rw [fresh_blocks] at hk
    simp at hk
    omega

set_option maxHeartbeats 1000000 in
theorem new_no (w : World) (n c : Int) (h : n < 1 ∨ 65536 < n ∨ c < 1 ∨ 8 < c) :
    Calls Try.prog 6 #[.int .i64 n, .int .i64 c] w fun e w' => e = .returned (.tuple #[.pointer none, .int .i64 200]) ∧ w' = w := by
  by_cases h1 : n < 1
  · have d1 : decide (n < 1) = true := by simp; omega
    go_enter Try.func6, Try.ntmps6
    go_wp2
    go_ret2
    exact ⟨rfl, rfl⟩
  · have d1 : decide (n < 1) = false := by simp; omega
    by_cases h2 : 65536 < n
    · have d2 : decide (65536 < n) = true := by simp; omega
      go_enter Try.func6, Try.ntmps6
      go_wp2
      go_ret2
      exact ⟨rfl, rfl⟩
    · have d2 : decide (65536 < n) = false := by simp; omega
      by_cases h3 : c < 1
      · have d3 : decide (c < 1) = true := by simp; omega
        go_enter Try.func6, Try.ntmps6
        go_wp2
        go_ret2
        exact ⟨rfl, rfl⟩
      · have d3 : decide (c < 1) = false := by simp; omega
        have h4 : 8 < c := by omega
        have d4 : decide (8 < c) = true := by simp; omega
        clear h
        go_enter Try.func6, Try.ntmps6
        go_wp2
        go_ret2
        exact ⟨rfl, rfl⟩

/-- A core's accesses are forgotten. -/
def Ar.clear (A : Ar) (c : Nat) : Ar := { A with traces := A.traces.set c [] }

theorem grown_refl (w : World) (r : Option Nat) : w.grownBy w r := ⟨rfl, rfl, rfl, Nat.le_refl _, fun _ _ _ => rfl⟩

theorem ArIs.clearSlot {T : TypeId} {w : World} {p : Ap} {A : Ar} (h : ArIs T w p A) (c : Nat) (hc : c < A.traces.length) :
    ∃ p', ATo [] w p (w.setCell ⟨p.bt, c, none⟩ (.slice none 0 0)) p' ∧ ArIs T (w.setCell ⟨p.bt, c, none⟩ (.slice none 0 0)) p' (A.clear c) := by
  obtain ⟨v, hv, hr⟩ := h.row hc
  have hat : ∀ k, Value.ownBlock (.slice none 0 0) = some k → v.ownBlock = some k ∨ w.heap.size ≤ k := fun k e => by simp [Value.ownBlock] at e
  refine ⟨{ p with vs := p.vs.set c (.slice none 0 0) }, ⟨rfl, (Kept.refl _ _).setCell (by simp [Ap.blocks]) _, ArIs.setSlot_new hv hat⟩, h.setSlot hv [] (grown_refl _ _) ⟨World.ownsRow_nil _ _ _ _, fun _ => rfl⟩ hat⟩

set_option maxHeartbeats 1000000 in
theorem clear_yes {w : World} {p : Ap} {A : Ar} (h : ArIs 52 w p A) (c : Nat) (hc : c < A.traces.length) :
    Calls Try.prog 9 #[.pointer (some ⟨p.b, 0, none⟩), .int .i64 (c : Int)] w fun e w' => e = .returned (.int .i64 0) ∧ ∃ p', ATo [] w p w' p' ∧ ArIs 52 w' p' (A.clear c) := by
  obtain ⟨c0, c1⟩ := h.cell
  obtain ⟨v, hv, hr⟩ := h.row hc
  have sv := h.slot hv
  have fz := block_frozen h.slots c
  have hfin := h.clearSlot c hc
  have j0 : (0 : Int) ≤ (c : Int) := by omega
  have j1 : (c : Int) < (A.traces.length : Int) := by omega
  have HX : Hid (_) := hfin
  clear hfin hr hv
  go_enter Try.func9, Try.ntmps9
  go_wp2_with fail
  refine (core_yes h c hc).mono ?_
  rintro e w' ⟨rfl, rfl⟩
  go_wp2
  go_ret
  exact ⟨rfl, HX.out⟩

theorem clear_no {w : World} {p : Ap} {A : Ar} (h : ArIs 52 w p A) (c : Int) (hc : c < 0 ∨ (A.traces.length : Int) ≤ c) :
    Calls Try.prog 9 #[.pointer (some ⟨p.b, 0, none⟩), .int .i64 c] w fun e w' => e = .returned (.int .i64 202) ∧ w' = w := by
  go_enter Try.func9, Try.ntmps9
  go_wp2_with fail
  refine (core_no h c hc).mono ?_
  rintro e w' ⟨rfl, rfl⟩
  go_wp2
  go_ret
  exact ⟨rfl, rfl⟩

end Go.Proofs.Ytolbjmckebicfaa
