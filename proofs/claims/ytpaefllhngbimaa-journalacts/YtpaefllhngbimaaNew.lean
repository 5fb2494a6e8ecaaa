/-
  New; a code as a number.
-/
import Derived.Test.YtpaefllhngbimaaCrash
namespace Go.Proofs.Ytpaefllhngbimaa
set_option maxRecDepth 10000
open Go.RowKit

/-- A new memory. -/
def fresh (n : Nat) : Pm := { seen := List.replicate n 0, lasts := List.replicate n 0, way := [], fuse := none, steps := 0, stores := 0 }

theorem make_row (n : Nat) (h : n ≤ 65536) (w : World) : (Instr.makeSlice 52 (.int .i64 (n : Int)) (.int .i64 (n : Int))).run Try.prog w = .ok (.slice (some ⟨w.heap.size, 0, none⟩) n n) (w.alloc (.cells (row (List.replicate n 0) []) 29)) := by
  obtain ⟨i0, hi, hz0, hz1, hz2⟩ := info_parts info29
  have := run_make (P := Try.prog) w 52 29 i0 (.int .u64 0) Try.underlying52 hi hz0 .i64 .i64 n n (by omega) (by omega) (by rw [hz2]; omega) (by omega)
  rw [this]
  have e : madeCells (Value.int .u64 0).cells ((n : Int).toNat * i0.size) = row (List.replicate n 0) [] := by
    apply Array.ext'
    rw [hz1, toList_row]
    simp [toList_madeCells_one, Value.cells]
  rw [e]
  simp

theorem fresh_ok {n : Nat} (h0 : 8 ≤ n) (h1 : n ≤ 65536) (h8 : n % 8 = 0) : (fresh n).Ok :=
  ⟨by simp [fresh], by simp [fresh, h8], by simp [fresh, h0], by simp [fresh, h1], by simpa [fresh] using WayOk.nil n⟩

theorem fresh_is {w : World} {b bs bl n : Nat} (h0 : 8 ≤ n) (h1 : n ≤ 65536) (h8 : n % 8 = 0) (n1 : b ≠ bs) (n2 : b ≠ bl) (n3 : bs ≠ bl)
    (hs : w.heap[bs]? = some (.cells (row (List.replicate n 0) []) 29 (0, 0))) (hl : w.heap[bl]? = some (.cells (row (List.replicate n 0) []) 29 (0, 0)))
    (hm : w.heap[b]? = some (.cells #[.slice (some ⟨bs, 0, none⟩) n n, .slice (some ⟨bl, 0, none⟩) n n, .map none, .nilIface, .int .i64 0, .int .i64 0] 56 (0, 0))) :
    MemIs w ⟨b, bs, bl, [], [], .map none, .nilIface⟩ (fresh n) where
  ok := fresh_ok h0 h1 h8
  main := by simpa [fresh] using hm
  seen := hs
  lasts := hl
  way := Or.inl ⟨rfl, rfl⟩
  fuse := rfl
  apart := by simp [Pl.blocks, vb, n1, n2, n3]

theorem num_any (k : Int) (w : World) : Calls Try.prog 10 #[.int .i64 k] w fun e w' => e = .returned (.int .i64 k) ∧ w' = w := by
  go_enter Try.func10, Try.ntmps10
  go_wp2
  go_ret
  exact ⟨rfl, rfl⟩

theorem new_fin (w : World) (n s l : Nat) (h0 : 8 ≤ n) (h1 : n ≤ 65536) (h8 : n % 8 = 0) (hsl : (s = w.heap.size ∧ l = w.heap.size + 1) ∨ (s = w.heap.size + 1 ∧ l = w.heap.size)) :
    ∃ p : Pl, p.b = w.heap.size + 1 + 1 ∧ Kept [] w (((w.alloc (.cells (row (List.replicate n 0) []) 29)).alloc (.cells (row (List.replicate n 0) []) 29)).alloc (.cells #[.slice (some ⟨s, 0, none⟩) n n, .slice (some ⟨l, 0, none⟩) n n, .map none, .nilIface, .int .i64 0, .int .i64 0] 56)).drew ∧
      (∀ k ∈ p.blocks, w.heap.size ≤ k) ∧ MemIs (((w.alloc (.cells (row (List.replicate n 0) []) 29)).alloc (.cells (row (List.replicate n 0) []) 29)).alloc (.cells #[.slice (some ⟨s, 0, none⟩) n n, .slice (some ⟨l, 0, none⟩) n n, .map none, .nilIface, .int .i64 0, .int .i64 0] 56)).drew p (fresh n) := by
  have z1 : ∀ o : Obj, (w.alloc o).heap.size = w.heap.size + 1 := fun o => by simp
  have z2 : ∀ o o' : Obj, ((w.alloc o).alloc o').heap.size = w.heap.size + 1 + 1 := fun o o' => by simp
  have e1 : ∀ o1 o2 o3 : Obj, (((w.alloc o1).alloc o2).alloc o3).drew.heap[w.heap.size]? = some o1 := fun o1 o2 o3 => by
    show (((w.alloc o1).alloc o2).alloc o3).heap[w.heap.size]? = _
    rw [Below.heap_alloc _ _ _ (by rw [z2]; omega), Below.heap_alloc _ _ _ (by rw [z1]; omega)]
    exact Go.heap_alloc_new _ _
  have e2 : ∀ o1 o2 o3 : Obj, (((w.alloc o1).alloc o2).alloc o3).drew.heap[w.heap.size + 1]? = some o2 := fun o1 o2 o3 => by
    show (((w.alloc o1).alloc o2).alloc o3).heap[w.heap.size + 1]? = _
    rw [Below.heap_alloc _ _ _ (by rw [z2]; omega), ← z1 o1]
    exact Go.heap_alloc_new _ _
  have e3 : ∀ o1 o2 o3 : Obj, (((w.alloc o1).alloc o2).alloc o3).drew.heap[w.heap.size + 1 + 1]? = some o3 := fun o1 o2 o3 => by
    show (((w.alloc o1).alloc o2).alloc o3).heap[w.heap.size + 1 + 1]? = _
    rw [← z2 o1 o2]
    exact Go.heap_alloc_new _ _
  refine ⟨⟨w.heap.size + 1 + 1, s, l, [], [], .map none, .nilIface⟩, rfl, ((((Kept.refl _ _).alloc _).alloc _).alloc _).drew, ?_, ?_⟩
  · intro k hk
    simp [Pl.blocks, vb] at hk
    omega
  · rcases hsl with ⟨rfl, rfl⟩ | ⟨rfl, rfl⟩
    · exact fresh_is h0 h1 h8 (by omega) (by omega) (by omega) (e1 _ _ _) (e2 _ _ _) (e3 _ _ _)
    · exact fresh_is h0 h1 h8 (by omega) (by omega) (by omega) (e2 _ _ _) (e1 _ _ _) (e3 _ _ _)

set_option maxHeartbeats 1000000 in
theorem new_yes (w : World) (n : Nat) (h0 : 8 ≤ n) (h1 : n ≤ 65536) (h8 : n % 8 = 0) :
    Calls Try.prog 9 #[.int .i64 (n : Int)] w fun e w' => ∃ p, e = .returned (.tuple #[.pointer (some ⟨p.b, 0, none⟩), .int .i64 0]) ∧ Kept [] w w' ∧ (∀ k ∈ p.blocks, w.heap.size ≤ k) ∧ MemIs w' p (fresh n) := by
  have hmk := make_row n h1
  have t1 : ((n : Int) % 8 != 0) = false := by simp; omega
  go_enter Try.func9, Try.ntmps9
  go_wp2
  go_region
  · go_wp2
    go_ret2
    obtain ⟨p, hb, hK, hf, hm⟩ := new_fin w n w.heap.size (w.heap.size + 1) h0 h1 h8 (Or.inl ⟨rfl, rfl⟩)
    exact ⟨p, by rw [hb]; rfl, hK, hf, hm⟩
  · go_wp2
    go_ret2
    obtain ⟨p, hb, hK, hf, hm⟩ := new_fin w n (w.heap.size + 1) w.heap.size h0 h1 h8 (Or.inr ⟨rfl, rfl⟩)
    exact ⟨p, by rw [hb]; rfl, hK, hf, hm⟩

set_option maxHeartbeats 1000000 in
theorem new_no (w : World) (n : Int) (h : n < 8 ∨ 65536 < n ∨ n % 8 ≠ 0) :
    Calls Try.prog 9 #[.int .i64 n] w fun e w' => e = .returned (.tuple #[.pointer none, .int .i64 100]) ∧ w' = w := by
  by_cases h1 : n < 8
  · go_enter Try.func9, Try.ntmps9
    go_wp2
    go_ret2
    exact ⟨rfl, rfl⟩
  · by_cases h2 : 65536 < n
    · go_enter Try.func9, Try.ntmps9
      go_wp2
      go_ret2
      exact ⟨rfl, rfl⟩
    · have t1 : (n % 8 != 0) = true := by simp; omega
      have h3 : 8 ≤ n := by omega
      have h4 : n ≤ 65536 := by omega
      clear h h1 h2
      go_enter Try.func9, Try.ntmps9
      go_wp2
      go_ret2
      exact ⟨rfl, rfl⟩

end Go.Proofs.Ytpaefllhngbimaa
