/-
  The reference memory: NewMem.
-/
import Derived.Test.YtghcommbflfbnaaRef5
namespace Go.Proofs.Ytghcommbflfbnaa
open Go.RowKit

def rfresh (n : Nat) : Rf := { seen := List.replicate n 0, last := List.replicate n 0, way := List.replicate n 0, going := List.replicate (n / 8) false, fuse := false, left := 0, thn := none, steps := 0, many := 0 }

theorem rnew_fin {w W : World} (n s l y g : Nat) (h0 : 8 ≤ n) (h1 : n ≤ 65536) (h8 : n % 8 = 0) (hK : Kept [] w W)
    (hs : W.heap[s]? = some (.cells (row (List.replicate n 0) []) 44 (0, 0))) (hl : W.heap[l]? = some (.cells (row (List.replicate n 0) []) 44 (0, 0))) (hy : W.heap[y]? = some (.cells (row (List.replicate n 0) []) 44 (0, 0)))
    (hg : W.heap[g]? = some (.cells (brow (List.replicate (n / 8) false) []) 4 (0, 0))) (hd : s ≠ l ∧ s ≠ y ∧ s ≠ g ∧ l ≠ y ∧ l ≠ g ∧ y ≠ g) (hge : w.heap.size ≤ s ∧ w.heap.size ≤ l ∧ w.heap.size ≤ y ∧ w.heap.size ≤ g) :
    ∃ p : Rp, p.b = W.heap.size ∧ Kept [] w (W.alloc (.cells #[.slice (some ⟨s, 0, none⟩) n n, .slice (some ⟨l, 0, none⟩) n n, .slice (some ⟨y, 0, none⟩) n n, .slice (some ⟨g, 0, none⟩) (n / 8) (n / 8), .bool false, .int .i64 0, .slice none 0 0, .int .i64 0, .int .i64 0] 41)).drew ∧
      (∀ k ∈ p.blocks, w.heap.size ≤ k) ∧ RefIs (W.alloc (.cells #[.slice (some ⟨s, 0, none⟩) n n, .slice (some ⟨l, 0, none⟩) n n, .slice (some ⟨y, 0, none⟩) n n, .slice (some ⟨g, 0, none⟩) (n / 8) (n / 8), .bool false, .int .i64 0, .slice none 0 0, .int .i64 0, .int .i64 0] 41)).drew p (rfresh n) := by
  have ls := lt_of_heap hs
  have ll := lt_of_heap hl
  have ly := lt_of_heap hy
  have lg := lt_of_heap hg
  have sz := hK.size
  refine ⟨⟨W.heap.size, s, l, y, g, [], [], [], [], .slice none 0 0⟩, rfl, (hK.alloc _).drew, ?_, ?_⟩
  · intro k hk
    rw [mem_rblocks] at hk
    simp only [sb, List.not_mem_nil, or_false] at hk
    omega
  · have e : ∀ k o, k < W.heap.size → (W.alloc o).drew.heap[k]? = W.heap[k]? := fun k o hk => Below.heap_alloc _ _ _ hk
    exact { ok := ⟨by simp [rfresh], by simp [rfresh], by simp [rfresh], by simp [rfresh, h8], by simp [rfresh, h0], by simp [rfresh, h1], by simp [rfresh]⟩
            main := by
              have := Go.heap_alloc_new W (.cells #[.slice (some ⟨s, 0, none⟩) n n, .slice (some ⟨l, 0, none⟩) n n, .slice (some ⟨y, 0, none⟩) n n, .slice (some ⟨g, 0, none⟩) (n / 8) (n / 8), .bool false, .int .i64 0, .slice none 0 0, .int .i64 0, .int .i64 0] 41)
              have hc : (⟨W.heap.size, s, l, y, g, [], [], [], [], .slice none 0 0⟩ : Rp).cells (rfresh n) = #[.slice (some ⟨s, 0, none⟩) n n, .slice (some ⟨l, 0, none⟩) n n, .slice (some ⟨y, 0, none⟩) n n, .slice (some ⟨g, 0, none⟩) (n / 8) (n / 8), .bool false, .int .i64 0, .slice none 0 0, .int .i64 0, .int .i64 0] := by
                simp only [Rp.cells, rfresh, List.length_replicate, List.length_nil, Nat.add_zero]
              rw [hc]
              exact this
            seen := by rw [e _ _ ls]; exact hs
            last := by rw [e _ _ ll]; exact hl
            way := by rw [e _ _ ly]; exact hy
            going := by rw [e _ _ lg]; exact hg
            thn := rfl
            apart := by
              simp only [Rp.blocks, sb, List.nodup_cons, List.mem_cons, List.not_mem_nil, not_or, not_false_eq_true, and_true, List.nodup_nil]
              omega }

theorem alloc4 (w : World) (a b c d : Obj) : ((((w.alloc a).alloc b).alloc c).alloc d).heap[w.heap.size]? = some a ∧ ((((w.alloc a).alloc b).alloc c).alloc d).heap[w.heap.size + 1]? = some b ∧ ((((w.alloc a).alloc b).alloc c).alloc d).heap[w.heap.size + 1 + 1]? = some c ∧ ((((w.alloc a).alloc b).alloc c).alloc d).heap[w.heap.size + 1 + 1 + 1]? = some d := by
  have z1 : (w.alloc a).heap.size = w.heap.size + 1 := by simp
  have z2 : ((w.alloc a).alloc b).heap.size = w.heap.size + 1 + 1 := by simp
  have z3 : (((w.alloc a).alloc b).alloc c).heap.size = w.heap.size + 1 + 1 + 1 := by simp
  refine ⟨?_, ?_, ?_, ?_⟩
  · rw [Below.heap_alloc _ _ _ (by rw [z3]; omega), Below.heap_alloc _ _ _ (by rw [z2]; omega), Below.heap_alloc _ _ _ (by rw [z1]; omega)]
    exact Go.heap_alloc_new _ _
  · rw [Below.heap_alloc _ _ _ (by rw [z3]; omega), Below.heap_alloc _ _ _ (by rw [z2]; omega), ← z1]
    exact Go.heap_alloc_new _ _
  · rw [Below.heap_alloc _ _ _ (by rw [z3]; omega), ← z2]
    exact Go.heap_alloc_new _ _
  · rw [← z3]
    exact Go.heap_alloc_new _ _

theorem rnew_goal (w : World) (n : Nat) (h0 : 8 ≤ n) (h1 : n ≤ 65536) (h8 : n % 8 = 0) (a b c d : Obj) (s l y g : Nat)
    (hs : ((((w.alloc a).alloc b).alloc c).alloc d).heap[s]? = some (.cells (row (List.replicate n 0) []) 44 (0, 0))) (hl : ((((w.alloc a).alloc b).alloc c).alloc d).heap[l]? = some (.cells (row (List.replicate n 0) []) 44 (0, 0)))
    (hy : ((((w.alloc a).alloc b).alloc c).alloc d).heap[y]? = some (.cells (row (List.replicate n 0) []) 44 (0, 0))) (hg : ((((w.alloc a).alloc b).alloc c).alloc d).heap[g]? = some (.cells (brow (List.replicate (n / 8) false) []) 4 (0, 0)))
    (hd : s ≠ l ∧ s ≠ y ∧ s ≠ g ∧ l ≠ y ∧ l ≠ g ∧ y ≠ g) (hge : w.heap.size ≤ s ∧ w.heap.size ≤ l ∧ w.heap.size ≤ y ∧ w.heap.size ≤ g) :
    ∃ p : Rp, Ending.returned (.tuple #[.pointer (some ⟨w.heap.size + 1 + 1 + 1 + 1, 0, none⟩), .int .i64 0]) = .returned (.tuple #[.pointer (some ⟨p.b, 0, none⟩), .int .i64 0]) ∧
      Kept [] w (((((w.alloc a).alloc b).alloc c).alloc d).alloc (.cells #[.slice (some ⟨s, 0, none⟩) n n, .slice (some ⟨l, 0, none⟩) n n, .slice (some ⟨y, 0, none⟩) n n, .slice (some ⟨g, 0, none⟩) (n / 8) (n / 8), .bool false, .int .i64 0, .slice none 0 0, .int .i64 0, .int .i64 0] 41)).drew ∧
      (∀ k ∈ p.blocks, w.heap.size ≤ k) ∧ RefIs (((((w.alloc a).alloc b).alloc c).alloc d).alloc (.cells #[.slice (some ⟨s, 0, none⟩) n n, .slice (some ⟨l, 0, none⟩) n n, .slice (some ⟨y, 0, none⟩) n n, .slice (some ⟨g, 0, none⟩) (n / 8) (n / 8), .bool false, .int .i64 0, .slice none 0 0, .int .i64 0, .int .i64 0] 41)).drew p (rfresh n) := by
  obtain ⟨p, hb, hK, hf, hm⟩ := rnew_fin n s l y g h0 h1 h8 (((((Kept.refl [] w).alloc a).alloc b).alloc c).alloc d) hs hl hy hg hd hge
  exact ⟨p, by rw [hb]; simp, hK, hf, hm⟩

set_option maxRecDepth 100000 in
set_option maxHeartbeats 8000000 in
theorem rnew_yes (w : World) (n : Nat) (h0 : 8 ≤ n) (h1 : n ≤ 65536) (h8 : n % 8 = 0) :
    Calls Try.prog 10 #[.int .i64 (n : Int)] w fun e w' => ∃ p, e = .returned (.tuple #[.pointer (some ⟨p.b, 0, none⟩), .int .i64 0]) ∧ Kept [] w w' ∧ (∀ k ∈ p.blocks, w.heap.size ≤ k) ∧ RefIs w' p (rfresh n) := by
  have hmk := make_row n h1
  have hmb : ∀ w, (Instr.makeSlice 39 (.int .i64 ((n : Int) / 8)) (.int .i64 ((n : Int) / 8))).run Try.prog w = .ok (.slice (some ⟨w.heap.size, 0, none⟩) (n / 8) (n / 8)) (w.alloc (.cells (brow (List.replicate (n / 8) false) []) 4)) := fun w => by
    have := make_brow (n / 8) (by omega) w
    rw [show ((n / 8 : Nat) : Int) = (n : Int) / 8 from by omega] at this
    exact this
  have t1 : ((n : Int) % 8 != 0) = false := by simp; omega
  have H8 : Hid (n % 8 = 0) := h8
  clear h8
  go_enter Try.func10, Try.ntmps10
  go_wp2
  go_region
  all_goals
    go_wp2
    go_ret2
    have hA := alloc4 w
    refine rnew_goal w n h0 h1 H8.out _ _ _ _ _ _ _ _ ?_ ?_ ?_ ?_ ?_ ?_
    · first | exact (hA _ _ _ _).1 | exact (hA _ _ _ _).2.1 | exact (hA _ _ _ _).2.2.1 | exact (hA _ _ _ _).2.2.2
    · first | exact (hA _ _ _ _).1 | exact (hA _ _ _ _).2.1 | exact (hA _ _ _ _).2.2.1 | exact (hA _ _ _ _).2.2.2
    · first | exact (hA _ _ _ _).1 | exact (hA _ _ _ _).2.1 | exact (hA _ _ _ _).2.2.1 | exact (hA _ _ _ _).2.2.2
    · first | exact (hA _ _ _ _).1 | exact (hA _ _ _ _).2.1 | exact (hA _ _ _ _).2.2.1 | exact (hA _ _ _ _).2.2.2
    · omega
    · omega

set_option maxHeartbeats 1000000 in
theorem rnew_no (w : World) (n : Int) (h : n < 8 ∨ 65536 < n ∨ n % 8 ≠ 0) :
    Calls Try.prog 10 #[.int .i64 n] w fun e w' => e = .returned (.tuple #[.pointer none, .int .i64 100]) ∧ w = w' := by
  by_cases h1 : n < 8
  · go_enter Try.func10, Try.ntmps10
    go_wp2
    go_ret2
    exact ⟨rfl, rfl⟩
  · by_cases h2 : 65536 < n
    · go_enter Try.func10, Try.ntmps10
      go_wp2
      go_ret2
      exact ⟨rfl, rfl⟩
    · have t1 : (n % 8 != 0) = true := by simp; omega
      have h3 : 8 ≤ n := by omega
      have h4 : n ≤ 65536 := by omega
      clear h h1 h2
      go_enter Try.func10, Try.ntmps10
      go_wp2
      go_ret2
      exact ⟨rfl, rfl⟩

end Go.Proofs.Ytghcommbflfbnaa
