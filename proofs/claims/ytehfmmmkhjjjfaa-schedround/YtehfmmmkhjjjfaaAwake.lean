/-
  awake.
-/
import Derived.Test.YtehfmmmkhjjjfaaFair
import Derived.Test.YtehfmmmkhjjjfaaPick
import Derived.Test.YtehfmmmkhjjjfaaTurns
import Derived.Test.YtehfmmmkhjjjfaaSame
namespace Go.Proofs.Ytehfmmmkhjjjfaa
open Go.RowKit
set_option linter.unusedSimpArgs false
set_option linter.unusedVariables false

theorem bl_at {w : World} {g : Nat} {bs : List Bool} (h : w.heap[g]? = some (.cells (bs.map Value.bool).toArray 4 (0, 0))) : Bl w (some ⟨g, 0, none⟩) bs.length (fun i => bs.getD i false) := fun i hi =>
  ⟨g, 0, rfl, by simp [World.cell?, h, List.getD, hi]⟩

theorem il_at {w : World} {g : Nat} {xs : List Int} (h : w.heap[g]? = some (.cells (xs.map (Value.int .i64)).toArray 3 (0, 0))) : Il w (some ⟨g, 0, none⟩) xs.length (fun i => xs.getD i 0) := fun i hi =>
  ⟨g, 0, rfl, by simp [World.cell?, h, List.getD, hi]⟩

theorem bl_new (w : World) (bs : List Bool) : Bl (w.alloc (.cells (bs.map Value.bool).toArray 4)) (some ⟨w.heap.size, 0, none⟩) bs.length (fun i => bs.getD i false) := bl_at (heap_alloc_new w _)

theorem il_new (w : World) (xs : List Int) : Il (w.alloc (.cells (xs.map (Value.int .i64)).toArray 3)) (some ⟨w.heap.size, 0, none⟩) xs.length (fun i => xs.getD i 0) := il_at (heap_alloc_new w _)

theorem b3 (w : World) : (Instr.buildSlice 22 3 #[(0, .bool false), (1, .bool true), (2, .bool true)]).run Try.prog w = .ok (.slice (some ⟨w.heap.size, 0, none⟩) 3 3) (w.alloc (.cells ([false, true, true].map Value.bool).toArray 4)) := by kernel_rfl
theorem bf (w : World) : (Instr.buildSlice 22 1 #[(0, .bool false)]).run Try.prog w = .ok (.slice (some ⟨w.heap.size, 0, none⟩) 1 1) (w.alloc (.cells ([false].map Value.bool).toArray 4)) := by kernel_rfl
theorem bt (w : World) : (Instr.buildSlice 22 1 #[(0, .bool true)]).run Try.prog w = .ok (.slice (some ⟨w.heap.size, 0, none⟩) 1 1) (w.alloc (.cells ([true].map Value.bool).toArray 4)) := by kernel_rfl
theorem btt (w : World) : (Instr.buildSlice 22 2 #[(0, .bool true), (1, .bool true)]).run Try.prog w = .ok (.slice (some ⟨w.heap.size, 0, none⟩) 2 2) (w.alloc (.cells ([true, true].map Value.bool).toArray 4)) := by kernel_rfl
theorem i45 (w : World) : (Instr.buildSlice 23 2 #[(0, .int .i64 4), (1, .int .i64 5)]).run Try.prog w = .ok (.slice (some ⟨w.heap.size, 0, none⟩) 2 2) (w.alloc (.cells (([4, 5] : List Int).map (Value.int .i64)).toArray 3)) := by kernel_rfl
theorem i12 (w : World) : (Instr.buildSlice 23 2 #[(0, .int .i64 1), (1, .int .i64 2)]).run Try.prog w = .ok (.slice (some ⟨w.heap.size, 0, none⟩) 2 2) (w.alloc (.cells (([1, 2] : List Int).map (Value.int .i64)).toArray 3)) := by kernel_rfl
theorem i00 (w : World) : (Instr.buildSlice 23 2 #[(0, .int .i64 0), (1, .int .i64 0)]).run Try.prog w = .ok (.slice (some ⟨w.heap.size, 0, none⟩) 2 2) (w.alloc (.cells (([0, 0] : List Int).map (Value.int .i64)).toArray 3)) := by kernel_rfl
theorem i0 (w : World) : (Instr.buildSlice 23 1 #[(0, .int .i64 0)]).run Try.prog w = .ok (.slice (some ⟨w.heap.size, 0, none⟩) 1 1) (w.alloc (.cells (([0] : List Int).map (Value.int .i64)).toArray 3)) := by kernel_rfl
theorem s2 (u v : Option Addr) (n m c d : Nat) (w : World) : (Instr.buildSlice 32 2 #[(0, .slice u n c), (1, .slice v m d)]).run Try.prog w = .ok (.slice (some ⟨w.heap.size, 0, none⟩) 2 2) (w.alloc (.cells #[.slice u n c, .slice v m d] 22)) := by kernel_rfl
theorem s1 (u : Option Addr) (n c : Nat) (w : World) : (Instr.buildSlice 32 1 #[(0, .slice u n c)]).run Try.prog w = .ok (.slice (some ⟨w.heap.size, 0, none⟩) 1 1) (w.alloc (.cells #[.slice u n c] 22)) := by kernel_rfl

theorem run_none {L : Nat → Nat} {B : Nat → Nat → Bool} {P : Nat → Int} {c : Nat} (h : ∀ s, ¬ Bad L B P s c) : ∀ s, run L B P s c = 0
  | 0 => rfl
  | s + 1 => run_not (h s)

theorem still_alloc (w : World) (o : Obj) : Still w (w.alloc o) := Below.alloc (Below.refl _ _) (Nat.le_refl _) o

theorem new_at (W : World) (o : Obj) {k : Nat} (h : W.heap.size = k) : (W.alloc o).heap[k]? = some o := by subst h; exact heap_alloc_new W o
theorem old_at {W : World} (o : Obj) {k : Nat} {v : Obj} (h : W.heap[k]? = some v) : (W.alloc o).heap[k]? = some v := by rw [Below.heap_alloc _ _ _ (lt_of_heap h)]; exact h

/-- Two steps of one core that is ready, picked at both. -/
def twoW (W : World) : World := (((W.alloc (.cells ([true].map Value.bool).toArray 4)).alloc (.cells ([true].map Value.bool).toArray 4)).alloc (.cells #[.slice (some ⟨W.heap.size, 0, none⟩) 1 1, .slice (some ⟨W.heap.size + 1, 0, none⟩) 1 1] 22)).alloc (.cells (([0, 0] : List Int).map (Value.int .i64)).toArray 3)

theorem twoW_heap (W : World) : (twoW W).heap[W.heap.size]? = some (.cells ([true].map Value.bool).toArray 4 (0, 0)) ∧ (twoW W).heap[W.heap.size + 1]? = some (.cells ([true].map Value.bool).toArray 4 (0, 0)) ∧
    (twoW W).heap[W.heap.size + 2]? = some (.cells #[.slice (some ⟨W.heap.size, 0, none⟩) 1 1, .slice (some ⟨W.heap.size + 1, 0, none⟩) 1 1] 22 (0, 0)) ∧ (twoW W).heap[W.heap.size + 3]? = some (.cells (([0, 0] : List Int).map (Value.int .i64)).toArray 3 (0, 0)) := by
  exact ⟨old_at _ (old_at _ (old_at _ (new_at _ _ rfl))), old_at _ (old_at _ (new_at _ _ (by simp))), old_at _ (new_at _ _ (by simp)), new_at _ _ (by simp)⟩

theorem twoW_gr (W : World) : Gr (twoW W) (some ⟨W.heap.size + 2, 0, none⟩) 2 (fun _ => 1) (fun _ _ => true) := by
  obtain ⟨h0, h1, h2, h3⟩ := twoW_heap W
  intro r hr
  have b0 : ∀ g, (twoW W).heap[g]? = some (.cells ([true].map Value.bool).toArray 4 (0, 0)) → Bl (twoW W) (some ⟨g, 0, none⟩) 1 (fun _ => true) := fun g hg i hi => by
    have : i = 0 := by omega
    subst this
    exact ⟨g, 0, rfl, by simp [World.cell?, hg]⟩
  match r, hr with
  | 0, _ => exact ⟨_, 0, some ⟨W.heap.size, 0, none⟩, 1, rfl, by simp [World.cell?, h2], b0 _ h0⟩
  | 1, _ => exact ⟨_, 0, some ⟨W.heap.size + 1, 0, none⟩, 1, rfl, by simp [World.cell?, h2], b0 _ h1⟩

theorem twoW_il (W : World) : Il (twoW W) (some ⟨W.heap.size + 3, 0, none⟩) 2 (fun _ => 0) := by
  obtain ⟨h0, h1, h2, h3⟩ := twoW_heap W
  exact Il.congr (il_at (xs := [0, 0]) h3) fun i hi => by
    match i, hi with
    | 0, _ => rfl
    | 1, _ => rfl

theorem twoW_still (W : World) : Still W (twoW W) := Still.then (Still.then (Still.then (still_alloc _ _) (still_alloc _ _)) (still_alloc _ _)) (still_alloc _ _)

/-- One step of two cores that are ready, the first picked. -/
def oneW (W : World) : World := ((W.alloc (.cells ([true, true].map Value.bool).toArray 4)).alloc (.cells #[.slice (some ⟨W.heap.size, 0, none⟩) 2 2] 22)).alloc (.cells (([0] : List Int).map (Value.int .i64)).toArray 3)

theorem oneW_heap (W : World) : (oneW W).heap[W.heap.size]? = some (.cells ([true, true].map Value.bool).toArray 4 (0, 0)) ∧
    (oneW W).heap[W.heap.size + 1]? = some (.cells #[.slice (some ⟨W.heap.size, 0, none⟩) 2 2] 22 (0, 0)) ∧ (oneW W).heap[W.heap.size + 2]? = some (.cells (([0] : List Int).map (Value.int .i64)).toArray 3 (0, 0)) := by
  exact ⟨old_at _ (old_at _ (new_at _ _ rfl)), old_at _ (new_at _ _ (by simp)), new_at _ _ (by simp)⟩

theorem oneW_gr (W : World) : Gr (oneW W) (some ⟨W.heap.size + 1, 0, none⟩) 1 (fun _ => 2) (fun _ _ => true) := by
  obtain ⟨h0, h1, h2⟩ := oneW_heap W
  intro r hr
  match r, hr with
  | 0, _ =>
    refine ⟨_, 0, some ⟨W.heap.size, 0, none⟩, 2, rfl, by simp [World.cell?, h1], fun i hi => ⟨_, 0, rfl, ?_⟩⟩
    match i, hi with
    | 0, _ => simp [World.cell?, h0]
    | 1, _ => simp [World.cell?, h0]

theorem oneW_il (W : World) : Il (oneW W) (some ⟨W.heap.size + 2, 0, none⟩) 1 (fun _ => 0) := by
  obtain ⟨h0, h1, h2⟩ := oneW_heap W
  exact Il.congr (il_at (xs := [0]) h2) fun i hi => by
    match i, hi with
    | 0, _ => rfl

theorem oneW_still (W : World) : Still W (oneW W) := Still.then (Still.then (still_alloc _ _) (still_alloc _ _)) (still_alloc _ _)

set_option maxRecDepth 100000 in
set_option maxHeartbeats 4000000 in
theorem awake_any (w : World) : Calls Try.prog 16 #[] w fun e w' => e = .returned (.bool true) ∧ Still w w' := by
  have hb3 := b3
  have hbf := bf
  have hbt := bt
  have hbtt := btt
  have hi45 := i45
  have hi12 := i12
  have hi00 := i00
  have hi0 := i0
  have hs2 := s2
  have hs1 := s1
  go_enter Try.func16, Try.ntmps16
  go_wp2_with fail
  refine (pick_any (c := 3) (bl_new w [false, true, true]) (by simp) 3).mono ?_
  rintro e w1 ⟨rfl, hS⟩
  rw [show pickAns (places (fun i => [false, true, true].getD i false) [false, true, true].length) 3 = .tuple #[.int .i64 2, .bool true] from by kernel_rfl]
  have HS1 : Hid (Still w w1) := Still.then (still_alloc _ _) hS
  clear hS
  go_wp2_with fail
  refine (pick_any (c := 1) (bl_new w1 [false]) (by simp) 3).mono ?_
  rintro e w2 ⟨rfl, hS⟩
  rw [show pickAns (places (fun i => [false].getD i false) [false].length) 3 = .tuple #[.int .i64 0, .bool false] from by kernel_rfl]
  have HS2 : Hid (Still w w2) := Still.then HS1.out (Still.then (still_alloc _ _) hS)
  clear hS
  go_wp2_with fail
  refine (turns_yes (cp := 2) (il_new w2 [4, 5]) (by simp) 3 (by omega) (by omega)).mono ?_
  rintro e w3 ⟨v, rfl, hO, hS⟩
  have hO2 : Own w3 (w2.alloc (.cells (([4, 5] : List Int).map (Value.int .i64)).toArray 3)).heap.size v [1, 2] := hO
  have HS3 : Hid (Still w w3) := Still.then HS2.out (Still.then (still_alloc _ _) hS)
  obtain ⟨av, cv, rfl⟩ := hO2.isSlice
  have HI : Hid (_) := hO2.il.2
  clear hS hO hO2
  go_wp2_with fail
  refine (sameInts (c1 := cv) (c2 := 2) (Il.still HI.out (still_alloc w3 _)) (il_new w3 [1, 2]) (by simp)).mono ?_
  rintro e w4 ⟨rfl, hS⟩
  have HS4 : Hid (Still w w4) := Still.then HS3.out (Still.then (still_alloc _ _) hS)
  clear hS
  go_wp2_with fail
  refine (fair_any (c := 2) (c2 := 2) (twoW_gr w4) (twoW_il w4) (by omega) (by omega) (fun _ _ => by omega) 1 (by omega)).mono ?_
  rintro e w5 ⟨⟨r, rfl, hr⟩, hS⟩
  have hr2 : r = true := hr.2 (Or.inr fun s hs c => by
    rw [run_none (fun s hb => by
      have h1 : c < 1 := hb.1
      exact hb.2.2 (show (0 : Int) = (c : Int) by omega)) s]
    omega)
  subst hr2
  have HS5 : Hid (Still w w5) := Still.then HS4.out (Still.then (twoW_still _) hS)
  clear hS hr
  go_wp2_with fail
  refine (fair_any (c := 1) (c2 := 1) (oneW_gr w5) (oneW_il w5) (by omega) (by omega) (fun _ _ => by omega) 1 (by omega)).mono ?_
  rintro e w6 ⟨⟨r, rfl, hr⟩, hS⟩
  have hr2 : r = false := by
    cases r with
    | false => rfl
    | true =>
      rcases hr.1 rfl with h | h
      · omega
      · have := h 1 (by omega) 1
        rw [run_bad ⟨by omega, rfl, by simp⟩] at this
        omega
  subst hr2
  have HS6 : Hid (Still w w6) := Still.then HS5.out (Still.then (oneW_still _) hS)
  clear hS hr
  go_wp2_with (first
    | (go_at_call 19; refine (num _ _).mono ?_; rintro e w' ⟨rfl, rfl⟩))
  go_ret
  exact ⟨rfl, HS6.out⟩

end Go.Proofs.Ytehfmmmkhjjjfaa
