/-
  Load, Store, Cas, Add.
-/
import Derived.Test.YtolbjmckebicfaaTouch2
namespace Go.Proofs.Ytolbjmckebicfaa
open Go.RowKit

theorem callFunc25 (args : Array Value) (w : World) : (callFunc 33 args).run Try.prog w = .ok (.enter 33 args) w := by kernel_rfl
theorem callFunc27 (args : Array Value) (w : World) : (callFunc 32 args).run Try.prog w = .ok (.enter 32 args) w := by kernel_rfl
theorem box_cell {w : World} {b : Nat} {x : Value} {t : TypeId} (h : w.heap[b]? = some (.cells #[x] t (0, 0))) : w.cell? ⟨b, 0, none⟩ = some x := by
  simp [World.cell?, h]

theorem ATo.fresh {G : List Nat} {w w1 w2 : World} {p q : Ap} (hk : Kept [] w w1) (h : ATo G w1 p w2 q) (hG : ∀ x ∈ G, w.heap.size ≤ x) : ATo [] w p w2 q :=
  ⟨h.b, (hk.mono (by simp)).trans h.kept (fun x hx => by
    rcases List.mem_append.1 hx with h1 | h1
    · exact Or.inr (hG x h1)
    · exact Or.inl (by simpa using h1)), fun k hk2 => by
    rcases h.new k hk2 with h1 | h1
    · exact Or.inl h1
    · exact Or.inr (Nat.le_trans hk.size h1)⟩

theorem load_work {w : World} {g : Nat} {x : Value} (z : Int) (hg : w.heap[g]? = some (.cells #[x] 3 (0, 0))) :
    Calls Try.prog 33 #[.int .i64 z, .pointer (some ⟨g, 0, none⟩)] w fun e w2 => e = .returned (chv none) ∧ Kept [g] w w2 ∧ w2.cell? ⟨g, 0, none⟩ = some (.int .i64 z) := by
  have c0 := box_cell hg
  have f0 := block_frozen hg 0
  have HG : Hid (_) := hg
  clear hg
  go_enter Try.func33, Try.ntmps33
  go_wp2
  go_ret
  exact ⟨rfl, (Kept.refl _ _).setCell (by simp) _, box_cell (block_set HG.out _)⟩

theorem store_work {w : World} {g : Nat} (y z : Int) (hg : w.heap[g]? = some (.cells #[.int .i64 z] 3 (0, 0))) :
    Calls Try.prog 32 #[.int .i64 y, .pointer (some ⟨g, 0, none⟩)] w fun e w2 => e = .returned (chv (some z)) ∧ Kept [g] w w2 ∧ w2.cell? ⟨g, 0, none⟩ = some (.int .i64 z) := by
  have c0 := box_cell hg
  go_enter Try.func32, Try.ntmps32
  go_wp2
  go_ret
  exact ⟨rfl, Kept.refl _ _, c0⟩

set_option maxHeartbeats 1000000 in
theorem load_nocore {w : World} {p : Ap} {A : Ar} (h : ArIs 52 w p A) (c k : Int) (hc : c < 0 ∨ (A.traces.length : Int) ≤ c) :
    Calls Try.prog 30 #[.pointer (some ⟨p.b, 0, none⟩), .int .i64 c, .int .i64 k] w fun e w' => e = .returned (.tuple #[.int .i64 0, .int .i64 202]) ∧ Kept [] w w' := by
  have hK : Kept [] w (w.alloc (.cells #[.int .i64 0] 3)) := ((Kept.refl _ _).alloc _)
  have hm := h.kept0 hK
  have HX : Hid (_ ∧ _) := ⟨hK, hm⟩
  clear hK hm h
  go_enter Try.func30, Try.ntmps30
  go_wp2_with fail
  obtain ⟨hK, hm⟩ := HX.out
  refine (touch_nocore hm c k _ hc).mono ?_
  rintro e w' ⟨rfl, rfl⟩
  have HY : Hid (_) := hK
  clear hK hm HX
  go_wp2
  go_ret2
  exact ⟨rfl, HY.out⟩

set_option maxHeartbeats 1000000 in
theorem load_noplace {w : World} {p : Ap} {A : Ar} (h : ArIs 52 w p A) (c : Nat) (k : Int) (hc : c < A.traces.length) (hk : k < 0 ∨ (A.words.length : Int) ≤ k) :
    Calls Try.prog 30 #[.pointer (some ⟨p.b, 0, none⟩), .int .i64 (c : Int), .int .i64 k] w fun e w' => e = .returned (.tuple #[.int .i64 0, .int .i64 201]) ∧ Kept [] w w' := by
  have hK : Kept [] w (w.alloc (.cells #[.int .i64 0] 3)) := ((Kept.refl _ _).alloc _)
  have hm := h.kept0 hK
  have HX : Hid (_ ∧ _) := ⟨hK, hm⟩
  clear hK hm h
  go_enter Try.func30, Try.ntmps30
  go_wp2_with fail
  obtain ⟨hK, hm⟩ := HX.out
  refine (touch_noplace hm c k _ hc hk).mono ?_
  rintro e w' ⟨rfl, rfl⟩
  have HY : Hid (_) := hK
  clear hK hm HX
  go_wp2
  go_ret2
  exact ⟨rfl, HY.out⟩

set_option maxHeartbeats 1000000 in
theorem load_yes {w : World} {p : Ap} {A : Ar} (h : ArIs 52 w p A) (c k : Nat) (hc : c < A.traces.length) (hk : k < A.words.length) (hn : (A.traces.getD c []).length < 1000000) :
    Calls Try.prog 30 #[.pointer (some ⟨p.b, 0, none⟩), .int .i64 (c : Int), .int .i64 (k : Int)] w fun e w' => e = .returned (.tuple #[.int .i64 (wordAt A.words k), .int .i64 0]) ∧ ∃ p', ATo [] w p w' p' ∧ ArIs 52 w' p' (A.touch c k none) := by
  have hK : Kept [] w (w.alloc (.cells #[.int .i64 0] 3)) := ((Kept.refl _ _).alloc _)
  have hm := h.kept0 hK
  have b0 : (w.alloc (.cells #[.int .i64 0] 3)).heap[w.heap.size]? = some (.cells #[.int .i64 0] 3 (0, 0)) := by
    have e := heap_alloc_new w (.cells #[.int .i64 0] 3)
    exact e
  have HX : Hid (_ ∧ _ ∧ _ ∧ _) := ⟨hK, hm, h, b0⟩
  clear hK hm h b0
  go_enter Try.func30, Try.ntmps30
  go_wp2_with fail
  obtain ⟨hK, hm, h, b0⟩ := HX.out
  refine (touch_read hm c k hc hk hn (w.heap.size) (fun hx => by have := h.blocks_lt _ hx; omega) (.int .i64 (wordAt A.words k)) 33 #[.pointer (some ⟨w.heap.size, 0, none⟩)] callFunc25 (load_work (wordAt A.words k) b0)).mono ?_
  rintro e w' ⟨rfl, hu, p', hto, ha⟩
  have HY : Hid (_ ∧ _) := ⟨ATo.fresh hK hto (by intro x hx; simp only [List.mem_singleton] at hx; omega), ha⟩
  clear hK hm b0 h hto ha HX
  go_wp2
  go_ret2
  exact ⟨rfl, p', HY.out.1, HY.out.2⟩

set_option maxHeartbeats 1000000 in
theorem store_nocore {w : World} {p : Ap} {A : Ar} (h : ArIs 52 w p A) (c k : Int) (z : Int) (hc : c < 0 ∨ (A.traces.length : Int) ≤ c) :
    Calls Try.prog 28 #[.pointer (some ⟨p.b, 0, none⟩), .int .i64 c, .int .i64 k, .int .i64 z] w fun e w' => e = .returned (.int .i64 202) ∧ Kept [] w w' := by
  have hK : Kept [] w (w.alloc (.cells #[.int .i64 z] 3)) := ((Kept.refl _ _).alloc _)
  have hm := h.kept0 hK
  have HX : Hid (_ ∧ _) := ⟨hK, hm⟩
  clear hK hm h
  go_enter Try.func28, Try.ntmps28
  go_wp2_with fail
  obtain ⟨hK, hm⟩ := HX.out
  refine (touch_nocore hm c k _ hc).mono ?_
  rintro e w' ⟨rfl, rfl⟩
  have HY : Hid (_) := hK
  clear hK hm HX
  go_wp2
  go_ret
  exact ⟨rfl, HY.out⟩

set_option maxHeartbeats 1000000 in
theorem store_noplace {w : World} {p : Ap} {A : Ar} (h : ArIs 52 w p A) (c : Nat) (k : Int) (z : Int) (hc : c < A.traces.length) (hk : k < 0 ∨ (A.words.length : Int) ≤ k) :
    Calls Try.prog 28 #[.pointer (some ⟨p.b, 0, none⟩), .int .i64 (c : Int), .int .i64 k, .int .i64 z] w fun e w' => e = .returned (.int .i64 201) ∧ Kept [] w w' := by
  have hK : Kept [] w (w.alloc (.cells #[.int .i64 z] 3)) := ((Kept.refl _ _).alloc _)
  have hm := h.kept0 hK
  have HX : Hid (_ ∧ _) := ⟨hK, hm⟩
  clear hK hm h
  go_enter Try.func28, Try.ntmps28
  go_wp2_with fail
  obtain ⟨hK, hm⟩ := HX.out
  refine (touch_noplace hm c k _ hc hk).mono ?_
  rintro e w' ⟨rfl, rfl⟩
  have HY : Hid (_) := hK
  clear hK hm HX
  go_wp2
  go_ret
  exact ⟨rfl, HY.out⟩

set_option maxHeartbeats 1000000 in
theorem store_yes {w : World} {p : Ap} {A : Ar} (h : ArIs 52 w p A) (c k : Nat) (z : Int) (hc : c < A.traces.length) (hk : k < A.words.length) (hn : (A.traces.getD c []).length < 1000000) :
    Calls Try.prog 28 #[.pointer (some ⟨p.b, 0, none⟩), .int .i64 (c : Int), .int .i64 (k : Int), .int .i64 z] w fun e w' => e = .returned (.int .i64 0) ∧ ∃ p', ATo [] w p w' p' ∧ ArIs 52 w' p' (A.touch c k (some z)) := by
  have hK : Kept [] w (w.alloc (.cells #[.int .i64 z] 3)) := ((Kept.refl _ _).alloc _)
  have hm := h.kept0 hK
  have b0 : (w.alloc (.cells #[.int .i64 z] 3)).heap[w.heap.size]? = some (.cells #[.int .i64 z] 3 (0, 0)) := by
    have e := heap_alloc_new w (.cells #[.int .i64 z] 3)
    exact e
  have HX : Hid (_ ∧ _ ∧ _ ∧ _) := ⟨hK, hm, h, b0⟩
  clear hK hm h b0
  go_enter Try.func28, Try.ntmps28
  go_wp2_with fail
  obtain ⟨hK, hm, h, b0⟩ := HX.out
  refine (touch_write hm c k hc hk hn (w.heap.size) (fun hx => by have := h.blocks_lt _ hx; omega) (.int .i64 z) 32 #[.pointer (some ⟨w.heap.size, 0, none⟩)] z callFunc27 (store_work (wordAt A.words k) z b0)).mono ?_
  rintro e w' ⟨rfl, hu, p', hto, ha⟩
  have HY : Hid (_ ∧ _) := ⟨ATo.fresh hK hto (by intro x hx; simp only [List.mem_singleton] at hx; omega), ha⟩
  clear hK hm b0 h hto ha HX
  go_wp2
  go_ret
  exact ⟨rfl, p', HY.out.1, HY.out.2⟩

end Go.Proofs.Ytolbjmckebicfaa
