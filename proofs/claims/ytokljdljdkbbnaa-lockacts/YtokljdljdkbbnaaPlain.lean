/-
  What the law LockActs holds the locks against: one call on plain words.
-/
import Derived.Test.YtokljdljdkbbnaaGrow
import Derived.Deep.RegionHeld3
import Derived.Deep.Draws
namespace Go.Proofs.Ytokljdljdkbbnaa
open Go.RowKit
set_option linter.unusedVariables false

theorem Row.alloc {w : World} {v : Value} {t : List (Int × Bool)} (h : Row w v t) (o : Obj) : Row (w.alloc o) v t := h.still ((Kept.refl _ _).alloc o)

theorem Row.set {w : World} {v u : Value} {t : List (Int × Bool)} {g k : Nat} (h : Row w v t) (hg : v.ownBlock ≠ some g) : Row (w.setCell ⟨g, k, none⟩ u) v t :=
  h.same fun x e => block_other fun e2 => hg (by rw [e, e2])

/-- One access, just built. -/
theorem row_one (w : World) (k : Int) (x : Bool) : Row (w.alloc (.cells #[.int .i64 k, .bool x] 60)) (.slice (some ⟨w.heap.size, 0, none⟩) 1 1) [(k, x)] :=
  row_built (cs := #[.int .i64 k, .bool x]) rfl (by simp) (by simp) (heap_alloc_new w _) 1 1 rfl rfl

theorem row_two (w : World) (k : Int) (x y : Bool) : Row (w.alloc (.cells #[.int .i64 k, .bool x, .int .i64 k, .bool y] 60)) (.slice (some ⟨w.heap.size, 0, none⟩) 2 2) [(k, x), (k, y)] :=
  row_built (cs := #[.int .i64 k, .bool x, .int .i64 k, .bool y]) rfl (by simp) (by simp) (heap_alloc_new w _) 2 2 rfl rfl

theorem words_cell {w : World} {g : Nat} {ws : List Int} (h : w.heap[g]? = some (.cells (i64s ws) 3 (0, 0))) {k : Nat} (hk : k < ws.length) : w.cell? ⟨g, k, none⟩ = some (.int .i64 (wordAt ws k)) := by
  simp [World.cell?, h, i64s, wordAt, List.getD, hk]

/-- Words and boxes behind plain's three makings. -/
theorem words_still {w w' : World} {g : Nat} {ob : Obj} (h : w.heap[g]? = some ob) (hk : Kept [] w w') : w'.heap[g]? = some ob := by
  rw [hk.block g (lt_of_heap h) (by simp)]; exact h

theorem words_put {w : World} {g k : Nat} {ws : List Int} (h : w.heap[g]? = some (.cells (i64s ws) 3 (0, 0))) (z : Int) : (w.setCell ⟨g, k, none⟩ (.int .i64 z)).heap[g]? = some (.cells (i64s (ws.set k z)) 3 (0, 0)) := by
  rw [block_set h]; simp [i64s, List.map_set]

theorem results_tmp4 {fn : Func} {t u v x : Tmp} (h : fn.results = #[.tmp t, .tmp u, .tmp v, .tmp x]) (tmps : Array Value) (P : Program) (w : World) :
    (results fn tmps).run P w = .ok (.tuple #[tmps.getD t undef, tmps.getD u undef, tmps.getD v undef, tmps.getD x undef]) w := by
  simp [results, h]

theorem row_read (w : World) (o1 o3 : Obj) (k : Int) : Row (((w.alloc o1).alloc (.cells #[.int .i64 k, .bool false] 60)).alloc o3) (.slice (some ⟨w.heap.size + 1, 0, none⟩) 1 1) [(k, false)] := by
  have h := (row_one (w.alloc o1) k false).alloc o3
  rw [show (w.alloc o1).heap.size = w.heap.size + 1 from by simp] at h
  exact h

theorem row_write (w : World) (o1 o2 : Obj) (k : Int) : Row (((w.alloc o1).alloc o2).alloc (.cells #[.int .i64 k, .bool true] 60)) (.slice (some ⟨w.heap.size + 1 + 1, 0, none⟩) 1 1) [(k, true)] := by
  have h := row_one ((w.alloc o1).alloc o2) k true
  rw [show ((w.alloc o1).alloc o2).heap.size = w.heap.size + 1 + 1 from by simp] at h
  exact h

theorem box4 {w : World} {b : Nat} {x y z u : Value} {t : TypeId} (h : w.heap[b]? = some (.cells #[x, y, z, u] t (0, 0))) : w.cell? ⟨b, 0, none⟩ = some x ∧ w.cell? ⟨b, 1, none⟩ = some y ∧ w.cell? ⟨b, 2, none⟩ = some z ∧ w.cell? ⟨b, 3, none⟩ = some u := by
  simp [World.cell?, h]

theorem kept3 (w : World) (o1 o2 o3 : Obj) : Kept [] w (((w.alloc o1).alloc o2).alloc o3) := ((((Kept.refl [] w).alloc o1).alloc o2).alloc o3)

set_option maxRecDepth 100000 in
set_option maxHeartbeats 4000000 in
theorem p_try_no0 (V z : Int) (c k g : Nat) (ws : List Int) (w : World) (h : w.heap[g]? = some (.cells (i64s ws) 3 (0, 0))) (hl : ws.length = 4) (hc : c < 3) (hk : k < 4) (hz : wordAt ws k = z) (hy : z ≠ 0) :
    Calls Try.prog 16 #[.slice (some ⟨g, 0, none⟩) 4 4, .agg #[.int .i64 0, .int .i64 (c : Int), .int .i64 (k : Int), .int .i64 V]] w fun e w' => ∃ u, e = .returned (.tuple #[.int .i64 0, .bool false, .int .i64 0, u]) ∧ Row w' u [((k : Int), false)] ∧ Kept [g] w w' ∧ w'.heap[g]? = some (.cells (i64s ws) 3 (0, 0)) := by
  have c0 := words_cell h (k := k) (by omega)
  rw [hz] at c0
  have hlt := lt_of_heap h
  have hw3 := words_still h (kept3 w (.cells #[.int .i64 0, .int .i64 (c : Int), .int .i64 (k : Int), .int .i64 V] 30) (.cells #[.int .i64 (k : Int), .bool false] 60) (.cells #[.int .i64 (k : Int), .bool true] 60))
  have fz := block_frozen hw3 k
  have fc := words_cell hw3 (k := k) (by omega)
  rw [hz] at fc
  have i0 : (0 : Int) ≤ (k : Int) := by omega
  have i1 : (k : Int) < 4 := by omega
  have t1 : (z == 0) = false := by simp [hy]
  have t2 : (z != 0) = true := by simp [hy]
  clear hy
  have HH : Hid (_) := h
  clear h hz hw3
  go_enter Try.func16, Try.ntmps16
  go_wp2_with fail
  (try simp only [Exit.inBlock, Exit.then])
  refine bodyPost_ret (results_tmp4 rfl _ _ _) rfl ?_
  exact ⟨_, rfl, row_read w _ _ _, (kept3 w _ _ _).mono (by simp), words_still HH.out (kept3 w _ _ _)⟩

set_option maxRecDepth 100000 in
set_option maxHeartbeats 4000000 in
theorem p_try_yes0 (V z : Int) (c k g : Nat) (ws : List Int) (w : World) (h : w.heap[g]? = some (.cells (i64s ws) 3 (0, 0))) (hl : ws.length = 4) (hc : c < 3) (hk : k < 4) (hz : wordAt ws k = z) (hy : z = 0) :
    Calls Try.prog 16 #[.slice (some ⟨g, 0, none⟩) 4 4, .agg #[.int .i64 0, .int .i64 (c : Int), .int .i64 (k : Int), .int .i64 V]] w fun e w' => ∃ u, e = .returned (.tuple #[.int .i64 0, .bool true, .int .i64 0, u]) ∧ Row w' u [((k : Int), true)] ∧ Kept [g] w w' ∧ w'.heap[g]? = some (.cells (i64s (ws.set k ((c : Int) + 1))) 3 (0, 0)) := by
  have c0 := words_cell h (k := k) (by omega)
  rw [hz] at c0
  have hlt := lt_of_heap h
  have hw3 := words_still h (kept3 w (.cells #[.int .i64 0, .int .i64 (c : Int), .int .i64 (k : Int), .int .i64 V] 30) (.cells #[.int .i64 (k : Int), .bool false] 60) (.cells #[.int .i64 (k : Int), .bool true] 60))
  have fz := block_frozen hw3 k
  have fc := words_cell hw3 (k := k) (by omega)
  rw [hz] at fc
  have i0 : (0 : Int) ≤ (k : Int) := by omega
  have i1 : (k : Int) < 4 := by omega
  subst hy
  have hw : wrap64 ((c : Int) + 1) = (c : Int) + 1 := wrap_small _ (by omega) (by omega)
  have HH : Hid (_) := h
  clear h hz hw3
  go_enter Try.func16, Try.ntmps16
  go_wp2_with fail
  (try simp only [Exit.inBlock, Exit.then])
  refine bodyPost_ret (results_tmp4 rfl _ _ _) rfl ?_
  exact ⟨_, rfl, (row_write w _ _ _).set (by simp [Value.ownBlock]; omega), ((kept3 w _ _ _).mono (by simp)).setCell (Or.inl (by simp)) _, words_put (words_still HH.out (kept3 w _ _ _)) _⟩

set_option maxRecDepth 100000 in
set_option maxHeartbeats 4000000 in
theorem p_try_no1 (V z : Int) (c k g : Nat) (ws : List Int) (w : World) (h : w.heap[g]? = some (.cells (i64s ws) 3 (0, 0))) (hl : ws.length = 4) (hc : c < 3) (hk : k < 4) (hz : wordAt ws k = z) (hy : z ≠ 0) :
    Calls Try.prog 16 #[.slice (some ⟨g, 0, none⟩) 4 4, .agg #[.int .i64 1, .int .i64 (c : Int), .int .i64 (k : Int), .int .i64 V]] w fun e w' => ∃ u, e = .returned (.tuple #[.int .i64 0, .bool false, .int .i64 0, u]) ∧ Row w' u [((k : Int), false)] ∧ Kept [g] w w' ∧ w'.heap[g]? = some (.cells (i64s ws) 3 (0, 0)) := by
  have c0 := words_cell h (k := k) (by omega)
  rw [hz] at c0
  have hlt := lt_of_heap h
  have hw3 := words_still h (kept3 w (.cells #[.int .i64 1, .int .i64 (c : Int), .int .i64 (k : Int), .int .i64 V] 30) (.cells #[.int .i64 (k : Int), .bool false] 60) (.cells #[.int .i64 (k : Int), .bool true] 60))
  have fz := block_frozen hw3 k
  have fc := words_cell hw3 (k := k) (by omega)
  rw [hz] at fc
  have i0 : (0 : Int) ≤ (k : Int) := by omega
  have i1 : (k : Int) < 4 := by omega
  have t1 : (z == 0) = false := by simp [hy]
  have t2 : (z != 0) = true := by simp [hy]
  clear hy
  have HH : Hid (_) := h
  clear h hz hw3
  go_enter Try.func16, Try.ntmps16
  go_wp2_with fail
  (try simp only [Exit.inBlock, Exit.then])
  refine bodyPost_ret (results_tmp4 rfl _ _ _) rfl ?_
  exact ⟨_, rfl, row_read w _ _ _, (kept3 w _ _ _).mono (by simp), words_still HH.out (kept3 w _ _ _)⟩

set_option maxRecDepth 100000 in
set_option maxHeartbeats 4000000 in
theorem p_try_yes1 (V z : Int) (c k g : Nat) (ws : List Int) (w : World) (h : w.heap[g]? = some (.cells (i64s ws) 3 (0, 0))) (hl : ws.length = 4) (hc : c < 3) (hk : k < 4) (hz : wordAt ws k = z) (hy : z = 0) :
    Calls Try.prog 16 #[.slice (some ⟨g, 0, none⟩) 4 4, .agg #[.int .i64 1, .int .i64 (c : Int), .int .i64 (k : Int), .int .i64 V]] w fun e w' => ∃ u, e = .returned (.tuple #[.int .i64 0, .bool true, .int .i64 0, u]) ∧ Row w' u [((k : Int), true)] ∧ Kept [g] w w' ∧ w'.heap[g]? = some (.cells (i64s (ws.set k ((c : Int) + 1))) 3 (0, 0)) := by
  have c0 := words_cell h (k := k) (by omega)
  rw [hz] at c0
  have hlt := lt_of_heap h
  have hw3 := words_still h (kept3 w (.cells #[.int .i64 1, .int .i64 (c : Int), .int .i64 (k : Int), .int .i64 V] 30) (.cells #[.int .i64 (k : Int), .bool false] 60) (.cells #[.int .i64 (k : Int), .bool true] 60))
  have fz := block_frozen hw3 k
  have fc := words_cell hw3 (k := k) (by omega)
  rw [hz] at fc
  have i0 : (0 : Int) ≤ (k : Int) := by omega
  have i1 : (k : Int) < 4 := by omega
  subst hy
  have hw : wrap64 ((c : Int) + 1) = (c : Int) + 1 := wrap_small _ (by omega) (by omega)
  have HH : Hid (_) := h
  clear h hz hw3
  go_enter Try.func16, Try.ntmps16
  go_wp2_with fail
  (try simp only [Exit.inBlock, Exit.then])
  refine bodyPost_ret (results_tmp4 rfl _ _ _) rfl ?_
  exact ⟨_, rfl, (row_write w _ _ _).set (by simp [Value.ownBlock]; omega), ((kept3 w _ _ _).mono (by simp)).setCell (Or.inl (by simp)) _, words_put (words_still HH.out (kept3 w _ _ _)) _⟩

set_option maxRecDepth 100000 in
set_option maxHeartbeats 4000000 in
theorem p_unlock_no2 (V z : Int) (c k g : Nat) (ws : List Int) (w : World) (h : w.heap[g]? = some (.cells (i64s ws) 3 (0, 0))) (hl : ws.length = 4) (hc : c < 3) (hk : k < 4) (hz : wordAt ws k = z) (hy : z ≠ (c : Int) + 1) :
    Calls Try.prog 16 #[.slice (some ⟨g, 0, none⟩) 4 4, .agg #[.int .i64 2, .int .i64 (c : Int), .int .i64 (k : Int), .int .i64 V]] w fun e w' => ∃ u, e = .returned (.tuple #[.int .i64 0, .bool false, .int .i64 501, u]) ∧ Row w' u [((k : Int), false)] ∧ Kept [g] w w' ∧ w'.heap[g]? = some (.cells (i64s ws) 3 (0, 0)) := by
  have c0 := words_cell h (k := k) (by omega)
  rw [hz] at c0
  have hlt := lt_of_heap h
  have hw3 := words_still h (kept3 w (.cells #[.int .i64 2, .int .i64 (c : Int), .int .i64 (k : Int), .int .i64 V] 30) (.cells #[.int .i64 (k : Int), .bool false] 60) (.cells #[.int .i64 (k : Int), .bool true] 60))
  have fz := block_frozen hw3 k
  have fc := words_cell hw3 (k := k) (by omega)
  rw [hz] at fc
  have i0 : (0 : Int) ≤ (k : Int) := by omega
  have i1 : (k : Int) < 4 := by omega
  have hw : wrap64 ((c : Int) + 1) = (c : Int) + 1 := wrap_small _ (by omega) (by omega)
  have t1 : (z == (c : Int) + 1) = false := by simp [hy]
  have t2 : (z != (c : Int) + 1) = true := by simp [hy]
  clear hy
  have HH : Hid (_) := h
  clear h hz hw3
  go_enter Try.func16, Try.ntmps16
  go_wp2_with fail
  (try simp only [Exit.inBlock, Exit.then])
  refine bodyPost_ret (results_tmp4 rfl _ _ _) rfl ?_
  exact ⟨_, rfl, row_read w _ _ _, (kept3 w _ _ _).mono (by simp), words_still HH.out (kept3 w _ _ _)⟩

set_option maxRecDepth 100000 in
set_option maxHeartbeats 4000000 in
theorem p_unlock_yes2 (V z : Int) (c k g : Nat) (ws : List Int) (w : World) (h : w.heap[g]? = some (.cells (i64s ws) 3 (0, 0))) (hl : ws.length = 4) (hc : c < 3) (hk : k < 4) (hz : wordAt ws k = z) (hy : z = (c : Int) + 1) :
    Calls Try.prog 16 #[.slice (some ⟨g, 0, none⟩) 4 4, .agg #[.int .i64 2, .int .i64 (c : Int), .int .i64 (k : Int), .int .i64 V]] w fun e w' => ∃ u, e = .returned (.tuple #[.int .i64 0, .bool false, .int .i64 0, u]) ∧ Row w' u [((k : Int), false), ((k : Int), true)] ∧ Kept [g] w w' ∧ w'.heap[g]? = some (.cells (i64s (ws.set k 0)) 3 (0, 0)) := by
  have c0 := words_cell h (k := k) (by omega)
  rw [hz] at c0
  have hlt := lt_of_heap h
  have hw3 := words_still h (kept3 w (.cells #[.int .i64 2, .int .i64 (c : Int), .int .i64 (k : Int), .int .i64 V] 30) (.cells #[.int .i64 (k : Int), .bool false] 60) (.cells #[.int .i64 (k : Int), .bool true] 60))
  have fz := block_frozen hw3 k
  have fc := words_cell hw3 (k := k) (by omega)
  rw [hz] at fc
  have i0 : (0 : Int) ≤ (k : Int) := by omega
  have i1 : (k : Int) < 4 := by omega
  have hw : wrap64 ((c : Int) + 1) = (c : Int) + 1 := wrap_small _ (by omega) (by omega)
  subst hy
  have HH : Hid (_) := h
  clear h hz hw3
  go_enter Try.func16, Try.ntmps16
  go_wp2_with fail
  obtain ⟨W, hW⟩ : ∃ W, W = ((((w.alloc (.cells #[.int .i64 2, .int .i64 (c : Int), .int .i64 (k : Int), .int .i64 V] 30)).alloc (.cells #[.int .i64 (k : Int), .bool false] 60)).alloc (.cells #[.int .i64 (k : Int), .bool true] 60)).setCell ⟨g, k, none⟩ (.int .i64 0)) := ⟨_, rfl⟩
  rw [← hW]
  have HW : Hid (Kept [g] w W ∧ W.heap[g]? = some (.cells (i64s (ws.set k 0)) 3 (0, 0))) := by
    rw [hW]
    exact ⟨((kept3 w _ _ _).mono (by simp)).setCell (Or.inl (by simp)) _, words_put (words_still HH.out (kept3 w _ _ _)) _⟩
  have bx : W.drew.cell? ⟨w.heap.size, 2, none⟩ = some (.int .i64 (k : Int)) := by
    rw [hW]
    show ((((w.alloc (.cells #[.int .i64 2, .int .i64 (c : Int), .int .i64 (k : Int), .int .i64 V] 30)).alloc (.cells #[.int .i64 (k : Int), .bool false] 60)).alloc (.cells #[.int .i64 (k : Int), .bool true] 60)).setCell ⟨g, k, none⟩ (.int .i64 0)).cell? ⟨w.heap.size, 2, none⟩ = _
    refine cell_other ?_ (by omega)
    exact (((Kept.refl [] (w.alloc (.cells #[.int .i64 2, .int .i64 (c : Int), .int .i64 (k : Int), .int .i64 V] 30))).alloc _).alloc _).cell (box4 (heap_alloc_new w (.cells #[.int .i64 2, .int .i64 (c : Int), .int .i64 (k : Int), .int .i64 V] 30))).2.2.1 (by simp)
  clear hW fz fc c0 HH
  have zk : (W.alloc (.cells #[.int .i64 (k : Int), .bool false, .int .i64 (k : Int), .bool true] 60)).drew.cell? ⟨w.heap.size, 2, none⟩ = some (.int .i64 (k : Int)) := ((Kept.refl [] W.drew).alloc (.cells #[.int .i64 (k : Int), .bool false, .int .i64 (k : Int), .bool true] 60)).cell bx (by simp)
  go_region_held3 (fun w' => w'.cell? ⟨w.heap.size, 2, none⟩ = some (.int .i64 (k : Int))) (first | exact zk | go_keep) (fail)
  go_wp2_with fail
  (try simp only [Exit.inBlock, Exit.then])
  refine bodyPost_ret (results_tmp4 rfl _ _ _) rfl ?_
  exact ⟨_, rfl, (row_two W _ false true).still (Kept.refl _ _).drew, (HW.out.1.alloc _).drew, words_still HW.out.2 ((Kept.refl [] W).alloc _).drew⟩

set_option maxRecDepth 100000 in
set_option maxHeartbeats 4000000 in
theorem p_unlock_no3 (V z : Int) (c k g : Nat) (ws : List Int) (w : World) (h : w.heap[g]? = some (.cells (i64s ws) 3 (0, 0))) (hl : ws.length = 4) (hc : c < 3) (hk : k < 4) (hz : wordAt ws k = z) (hy : z ≠ (c : Int) + 1) :
    Calls Try.prog 16 #[.slice (some ⟨g, 0, none⟩) 4 4, .agg #[.int .i64 3, .int .i64 (c : Int), .int .i64 (k : Int), .int .i64 V]] w fun e w' => ∃ u, e = .returned (.tuple #[.int .i64 0, .bool false, .int .i64 501, u]) ∧ Row w' u [((k : Int), false)] ∧ Kept [g] w w' ∧ w'.heap[g]? = some (.cells (i64s ws) 3 (0, 0)) := by
  have c0 := words_cell h (k := k) (by omega)
  rw [hz] at c0
  have hlt := lt_of_heap h
  have hw3 := words_still h (kept3 w (.cells #[.int .i64 3, .int .i64 (c : Int), .int .i64 (k : Int), .int .i64 V] 30) (.cells #[.int .i64 (k : Int), .bool false] 60) (.cells #[.int .i64 (k : Int), .bool true] 60))
  have fz := block_frozen hw3 k
  have fc := words_cell hw3 (k := k) (by omega)
  rw [hz] at fc
  have i0 : (0 : Int) ≤ (k : Int) := by omega
  have i1 : (k : Int) < 4 := by omega
  have hw : wrap64 ((c : Int) + 1) = (c : Int) + 1 := wrap_small _ (by omega) (by omega)
  have t1 : (z == (c : Int) + 1) = false := by simp [hy]
  have t2 : (z != (c : Int) + 1) = true := by simp [hy]
  clear hy
  have HH : Hid (_) := h
  clear h hz hw3
  go_enter Try.func16, Try.ntmps16
  go_wp2_with fail
  (try simp only [Exit.inBlock, Exit.then])
  refine bodyPost_ret (results_tmp4 rfl _ _ _) rfl ?_
  exact ⟨_, rfl, row_read w _ _ _, (kept3 w _ _ _).mono (by simp), words_still HH.out (kept3 w _ _ _)⟩

set_option maxRecDepth 100000 in
set_option maxHeartbeats 4000000 in
theorem p_unlock_yes3 (V z : Int) (c k g : Nat) (ws : List Int) (w : World) (h : w.heap[g]? = some (.cells (i64s ws) 3 (0, 0))) (hl : ws.length = 4) (hc : c < 3) (hk : k < 4) (hz : wordAt ws k = z) (hy : z = (c : Int) + 1) :
    Calls Try.prog 16 #[.slice (some ⟨g, 0, none⟩) 4 4, .agg #[.int .i64 3, .int .i64 (c : Int), .int .i64 (k : Int), .int .i64 V]] w fun e w' => ∃ u, e = .returned (.tuple #[.int .i64 0, .bool false, .int .i64 0, u]) ∧ Row w' u [((k : Int), false), ((k : Int), true)] ∧ Kept [g] w w' ∧ w'.heap[g]? = some (.cells (i64s (ws.set k 0)) 3 (0, 0)) := by
  have c0 := words_cell h (k := k) (by omega)
  rw [hz] at c0
  have hlt := lt_of_heap h
  have hw3 := words_still h (kept3 w (.cells #[.int .i64 3, .int .i64 (c : Int), .int .i64 (k : Int), .int .i64 V] 30) (.cells #[.int .i64 (k : Int), .bool false] 60) (.cells #[.int .i64 (k : Int), .bool true] 60))
  have fz := block_frozen hw3 k
  have fc := words_cell hw3 (k := k) (by omega)
  rw [hz] at fc
  have i0 : (0 : Int) ≤ (k : Int) := by omega
  have i1 : (k : Int) < 4 := by omega
  have hw : wrap64 ((c : Int) + 1) = (c : Int) + 1 := wrap_small _ (by omega) (by omega)
  subst hy
  have HH : Hid (_) := h
  clear h hz hw3
  go_enter Try.func16, Try.ntmps16
  go_wp2_with fail
  obtain ⟨W, hW⟩ : ∃ W, W = ((((w.alloc (.cells #[.int .i64 3, .int .i64 (c : Int), .int .i64 (k : Int), .int .i64 V] 30)).alloc (.cells #[.int .i64 (k : Int), .bool false] 60)).alloc (.cells #[.int .i64 (k : Int), .bool true] 60)).setCell ⟨g, k, none⟩ (.int .i64 0)) := ⟨_, rfl⟩
  rw [← hW]
  have HW : Hid (Kept [g] w W ∧ W.heap[g]? = some (.cells (i64s (ws.set k 0)) 3 (0, 0))) := by
    rw [hW]
    exact ⟨((kept3 w _ _ _).mono (by simp)).setCell (Or.inl (by simp)) _, words_put (words_still HH.out (kept3 w _ _ _)) _⟩
  have bx : W.drew.cell? ⟨w.heap.size, 2, none⟩ = some (.int .i64 (k : Int)) := by
    rw [hW]
    show ((((w.alloc (.cells #[.int .i64 3, .int .i64 (c : Int), .int .i64 (k : Int), .int .i64 V] 30)).alloc (.cells #[.int .i64 (k : Int), .bool false] 60)).alloc (.cells #[.int .i64 (k : Int), .bool true] 60)).setCell ⟨g, k, none⟩ (.int .i64 0)).cell? ⟨w.heap.size, 2, none⟩ = _
    refine cell_other ?_ (by omega)
    exact (((Kept.refl [] (w.alloc (.cells #[.int .i64 3, .int .i64 (c : Int), .int .i64 (k : Int), .int .i64 V] 30))).alloc _).alloc _).cell (box4 (heap_alloc_new w (.cells #[.int .i64 3, .int .i64 (c : Int), .int .i64 (k : Int), .int .i64 V] 30))).2.2.1 (by simp)
  clear hW fz fc c0 HH
  have zk : (W.alloc (.cells #[.int .i64 (k : Int), .bool false, .int .i64 (k : Int), .bool true] 60)).drew.cell? ⟨w.heap.size, 2, none⟩ = some (.int .i64 (k : Int)) := ((Kept.refl [] W.drew).alloc (.cells #[.int .i64 (k : Int), .bool false, .int .i64 (k : Int), .bool true] 60)).cell bx (by simp)
  go_region_held3 (fun w' => w'.cell? ⟨w.heap.size, 2, none⟩ = some (.int .i64 (k : Int))) (first | exact zk | go_keep) (fail)
  go_wp2_with fail
  (try simp only [Exit.inBlock, Exit.then])
  refine bodyPost_ret (results_tmp4 rfl _ _ _) rfl ?_
  exact ⟨_, rfl, (row_two W _ false true).still (Kept.refl _ _).drew, (HW.out.1.alloc _).drew, words_still HW.out.2 ((Kept.refl [] W).alloc _).drew⟩

set_option maxRecDepth 100000 in
set_option maxHeartbeats 4000000 in
theorem p_holder_low (V z : Int) (c k g : Nat) (ws : List Int) (w : World) (h : w.heap[g]? = some (.cells (i64s ws) 3 (0, 0))) (hl : ws.length = 4) (hc : c < 3) (hk : k < 4) (hz : wordAt ws k = z) (hy : z < 1) :
    Calls Try.prog 16 #[.slice (some ⟨g, 0, none⟩) 4 4, .agg #[.int .i64 4, .int .i64 (c : Int), .int .i64 (k : Int), .int .i64 V]] w fun e w' => ∃ u, e = .returned (.tuple #[.int .i64 (-1), .bool false, .int .i64 0, u]) ∧ Row w' u [((k : Int), false)] ∧ Kept [g] w w' ∧ w'.heap[g]? = some (.cells (i64s ws) 3 (0, 0)) := by
  have c0 := words_cell h (k := k) (by omega)
  rw [hz] at c0
  have hlt := lt_of_heap h
  have hw3 := words_still h (kept3 w (.cells #[.int .i64 4, .int .i64 (c : Int), .int .i64 (k : Int), .int .i64 V] 30) (.cells #[.int .i64 (k : Int), .bool false] 60) (.cells #[.int .i64 (k : Int), .bool true] 60))
  have fz := block_frozen hw3 k
  have fc := words_cell hw3 (k := k) (by omega)
  rw [hz] at fc
  have i0 : (0 : Int) ≤ (k : Int) := by omega
  have i1 : (k : Int) < 4 := by omega
  have HH : Hid (_) := h
  clear h hz hw3
  go_enter Try.func16, Try.ntmps16
  go_wp2_with fail
  (try simp only [Exit.inBlock, Exit.then])
  refine bodyPost_ret (results_tmp4 rfl _ _ _) rfl ?_
  exact ⟨_, rfl, row_read w _ _ _, (kept3 w _ _ _).mono (by simp), words_still HH.out (kept3 w _ _ _)⟩

set_option maxRecDepth 100000 in
set_option maxHeartbeats 4000000 in
theorem p_holder_high (V z : Int) (c k g : Nat) (ws : List Int) (w : World) (h : w.heap[g]? = some (.cells (i64s ws) 3 (0, 0))) (hl : ws.length = 4) (hc : c < 3) (hk : k < 4) (hz : wordAt ws k = z) (hy : 3 < z) :
    Calls Try.prog 16 #[.slice (some ⟨g, 0, none⟩) 4 4, .agg #[.int .i64 4, .int .i64 (c : Int), .int .i64 (k : Int), .int .i64 V]] w fun e w' => ∃ u, e = .returned (.tuple #[.int .i64 (-1), .bool false, .int .i64 0, u]) ∧ Row w' u [((k : Int), false)] ∧ Kept [g] w w' ∧ w'.heap[g]? = some (.cells (i64s ws) 3 (0, 0)) := by
  have c0 := words_cell h (k := k) (by omega)
  rw [hz] at c0
  have hlt := lt_of_heap h
  have hw3 := words_still h (kept3 w (.cells #[.int .i64 4, .int .i64 (c : Int), .int .i64 (k : Int), .int .i64 V] 30) (.cells #[.int .i64 (k : Int), .bool false] 60) (.cells #[.int .i64 (k : Int), .bool true] 60))
  have fz := block_frozen hw3 k
  have fc := words_cell hw3 (k := k) (by omega)
  rw [hz] at fc
  have i0 : (0 : Int) ≤ (k : Int) := by omega
  have i1 : (k : Int) < 4 := by omega
  have t1 : ¬ z < 1 := by omega
  have HH : Hid (_) := h
  clear h hz hw3
  go_enter Try.func16, Try.ntmps16
  go_wp2_with fail
  (try simp only [Exit.inBlock, Exit.then])
  refine bodyPost_ret (results_tmp4 rfl _ _ _) rfl ?_
  exact ⟨_, rfl, row_read w _ _ _, (kept3 w _ _ _).mono (by simp), words_still HH.out (kept3 w _ _ _)⟩

set_option maxRecDepth 100000 in
set_option maxHeartbeats 4000000 in
theorem p_holder_some (V z : Int) (c k g : Nat) (ws : List Int) (w : World) (h : w.heap[g]? = some (.cells (i64s ws) 3 (0, 0))) (hl : ws.length = 4) (hc : c < 3) (hk : k < 4) (hz : wordAt ws k = z) (hy : 1 ≤ z) (hy2 : z ≤ 3) :
    Calls Try.prog 16 #[.slice (some ⟨g, 0, none⟩) 4 4, .agg #[.int .i64 4, .int .i64 (c : Int), .int .i64 (k : Int), .int .i64 V]] w fun e w' => ∃ u, e = .returned (.tuple #[.int .i64 (z - 1), .bool false, .int .i64 0, u]) ∧ Row w' u [((k : Int), false)] ∧ Kept [g] w w' ∧ w'.heap[g]? = some (.cells (i64s ws) 3 (0, 0)) := by
  have c0 := words_cell h (k := k) (by omega)
  rw [hz] at c0
  have hlt := lt_of_heap h
  have hw3 := words_still h (kept3 w (.cells #[.int .i64 4, .int .i64 (c : Int), .int .i64 (k : Int), .int .i64 V] 30) (.cells #[.int .i64 (k : Int), .bool false] 60) (.cells #[.int .i64 (k : Int), .bool true] 60))
  have fz := block_frozen hw3 k
  have fc := words_cell hw3 (k := k) (by omega)
  rw [hz] at fc
  have i0 : (0 : Int) ≤ (k : Int) := by omega
  have i1 : (k : Int) < 4 := by omega
  have t1 : ¬ z < 1 := by omega
  have t2 : ¬ 3 < z := by omega
  have hw : wrap64 (z - 1) = z - 1 := wrap_small _ (by omega) (by omega)
  have HH : Hid (_) := h
  clear h hz hw3
  go_enter Try.func16, Try.ntmps16
  go_wp2_with fail
  (try simp only [Exit.inBlock, Exit.then])
  refine bodyPost_ret (results_tmp4 rfl _ _ _) rfl ?_
  exact ⟨_, rfl, row_read w _ _ _, (kept3 w _ _ _).mono (by simp), words_still HH.out (kept3 w _ _ _)⟩

set_option maxRecDepth 100000 in
set_option maxHeartbeats 4000000 in
theorem p_begin (V z : Int) (c k g : Nat) (ws : List Int) (w : World) (h : w.heap[g]? = some (.cells (i64s ws) 3 (0, 0))) (hl : ws.length = 4) (hc : c < 3) (hk : k < 4) (hz : wordAt ws k = z) (hy : 0 ≤ z) :
    Calls Try.prog 16 #[.slice (some ⟨g, 0, none⟩) 4 4, .agg #[.int .i64 5, .int .i64 (c : Int), .int .i64 (k : Int), .int .i64 V]] w fun e w' => ∃ u, e = .returned (.tuple #[.int .i64 z, .bool (z % 2 == 0), .int .i64 0, u]) ∧ Row w' u [((k : Int), false)] ∧ Kept [g] w w' ∧ w'.heap[g]? = some (.cells (i64s ws) 3 (0, 0)) := by
  have c0 := words_cell h (k := k) (by omega)
  rw [hz] at c0
  have hlt := lt_of_heap h
  have hw3 := words_still h (kept3 w (.cells #[.int .i64 5, .int .i64 (c : Int), .int .i64 (k : Int), .int .i64 V] 30) (.cells #[.int .i64 (k : Int), .bool false] 60) (.cells #[.int .i64 (k : Int), .bool true] 60))
  have fz := block_frozen hw3 k
  have fc := words_cell hw3 (k := k) (by omega)
  rw [hz] at fc
  have i0 : (0 : Int) ≤ (k : Int) := by omega
  have i1 : (k : Int) < 4 := by omega
  have HH : Hid (_) := h
  clear h hz hw3
  go_enter Try.func16, Try.ntmps16
  go_wp2_with fail
  (try simp only [Exit.inBlock, Exit.then])
  refine bodyPost_ret (results_tmp4 rfl _ _ _) rfl ?_
  exact ⟨_, rfl, row_read w _ _ _, (kept3 w _ _ _).mono (by simp), words_still HH.out (kept3 w _ _ _)⟩

set_option maxRecDepth 100000 in
set_option maxHeartbeats 4000000 in
theorem p_same (V z : Int) (c k g : Nat) (ws : List Int) (w : World) (h : w.heap[g]? = some (.cells (i64s ws) 3 (0, 0))) (hl : ws.length = 4) (hc : c < 3) (hk : k < 4) (hz : wordAt ws k = z) :
    Calls Try.prog 16 #[.slice (some ⟨g, 0, none⟩) 4 4, .agg #[.int .i64 6, .int .i64 (c : Int), .int .i64 (k : Int), .int .i64 V]] w fun e w' => ∃ u, e = .returned (.tuple #[.int .i64 0, .bool (z == V), .int .i64 0, u]) ∧ Row w' u [((k : Int), false)] ∧ Kept [g] w w' ∧ w'.heap[g]? = some (.cells (i64s ws) 3 (0, 0)) := by
  have c0 := words_cell h (k := k) (by omega)
  rw [hz] at c0
  have hlt := lt_of_heap h
  have hw3 := words_still h (kept3 w (.cells #[.int .i64 6, .int .i64 (c : Int), .int .i64 (k : Int), .int .i64 V] 30) (.cells #[.int .i64 (k : Int), .bool false] 60) (.cells #[.int .i64 (k : Int), .bool true] 60))
  have fz := block_frozen hw3 k
  have fc := words_cell hw3 (k := k) (by omega)
  rw [hz] at fc
  have i0 : (0 : Int) ≤ (k : Int) := by omega
  have i1 : (k : Int) < 4 := by omega
  have HH : Hid (_) := h
  clear h hz hw3
  go_enter Try.func16, Try.ntmps16
  go_wp2_with fail
  obtain ⟨W, hW⟩ : ∃ W, W = (((w.alloc (.cells #[.int .i64 6, .int .i64 (c : Int), .int .i64 (k : Int), .int .i64 V] 30)).alloc (.cells #[.int .i64 (k : Int), .bool false] 60)).alloc (.cells #[.int .i64 (k : Int), .bool true] 60)) := ⟨_, rfl⟩
  rw [← hW]
  have HW : Hid (Kept [g] w W ∧ W.heap[g]? = some (.cells (i64s ws) 3 (0, 0)) ∧ Row W (.slice (some ⟨w.heap.size + 1, 0, none⟩) 1 1) [((k : Int), false)]) := by
    rw [hW]
    exact ⟨(kept3 w _ _ _).mono (by simp), words_still HH.out (kept3 w _ _ _), row_read w _ _ _⟩
  have bx : W.cell? ⟨w.heap.size, 3, none⟩ = some (.int .i64 V) := by
    rw [hW]
    exact (((Kept.refl [] (w.alloc (.cells #[.int .i64 6, .int .i64 (c : Int), .int .i64 (k : Int), .int .i64 V] 30))).alloc _).alloc _).cell (box4 (heap_alloc_new w (.cells #[.int .i64 6, .int .i64 (c : Int), .int .i64 (k : Int), .int .i64 V] 30))).2.2.2 (by simp)
  clear hW fz fc c0 HH
  go_quiet (fail)
  go_wp2_with fail
  (try simp only [Exit.inBlock, Exit.then])
  refine bodyPost_ret (results_tmp4 rfl _ _ _) rfl ?_
  exact ⟨_, rfl, HW.out.2.2.still ((Kept.refl _ _).drewN nq), HW.out.1.drewN nq, words_still HW.out.2.1 ((Kept.refl _ _).drewN nq)⟩

set_option maxRecDepth 100000 in
set_option maxHeartbeats 4000000 in
theorem p_turn (K V z : Int) (c k g : Nat) (ws : List Int) (w : World) (h : w.heap[g]? = some (.cells (i64s ws) 3 (0, 0))) (hl : ws.length = 4) (hc : c < 3) (hk : k < 4) (hz : wordAt ws k = z) (h0 : K ≠ 0) (h1 : K ≠ 1) (h2 : K ≠ 2) (h3 : K ≠ 3) (h4 : K ≠ 4) (h5 : K ≠ 5) (h6 : K ≠ 6) :
    Calls Try.prog 16 #[.slice (some ⟨g, 0, none⟩) 4 4, .agg #[.int .i64 K, .int .i64 (c : Int), .int .i64 (k : Int), .int .i64 V]] w fun e w' => ∃ u, e = .returned (.tuple #[.int .i64 0, .bool false, .int .i64 0, u]) ∧ Row w' u [((k : Int), true)] ∧ Kept [g] w w' ∧ w'.heap[g]? = some (.cells (i64s (ws.set k (wrap64 (z + 1)))) 3 (0, 0)) := by
  have c0 := words_cell h (k := k) (by omega)
  rw [hz] at c0
  have hlt := lt_of_heap h
  have hw3 := words_still h (kept3 w (.cells #[.int .i64 K, .int .i64 (c : Int), .int .i64 (k : Int), .int .i64 V] 30) (.cells #[.int .i64 (k : Int), .bool false] 60) (.cells #[.int .i64 (k : Int), .bool true] 60))
  have fz := block_frozen hw3 k
  have fc := words_cell hw3 (k := k) (by omega)
  rw [hz] at fc
  have i0 : (0 : Int) ≤ (k : Int) := by omega
  have i1 : (k : Int) < 4 := by omega
  have k0 : (K == 0) = false := by simp [h0]
  have k1 : (K == 1) = false := by simp [h1]
  have k2 : (K == 2) = false := by simp [h2]
  have k3 : (K == 3) = false := by simp [h3]
  have k4 : (K == 4) = false := by simp [h4]
  have k5 : (K == 5) = false := by simp [h5]
  have k6 : (K == 6) = false := by simp [h6]
  clear h0 h1 h2 h3 h4 h5 h6
  have HH : Hid (_) := h
  clear h hz hw3
  go_enter Try.func16, Try.ntmps16
  go_wp2_with fail
  (try simp only [Exit.inBlock, Exit.then])
  refine bodyPost_ret (results_tmp4 rfl _ _ _) rfl ?_
  exact ⟨_, rfl, (row_write w _ _ _).set (by simp [Value.ownBlock]; omega), ((kept3 w _ _ _).mono (by simp)).setCell (Or.inl (by simp)) _, words_put (words_still HH.out (kept3 w _ _ _)) _⟩

end Go.Proofs.Ytokljdljdkbbnaa
