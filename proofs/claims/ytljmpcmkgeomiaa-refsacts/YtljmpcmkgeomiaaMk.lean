/-
  The law's own counts are made: seven rows and the struct, in whatever order the program draws.
-/
import Derived.Test.YtljmpcmkgeomiaaMcounts
namespace Go.Proofs.Ytljmpcmkgeomiaa
open Go.RowKit
set_option linter.unusedVariables false

/-- How long the j-th row is. -/
def sz (k n j : Nat) : Nat := if j = 0 ∨ j = 2 then k else n

/-- Its type. -/
def ty (j : Nat) : TypeId := if j = 0 then 32 else if j = 1 then 33 else 34

/-- What lies in it. -/
def zo (k n j : Nat) : Obj := if j = 0 then .cells (bl (sz k n j) fun _ => .slice none 0 0) 33 (0, 0) else if j = 1 then .cells (bl (sz k n j) fun _ => .int .i64 0) 3 (0, 0) else .cells (bl (sz k n j) fun _ => .bool false) 4 (0, 0)

/-- The move ahead of the j-th. -/
def mvOp (j : Nat) : Oper := { dst := some (55 + 2 * j), op := .move (.tmp (if j = 0 ∨ j = 2 then 7 else 8)), type := 3, pos := "law.go:92", after := #[], guard := none }

/-- The j-th making. -/
def mkOp (j : Nat) : Oper := { dst := some (56 + 2 * j), op := .makeSlice (ty j) (.tmp (55 + 2 * j)) (.tmp (55 + 2 * j)), type := ty j, pos := "law.go:92", after := #[{ on := 2 * j, ground := .data }, { on := 2 * j, ground := .data }], guard := none }

def buildOp : Oper := { dst := some 69, op := .build 36 #[(0, .tmp 56), (1, .tmp 58), (2, .tmp 60), (3, .tmp 62), (4, .tmp 64), (5, .tmp 66), (6, .tmp 68)], type := 36, pos := "law.go:92", after := #[{ on := 1, ground := .data }, { on := 3, ground := .data }, { on := 5, ground := .data }, { on := 7, ground := .data }, { on := 9, ground := .data }, { on := 11, ground := .data }, { on := 13, ground := .data }], guard := none }

def boxOp : Oper := { dst := some 70, op := .box 36 (.tmp 69), type := 31, pos := "law.go:92", after := #[{ on := 14, ground := .data }], guard := none }

def lastOp : Oper := { dst := some 13, op := .assign (.tmp 70), type := 31, pos := "law.go:92", after := #[{ on := 15, ground := .data }, { on := 0, ground := .phase }, { on := 1, ground := .phase }, { on := 2, ground := .phase }, { on := 3, ground := .phase }, { on := 4, ground := .phase }, { on := 5, ground := .phase }, { on := 6, ground := .phase }, { on := 7, ground := .phase }, { on := 8, ground := .phase }, { on := 9, ground := .phase }, { on := 10, ground := .phase }, { on := 11, ground := .phase }, { on := 12, ground := .phase }, { on := 13, ground := .phase }, { on := 14, ground := .phase }, { on := 15, ground := .phase }], guard := none }

/-- The operations of the region. -/
def mkOps : Array Oper := #[mvOp 0, mkOp 0, mvOp 1, mkOp 1, mvOp 2, mkOp 2, mvOp 3, mkOp 3, mvOp 4, mkOp 4, mvOp 5, mkOp 5, mvOp 6, mkOp 6, buildOp, boxOp, lastOp]

theorem seven {j : Nat} (h : j < 7) : j = 0 ∨ j = 1 ∨ j = 2 ∨ j = 3 ∨ j = 4 ∨ j = 5 ∨ j = 6 := by omega

theorem at_mv {j : Nat} (h : j < 7) : mkOps[2 * j]? = some (mvOp j) := by
  rcases seven h with rfl | rfl | rfl | rfl | rfl | rfl | rfl <;> rfl

theorem at_mk {j : Nat} (h : j < 7) : mkOps[2 * j + 1]? = some (mkOp j) := by
  rcases seven h with rfl | rfl | rfl | rfl | rfl | rfl | rfl <;> rfl

theorem info4 : (Try.prog.info? 4).map (fun i => (i.zero, i.size, i.bytes)) = some (some (.bool false), 1, 1) := by kernel_rfl
theorem info33 : (Try.prog.info? 33).map (fun i => (i.zero, i.size, i.bytes)) = some (some (.slice none 0 0), 1, 24) := by kernel_rfl

theorem bl_const (n : Nat) (v : Value) : (List.replicate n v) = (bl n fun _ => v).toList := by
  unfold bl
  apply List.ext_getElem?
  intro i
  by_cases h : i < n
  · simp [h]
  · rw [List.getElem?_eq_none (by simpa using h), List.getElem?_eq_none (by simpa using h)]

theorem make_bools (n : Nat) (h : n ≤ 65536) (w : World) : (Instr.makeSlice 34 (.int .i64 (n : Int)) (.int .i64 (n : Int))).run Try.prog w = .ok (.slice (some ⟨w.heap.size, 0, none⟩) n n) (w.alloc (.cells (bl n fun _ => .bool false) 4)) := by
  obtain ⟨i0, hi, hz0, hz1, hz2⟩ := info_parts info4
  have := run_make (P := Try.prog) w 34 4 i0 (.bool false) Try.underlying34 hi hz0 .i64 .i64 n n (by omega) (by omega) (by rw [hz2]; omega) (by omega)
  rw [this]
  have e : madeCells (Value.bool false).cells ((n : Int).toNat * i0.size) = bl n fun _ => .bool false := by
    apply Array.ext'
    rw [hz1]
    simp only [toList_madeCells_one, Value.cells, Int.toNat_natCast, Nat.mul_one]
    exact bl_const n _
  rw [e]
  simp

theorem make_ints (n : Nat) (h : n ≤ 65536) (w : World) : (Instr.makeSlice 33 (.int .i64 (n : Int)) (.int .i64 (n : Int))).run Try.prog w = .ok (.slice (some ⟨w.heap.size, 0, none⟩) n n) (w.alloc (.cells (bl n fun _ => .int .i64 0) 3)) := by
  obtain ⟨i0, hi, hz0, hz1, hz2⟩ := info_parts info3
  have := run_make (P := Try.prog) w 33 3 i0 (.int .i64 0) Try.underlying33 hi hz0 .i64 .i64 n n (by omega) (by omega) (by rw [hz2]; omega) (by omega)
  rw [this]
  have e : madeCells (Value.int .i64 0).cells ((n : Int).toNat * i0.size) = bl n fun _ => .int .i64 0 := by
    apply Array.ext'
    rw [hz1]
    simp only [toList_madeCells_one, Value.cells, Int.toNat_natCast, Nat.mul_one]
    exact bl_const n _
  rw [e]
  simp

theorem make_rows (n : Nat) (h : n ≤ 65536) (w : World) : (Instr.makeSlice 32 (.int .i64 (n : Int)) (.int .i64 (n : Int))).run Try.prog w = .ok (.slice (some ⟨w.heap.size, 0, none⟩) n n) (w.alloc (.cells (bl n fun _ => .slice none 0 0) 33)) := by
  obtain ⟨i0, hi, hz0, hz1, hz2⟩ := info_parts info33
  have := run_make (P := Try.prog) w 32 33 i0 (.slice none 0 0) Try.underlying32 hi hz0 .i64 .i64 n n (by omega) (by omega) (by rw [hz2]; omega) (by omega)
  rw [this]
  have e : madeCells (Value.slice none 0 0).cells ((n : Int).toNat * i0.size) = bl n fun _ => .slice none 0 0 := by
    apply Array.ext'
    rw [hz1]
    simp only [toList_madeCells_one, Value.cells, Int.toNat_natCast, Nat.mul_one]
    exact bl_const n _
  rw [e]
  simp

theorem make_row {k n j : Nat} (hk : k ≤ 8) (hn : n ≤ 8) (hj : j < 7) (w : World) : (Instr.makeSlice (ty j) (.int .i64 (sz k n j : Int)) (.int .i64 (sz k n j : Int))).run Try.prog w = .ok (.slice (some ⟨w.heap.size, 0, none⟩) (sz k n j) (sz k n j)) (w.alloc (zo k n j)) := by
  rcases seven hj with rfl | rfl | rfl | rfl | rfl | rfl | rfl
  · exact make_rows k (by omega) w
  · exact make_ints n (by omega) w
  all_goals first
    | exact make_bools k (by omega) w
    | exact make_bools n (by omega) w

/-- What is left in the slots: the lengths, and the rows. -/
def vv (k n : Nat) (p : Nat → Nat) (i : Nat) : Value := if i % 2 = 0 then .int .i64 (sz k n (i / 2) : Int) else .slice (some ⟨p (i / 2), 0, none⟩) (sz k n (i / 2)) (sz k n (i / 2))

theorem wpOp_value {P : Program} {ops : Array Oper} {Q : Exit → Act → World → Prop} {i : Nat} {o : Oper} {v : Value} {a : Act} {K : Act → World → Prop} {w w' : World} (hi : ops[i]? = some o) (hg : o.guard = none) (hr : (execOp a.eval o).run P w = .ok (.value v) w') (h : K (a.put o.dst v) w') : wpOp P ops Q i K a w := by
  unfold wpOp
  simp only [hi]
  have hw : Region.wanted o (yielded ops a.tmps) = true := by simp [Region.wanted, hg]
  simp only [hw, if_true, Oper.wp, hr, Oper.upon]
  exact .inl h

theorem build_run (p0 p1 p2 p3 p4 p5 p6 k n : Nat) (w : World) : (Instr.build 36 #[(0, .slice (some ⟨p0, 0, none⟩) k k), (1, .slice (some ⟨p1, 0, none⟩) n n), (2, .slice (some ⟨p2, 0, none⟩) k k), (3, .slice (some ⟨p3, 0, none⟩) n n), (4, .slice (some ⟨p4, 0, none⟩) n n), (5, .slice (some ⟨p5, 0, none⟩) n n), (6, .slice (some ⟨p6, 0, none⟩) n n)]).run Try.prog w = .ok (.agg #[.slice (some ⟨p0, 0, none⟩) k k, .slice (some ⟨p1, 0, none⟩) n n, .slice (some ⟨p2, 0, none⟩) k k, .slice (some ⟨p3, 0, none⟩) n n, .slice (some ⟨p4, 0, none⟩) n n, .slice (some ⟨p5, 0, none⟩) n n, .slice (some ⟨p6, 0, none⟩) n n, .int .i64 0]) w := by kernel_rfl

theorem box_run (p0 p1 p2 p3 p4 p5 p6 k n : Nat) (w : World) : (Instr.box 36 (.agg #[.slice (some ⟨p0, 0, none⟩) k k, .slice (some ⟨p1, 0, none⟩) n n, .slice (some ⟨p2, 0, none⟩) k k, .slice (some ⟨p3, 0, none⟩) n n, .slice (some ⟨p4, 0, none⟩) n n, .slice (some ⟨p5, 0, none⟩) n n, .slice (some ⟨p6, 0, none⟩) n n, .int .i64 0])).run Try.prog w = .ok (.pointer (some ⟨w.heap.size, 0, none⟩)) (w.alloc (.cells #[.slice (some ⟨p0, 0, none⟩) k k, .slice (some ⟨p1, 0, none⟩) n n, .slice (some ⟨p2, 0, none⟩) k k, .slice (some ⟨p3, 0, none⟩) n n, .slice (some ⟨p4, 0, none⟩) n n, .slice (some ⟨p5, 0, none⟩) n n, .slice (some ⟨p6, 0, none⟩) n n, .int .i64 0] 36 (0, 0))) := by kernel_rfl

/-- The struct's cells. -/
def stc (k n : Nat) (p : Nat → Nat) : Array Value := #[.slice (some ⟨p 0, 0, none⟩) k k, .slice (some ⟨p 1, 0, none⟩) n n, .slice (some ⟨p 2, 0, none⟩) k k, .slice (some ⟨p 3, 0, none⟩) n n, .slice (some ⟨p 4, 0, none⟩) n n, .slice (some ⟨p 5, 0, none⟩) n n, .slice (some ⟨p 6, 0, none⟩) n n, .int .i64 0]

theorem run_build (k n : Nat) (p : Nat → Nat) (a : Act) (h : ∀ j : Nat, j < 7 → a.eval (.tmp (56 + 2 * j)) = .slice (some ⟨p j, 0, none⟩) (sz k n j) (sz k n j)) (w : World) :
    (execOp a.eval buildOp).run Try.prog w = .ok (.value (.agg (stc k n p))) w := by
  have h0 : a.eval (.tmp 56) = .slice (some ⟨p 0, 0, none⟩) k k := h 0 (show 0 < 7 by decide)
  have h1 : a.eval (.tmp 58) = .slice (some ⟨p 1, 0, none⟩) n n := h 1 (show 1 < 7 by decide)
  have h2 : a.eval (.tmp 60) = .slice (some ⟨p 2, 0, none⟩) k k := h 2 (show 2 < 7 by decide)
  have h3 : a.eval (.tmp 62) = .slice (some ⟨p 3, 0, none⟩) n n := h 3 (show 3 < 7 by decide)
  have h4 : a.eval (.tmp 64) = .slice (some ⟨p 4, 0, none⟩) n n := h 4 (show 4 < 7 by decide)
  have h5 : a.eval (.tmp 66) = .slice (some ⟨p 5, 0, none⟩) n n := h 5 (show 5 < 7 by decide)
  have h6 : a.eval (.tmp 68) = .slice (some ⟨p 6, 0, none⟩) n n := h 6 (show 6 < 7 by decide)
  simp only [execOp, buildOp, List.map_toArray, List.map_cons, List.map_nil, h0, h1, h2, h3, h4, h5, h6]
  simp only [Sem.run_bind, build_run, Result.andThen_ok, Sem.run_pure]
  rfl

theorem run_box (k n : Nat) (p : Nat → Nat) (a : Act) (h : a.eval (.tmp 69) = .agg (stc k n p)) (w : World) :
    (execOp a.eval boxOp).run Try.prog w = .ok (.value (.pointer (some ⟨w.heap.size, 0, none⟩))) (w.alloc (.cells (stc k n p) 36 (0, 0))) := by
  simp only [execOp, boxOp, h, stc]
  simp only [Sem.run_bind, box_run, Result.andThen_ok, Sem.run_pure]

theorem run_mv (j : Nat) (a : Act) (v : Value) (h : a.eval (.tmp (if j = 0 ∨ j = 2 then 7 else 8)) = v) (w : World) : (execOp a.eval (mvOp j)).run Try.prog w = .ok (.value v) w := by
  simp only [execOp, mvOp, h]
  rfl

theorem run_last (a : Act) (v : Value) (h : a.eval (.tmp 70) = v) (w : World) : (execOp a.eval lastOp).run Try.prog w = .ok (.value v) w := by
  simp only [execOp, lastOp, h]
  rfl

theorem run_mk {k n j : Nat} (hk : k ≤ 8) (hn : n ≤ 8) (hj : j < 7) (a : Act) (h : a.eval (.tmp (55 + 2 * j)) = .int .i64 (sz k n j : Int)) (w : World) : (execOp a.eval (mkOp j)).run Try.prog w = .ok (.value (.slice (some ⟨w.heap.size, 0, none⟩) (sz k n j) (sz k n j))) (w.alloc (zo k n j)) := by
  simp only [execOp, mkOp, h]
  have := make_row hk hn hj w
  simp only [Sem.run_bind, this, Result.andThen_ok, Sem.run_pure]

/-- Has number i come up? -/
def on (listed : Array Bool) (i : Nat) : Prop := listed.getD i false = true

theorem on_set {listed : Array Bool} {i : Nat} (hi : i < listed.size) (j : Nat) : on (listed.setIfInBounds i true) j ↔ j = i ∨ on listed j := by
  unfold on
  simp only [Array.getD_eq_getD_getElem?, Array.getElem?_setIfInBounds]
  by_cases e : i = j
  · subst e; simp [hi]
  · simp [e, Ne.symm e]

theorem off_iff {listed : Array Bool} {i : Nat} (hi : i < listed.size) : listed.getD i true = false ↔ ¬ on listed i := by
  unfold on
  simp [Array.getD_eq_getD_getElem?, hi]

/-- How many below m have not come up. -/
def cnt (listed : Array Bool) : Nat → Nat
  | 0 => 0
  | m + 1 => cnt listed m + if listed.getD m false = true then 0 else 1

theorem cnt_zero {listed : Array Bool} : ∀ {m : Nat}, cnt listed m = 0 → ∀ i, i < m → on listed i := by
  intro m
  induction m with
  | zero => intro _ i hi; omega
  | succ m ih =>
    intro h i hi
    unfold cnt at h
    have h1 : cnt listed m = 0 := by omega
    rcases Nat.lt_succ_iff_lt_or_eq.1 hi with h2 | h2
    · exact ih h1 i h2
    · subst h2
      unfold on
      by_cases e : listed.getD i false = true
      · exact e
      · rw [if_neg e] at h; omega

theorem cnt_pos {listed : Array Bool} : ∀ {m : Nat}, cnt listed m ≠ 0 → ∃ i, i < m ∧ ¬ on listed i := by
  intro m
  induction m with
  | zero => intro h; exact absurd rfl h
  | succ m ih =>
    intro h
    by_cases e : listed.getD m false = true
    · unfold cnt at h
      rw [if_pos e] at h
      obtain ⟨i, h1, h2⟩ := ih (by omega)
      exact ⟨i, by omega, h2⟩
    · exact ⟨m, by omega, e⟩

theorem cnt_set {listed : Array Bool} {i : Nat} (hi : i < listed.size) (ho : ¬ on listed i) : ∀ m, cnt (listed.setIfInBounds i true) m + (if i < m then 1 else 0) = cnt listed m := by
  intro m
  induction m with
  | zero => rfl
  | succ m ih =>
    have h1 := on_set hi m
    unfold on at h1 ho
    unfold cnt
    by_cases e : m = i
    · subst e
      rw [if_pos (h1.2 (Or.inl rfl)), if_neg ho, if_pos (by omega)]
      rw [if_neg (by omega)] at ih
      omega
    · have h2 : ((listed.setIfInBounds i true).getD m false = true) ↔ listed.getD m false = true := by rw [h1]; simp [e]
      by_cases q : listed.getD m false = true
      · rw [if_pos (h2.2 q), if_pos q]
        by_cases l : i < m
        · rw [if_pos l] at ih; rw [if_pos (by omega)]; omega
        · rw [if_neg l] at ih; rw [if_neg (by omega)]; omega
      · rw [if_neg (fun h => q (h2.1 h)), if_neg q]
        by_cases l : i < m
        · rw [if_pos l] at ih; rw [if_pos (by omega)]; omega
        · rw [if_neg l] at ih; rw [if_neg (by omega)]; omega

/-- Where the region stands: what has come up is in its slot; the rows that are made lie apart. -/
structure Iv (base : Act) (k n : Nat) (w0 : World) (listed : Array Bool) (a : Act) (w : World) (p : Nat → Nat) : Prop where
  size : listed.size = 17
  late : ∀ i, 14 ≤ i → i < 17 → ¬ on listed i
  clo : ∀ j, j < 7 → on listed (2 * j + 1) → on listed (2 * j)
  defers : a.defers = base.defers
  tmps : a.tmps.size = base.tmps.size
  slots : ∀ t, a.tmps[t]? = if 55 ≤ t ∧ t < 69 ∧ listed.getD (t - 55) false = true then some (vv k n p (t - 55)) else base.tmps[t]?
  made : ∀ j, j < 7 → on listed (2 * j + 1) → w0.heap.size ≤ p j ∧ w.heap[p j]? = some (zo k n j)
  apart : ∀ i j, i < 7 → j < 7 → on listed (2 * i + 1) → on listed (2 * j + 1) → p i = p j → i = j
  kept : Kept [] w0 w

theorem put_get (a : Act) (t : Nat) (v : Value) (u : Nat) (h : t < a.tmps.size) : (a.put (some t) v).tmps[u]? = if u = t then some v else a.tmps[u]? := by
  simp only [Act.put, Array.getElem?_setIfInBounds]
  by_cases e : t = u
  · subst e; simp [h]
  · rw [if_neg e, if_neg (Ne.symm e)]

theorem eval_get (a : Act) (t : Nat) (v : Value) (h : a.tmps[t]? = some v) : a.eval (.tmp t) = v := by
  simp [Act.eval, Array.getD_eq_getD_getElem?, h]

theorem vv_even (k n : Nat) (p : Nat → Nat) (j : Nat) : vv k n p (2 * j) = .int .i64 (sz k n j : Int) := by
  unfold vv; rw [if_pos (by omega), show 2 * j / 2 = j by omega]

theorem vv_odd (k n : Nat) (p : Nat → Nat) (j : Nat) : vv k n p (2 * j + 1) = .slice (some ⟨p j, 0, none⟩) (sz k n j) (sz k n j) := by
  unfold vv; rw [if_neg (by omega), show (2 * j + 1) / 2 = j by omega]

theorem vv_same (k n : Nat) {p p' : Nat → Nat} {i : Nat} (h : i % 2 = 1 → p (i / 2) = p' (i / 2)) : vv k n p i = vv k n p' i := by
  unfold vv
  by_cases e : i % 2 = 0
  · rw [if_pos e, if_pos e]
  · rw [if_neg e, if_neg e, h (by omega)]

/-- The slots filled, one behind the other. -/
def fill (base : Act) (v : Nat → Value) : Nat → Act
  | 0 => base
  | m + 1 => (fill base v m).put (some (55 + m)) (v m)

theorem put_size (a : Act) (t : Nat) (v : Value) : (a.put (some t) v).tmps.size = a.tmps.size := by simp [Act.put]

theorem fill_size (base : Act) (v : Nat → Value) (m : Nat) : (fill base v m).tmps.size = base.tmps.size ∧ (fill base v m).defers = base.defers := by
  induction m with
  | zero => exact ⟨rfl, rfl⟩
  | succ m ih => exact ⟨(put_size _ _ _).trans ih.1, ih.2⟩

theorem fill_get (base : Act) (v : Nat → Value) (m : Nat) (h : 55 + m ≤ base.tmps.size) (t : Nat) : (fill base v m).tmps[t]? = if 55 ≤ t ∧ t < 55 + m then some (v (t - 55)) else base.tmps[t]? := by
  induction m with
  | zero => rw [if_neg (by omega)]; rfl
  | succ m ih =>
    unfold fill
    rw [put_get _ _ _ _ (by rw [(fill_size base v m).1]; omega), ih (by omega)]
    by_cases e : t = 55 + m
    · rw [if_pos e, if_pos (by omega), e, show 55 + m - 55 = m by omega]
    · rw [if_neg e]
      by_cases q : 55 ≤ t ∧ t < 55 + m
      · rw [if_pos q, if_pos (by omega)]
      · rw [if_neg q, if_neg (by omega)]

theorem act_ext {a b : Act} (h1 : ∀ t : Nat, a.tmps[t]? = b.tmps[t]?) (h2 : a.defers = b.defers) : a = b := by
  obtain ⟨x, y⟩ := a
  obtain ⟨x', y'⟩ := b
  simp only at h1 h2
  rw [Array.ext_getElem? h1, h2]

/-- All made: the frame. -/
def done (base : Act) (k n : Nat) (p : Nat → Nat) (q : Nat) : Act := (((fill base (vv k n p) 14).put (some 69) (.agg (stc k n p))).put (some 70) (.pointer (some ⟨q, 0, none⟩))).put (some 13) (.pointer (some ⟨q, 0, none⟩))

section
variable {base : Act} {k n : Nat} {w0 w : World} {listed : Array Bool} {a : Act} {p : Nat → Nat} {Q : Exit → Act → World → Prop}

theorem Iv.move (h : Iv base k n w0 listed a w p) (hb : 71 ≤ base.tmps.size) (h7 : base.tmps[7]? = some (.int .i64 (k : Int))) (h8 : base.tmps[8]? = some (.int .i64 (n : Int))) {j : Nat} (hj : j < 7) (ho : ¬ on listed (2 * j)) :
    (execOp a.eval (mvOp j)).run Try.prog w = .ok (.value (.int .i64 (sz k n j : Int))) w ∧ Iv base k n w0 (listed.setIfInBounds (2 * j) true) (a.put (mvOp j).dst (.int .i64 (sz k n j : Int))) w p := by
  have hs := h.size
  have hset := fun i => on_set (listed := listed) (i := 2 * j) (by omega) i
  constructor
  · refine run_mv j a _ (eval_get _ _ _ ?_) w
    by_cases e : j = 0 ∨ j = 2
    · rw [if_pos e, h.slots 7, if_neg (by omega), h7]; unfold sz; rw [if_pos e]
    · rw [if_neg e, h.slots 8, if_neg (by omega), h8]; unfold sz; rw [if_neg e]
  · refine ⟨by simpa using hs, fun i h1 h2 h3 => ?_, fun i h1 h2 => ?_, h.defers, (put_size _ _ _).trans h.tmps, fun t => ?_, fun i h1 h2 => h.made i h1 (((hset _).1 h2).resolve_left (by omega)), fun i i' h1 h2 h3 h4 => h.apart i i' h1 h2 (((hset _).1 h3).resolve_left (by omega)) (((hset _).1 h4).resolve_left (by omega)), h.kept⟩
    · exact h.late i h1 h2 (((hset _).1 h3).resolve_left (by omega))
    · exact (hset _).2 (Or.inr (h.clo i h1 (((hset _).1 h2).resolve_left (by omega))))
    · show (a.put (some (55 + 2 * j)) (.int .i64 (sz k n j : Int))).tmps[t]? = _
      rw [put_get _ _ _ _ (by rw [h.tmps]; omega), h.slots t]
      by_cases e : t = 55 + 2 * j
      · rw [if_pos e, if_pos ⟨by omega, by omega, (hset _).2 (Or.inl (by omega))⟩, e, show 55 + 2 * j - 55 = 2 * j by omega, vv_even]
      · rw [if_neg e]
        by_cases q : 55 ≤ t ∧ t < 69 ∧ listed.getD (t - 55) false = true
        · rw [if_pos q, if_pos ⟨q.1, q.2.1, (hset _).2 (Or.inr q.2.2)⟩]
        · rw [if_neg q, if_neg (fun q2 => q ⟨q2.1, q2.2.1, ((hset _).1 q2.2.2).resolve_left (by omega)⟩)]

theorem Iv.make (h : Iv base k n w0 listed a w p) (hb : 71 ≤ base.tmps.size) (hk : k ≤ 8) (hn : n ≤ 8) {j : Nat} (hj : j < 7) (ho : ¬ on listed (2 * j + 1)) (hm : on listed (2 * j)) :
    (execOp a.eval (mkOp j)).run Try.prog w = .ok (.value (.slice (some ⟨w.heap.size, 0, none⟩) (sz k n j) (sz k n j))) (w.alloc (zo k n j)) ∧ ∃ p', Iv base k n w0 (listed.setIfInBounds (2 * j + 1) true) (a.put (mkOp j).dst (.slice (some ⟨w.heap.size, 0, none⟩) (sz k n j) (sz k n j))) (w.alloc (zo k n j)) p' := by
  have hs := h.size
  have hset := fun i => on_set (listed := listed) (i := 2 * j + 1) (by omega) i
  have hkw : Kept [] w (w.alloc (zo k n j)) := (Kept.refl [] w).alloc _
  constructor
  · refine run_mk hk hn hj a (eval_get _ _ _ ?_) w
    rw [h.slots, if_pos ⟨by omega, by omega, by rw [show 55 + 2 * j - 55 = 2 * j by omega]; exact hm⟩, show 55 + 2 * j - 55 = 2 * j by omega, vv_even]
  · refine ⟨fun i => if i = j then w.heap.size else p i, by simpa using hs, fun i h1 h2 h3 => ?_, fun i h1 h2 => ?_, h.defers, (put_size _ _ _).trans h.tmps, fun t => ?_, fun i h1 h2 => ?_, fun i i' h1 h2 h3 h4 h5 => ?_, h.kept.alloc _⟩
    · exact h.late i h1 h2 (((hset _).1 h3).resolve_left (by omega))
    · by_cases e : i = j
      · subst e; exact (hset _).2 (Or.inr hm)
      · exact (hset _).2 (Or.inr (h.clo i h1 (((hset _).1 h2).resolve_left (by omega))))
    · show (a.put (some (56 + 2 * j)) (.slice (some ⟨w.heap.size, 0, none⟩) (sz k n j) (sz k n j))).tmps[t]? = _
      rw [put_get _ _ _ _ (by rw [h.tmps]; omega), h.slots t]
      by_cases e : t = 56 + 2 * j
      · rw [if_pos e, if_pos ⟨by omega, by omega, (hset _).2 (Or.inl (by omega))⟩, e, show 56 + 2 * j - 55 = 2 * j + 1 by omega, vv_odd, if_pos rfl]
      · rw [if_neg e]
        by_cases q : 55 ≤ t ∧ t < 69 ∧ listed.getD (t - 55) false = true
        · rw [if_pos q, if_pos ⟨q.1, q.2.1, (hset _).2 (Or.inr q.2.2)⟩]
          rw [vv_same k n (p' := fun i => if i = j then w.heap.size else p i) (fun ho2 => by rw [if_neg (by omega)])]
        · rw [if_neg q, if_neg (fun q2 => q ⟨q2.1, q2.2.1, ((hset _).1 q2.2.2).resolve_left (by omega)⟩)]
    · by_cases e : i = j
      · subst e
        simp only [if_pos]
        exact ⟨h.kept.size, heap_alloc_new w _⟩
      · simp only [if_neg e]
        have h3 := h.made i h1 (((hset _).1 h2).resolve_left (by omega))
        exact ⟨h3.1, by rw [hkw.block (p i) (lt_of_heap h3.2) (by simp)]; exact h3.2⟩
    · have key : ∀ x, x < 7 → x ≠ j → on (listed.setIfInBounds (2 * j + 1) true) (2 * x + 1) → p x < w.heap.size := fun x hx hxj hon => lt_of_heap (h.made x hx (((hset _).1 hon).resolve_left (by omega))).2
      by_cases e : i = j
      · by_cases e' : i' = j
        · omega
        · simp only [if_pos e, if_neg e'] at h5
          have := key i' h2 e' h4
          omega
      · by_cases e' : i' = j
        · simp only [if_neg e, if_pos e'] at h5
          have := key i h1 e h3
          omega
        · simp only [if_neg e, if_neg e'] at h5
          exact h.apart i i' h1 h2 (((hset _).1 h3).resolve_left (by omega)) (((hset _).1 h4).resolve_left (by omega)) h5

end

section
variable {base : Act} {k n : Nat} {w0 w : World} {listed : Array Bool} {a : Act} {p : Nat → Nat} {Q : Exit → Act → World → Prop}

/-- What is asked behind the region. -/
def Then (base : Act) (k n : Nat) (w0 : World) (Q : Exit → Act → World → Prop) : Prop :=
  ∀ (p : Nat → Nat) (q : Nat) (w : World), Kept [] w0 w → (∀ j, j < 7 → w0.heap.size ≤ p j ∧ w.heap[p j]? = some (zo k n j)) → (∀ i j, i < 7 → j < 7 → p i = p j → i = j) → w0.heap.size ≤ q → w.heap[q]? = some (.cells (stc k n p) 36 (0, 0)) → (∀ j, j < 7 → p j ≠ q) → Q .normal (done base k n p q) w

def full : Array Bool := #[true, true, true, true, true, true, true, true, true, true, true, true, true, true, false, false, false]

theorem Iv.full (h : Iv base k n w0 listed a w p) (hc : cnt listed 14 = 0) : listed = Go.Proofs.Ytljmpcmkgeomiaa.full := by
  have h1 := cnt_zero hc
  have hs := h.size
  apply Array.ext
  · rw [hs]; rfl
  · intro i hi hi2
    have e1 : listed[i] = listed.getD i false := by simp [Array.getD_eq_getD_getElem?, hi]
    rw [e1]
    by_cases h2 : i < 14
    · have := h1 i h2
      unfold on at this
      rw [this]
      have : i = 0 ∨ i = 1 ∨ i = 2 ∨ i = 3 ∨ i = 4 ∨ i = 5 ∨ i = 6 ∨ i = 7 ∨ i = 8 ∨ i = 9 ∨ i = 10 ∨ i = 11 ∨ i = 12 ∨ i = 13 := by omega
      rcases this with rfl | rfl | rfl | rfl | rfl | rfl | rfl | rfl | rfl | rfl | rfl | rfl | rfl | rfl <;> rfl
    · have := h.late i (by omega) (by omega)
      unfold on at this
      rw [Bool.not_eq_true] at this
      rw [this]
      have : i = 14 ∨ i = 15 ∨ i = 16 := by omega
      rcases this with rfl | rfl | rfl <;> rfl

theorem Iv.act (h : Iv base k n w0 Go.Proofs.Ytljmpcmkgeomiaa.full a w p) (hb : 71 ≤ base.tmps.size) : a = fill base (vv k n p) 14 := by
  refine act_ext (fun t => ?_) (h.defers.trans (fill_size base _ 14).2.symm)
  rw [h.slots t, fill_get base _ 14 (by omega) t]
  by_cases e : 55 ≤ t ∧ t < 69
  · rw [if_pos (show 55 ≤ t ∧ t < 55 + 14 by omega)]
    have : t - 55 = 0 ∨ t - 55 = 1 ∨ t - 55 = 2 ∨ t - 55 = 3 ∨ t - 55 = 4 ∨ t - 55 = 5 ∨ t - 55 = 6 ∨ t - 55 = 7 ∨ t - 55 = 8 ∨ t - 55 = 9 ∨ t - 55 = 10 ∨ t - 55 = 11 ∨ t - 55 = 12 ∨ t - 55 = 13 := by omega
    have hon : Go.Proofs.Ytljmpcmkgeomiaa.full.getD (t - 55) false = true := by
      rcases this with q | q | q | q | q | q | q | q | q | q | q | q | q | q <;> rw [q] <;> rfl
    rw [if_pos ⟨e.1, e.2, hon⟩]
  · rw [if_neg (fun q => e ⟨q.1, q.2.1⟩), if_neg (by omega)]

theorem ready14 : Region.ready .any mkOps full = [14] := by decide +kernel
theorem ready15 : Region.ready .any mkOps (full.setIfInBounds 14 true) = [15] := by decide +kernel
theorem ready16 : Region.ready .any mkOps ((full.setIfInBounds 14 true).setIfInBounds 15 true) = [16] := by decide +kernel
theorem ready17 : Region.ready .any mkOps (((full.setIfInBounds 14 true).setIfInBounds 15 true).setIfInBounds 16 true) = [] := by decide +kernel

theorem one_ready {fuel i : Nat} (hr : Region.ready .any mkOps listed = [i]) (h : wpOp Try.prog mkOps Q i (wpAny Try.prog .any mkOps Q fuel (listed.setIfInBounds i true)) a w) : wpAny Try.prog .any mkOps Q (fuel + 1) listed a w := by
  refine ⟨fun h0 => (by rw [hr] at h0; cases h0), fun j hj => ?_⟩
  rw [hr, List.mem_singleton] at hj
  subst hj
  exact h

theorem Iv.end_ (h : Iv base k n w0 Go.Proofs.Ytljmpcmkgeomiaa.full a w p) (hb : 71 ≤ base.tmps.size) (hQ : Then base k n w0 Q) (fuel : Nat) : wpAny Try.prog .any mkOps Q (fuel + 3) Go.Proofs.Ytljmpcmkgeomiaa.full a w := by
  have hon : ∀ j, j < 7 → on Go.Proofs.Ytljmpcmkgeomiaa.full (2 * j + 1) := fun j hj => by
    rcases seven hj with rfl | rfl | rfl | rfl | rfl | rfl | rfl <;> rfl
  have ha := h.act hb
  have hsl : ∀ j : Nat, j < 7 → a.eval (.tmp (56 + 2 * j)) = .slice (some ⟨p j, 0, none⟩) (sz k n j) (sz k n j) := fun j hj => by
    refine eval_get _ _ _ ?_
    rw [ha, fill_get base _ 14 (by omega), if_pos (show 55 ≤ 56 + 2 * j ∧ 56 + 2 * j < 55 + 14 by omega), show 56 + 2 * j - 55 = 2 * j + 1 by omega, vv_odd]
  have hsz : a.tmps.size = base.tmps.size := h.tmps
  refine one_ready ready14 (wpOp_value (o := buildOp) rfl rfl (run_build k n p a hsl w) ?_)
  refine one_ready ready15 (wpOp_value (o := boxOp) rfl rfl (run_box k n p _ (eval_get _ _ _ ?_) w) ?_)
  · show (a.put (some 69) _).tmps[69]? = _
    rw [put_get _ _ _ _ (by omega), if_pos rfl]
  refine one_ready ready16 (wpOp_value (o := lastOp) rfl rfl (run_last _ (.pointer (some ⟨w.heap.size, 0, none⟩)) (eval_get _ _ _ ?_) _) ?_)
  · show ((a.put (some 69) _).put (some 70) _).tmps[70]? = _
    rw [put_get _ _ _ _ (by rw [put_size]; omega), if_pos rfl]
  have hkw : Kept [] w (w.alloc (.cells (stc k n p) 36 (0, 0))) := (Kept.refl [] w).alloc _
  have hq : Q .normal (done base k n p w.heap.size) (w.alloc (.cells (stc k n p) 36 (0, 0))) := by
    refine hQ p w.heap.size _ (h.kept.alloc _) (fun j hj => ?_) (fun i j hi hj => h.apart i j hi hj (hon i hi) (hon j hj)) h.kept.size (heap_alloc_new w _) (fun j hj e => ?_)
    · have h3 := h.made j hj (hon j hj)
      exact ⟨h3.1, by rw [hkw.block (p j) (lt_of_heap h3.2) (by simp)]; exact h3.2⟩
    · have h3 := lt_of_heap (h.made j hj (hon j hj)).2
      omega
  rw [ha]
  cases fuel with
  | zero => exact ⟨ready17, hq⟩
  | succ fuel => exact ⟨fun _ => hq, fun i hi => by rw [ready17] at hi; cases hi⟩

theorem mk_any (hb : 71 ≤ base.tmps.size) (hk : k ≤ 8) (hn : n ≤ 8) (h7 : base.tmps[7]? = some (.int .i64 (k : Int))) (h8 : base.tmps[8]? = some (.int .i64 (n : Int))) (hQ : Then base k n w0 Q) :
    ∀ fuel listed a w p, Iv base k n w0 listed a w p → cnt listed 14 + 3 ≤ fuel → wpAny Try.prog .any mkOps Q fuel listed a w := by
  intro fuel
  induction fuel with
  | zero => intro listed a w p h hf; omega
  | succ fuel ih =>
    intro listed a w p h hf
    by_cases hc : cnt listed 14 = 0
    · have e := h.full hc
      subst e
      obtain ⟨f', rfl⟩ : ∃ f', fuel = f' + 2 := ⟨fuel - 2, by omega⟩
      exact h.end_ hb hQ f'
    · have hs := h.size
      refine ⟨fun h0 => ?_, fun i hi => ?_⟩
      · exfalso
        obtain ⟨i, h1, h2⟩ := cnt_pos hc
        have hmv : ∀ j, j < 7 → on listed (2 * j) := fun j hj => by
          apply Classical.byContradiction
          intro h3
          have : 2 * j ∈ Region.ready .any mkOps listed := mem_ready.2 ⟨(off_iff (by omega)).2 h3, _, at_mv hj, fun e he => by simp [mvOp] at he⟩
          rw [h0] at this
          cases this
        by_cases e : i % 2 = 0
        · exact h2 (by have := hmv (i / 2) (by omega); rwa [show 2 * (i / 2) = i by omega] at this)
        · have : 2 * (i / 2) + 1 ∈ Region.ready .any mkOps listed := mem_ready.2 ⟨(off_iff (by omega)).2 (by rw [show 2 * (i / 2) + 1 = i by omega]; exact h2), _, at_mk (by omega), fun e he _ => by
            simp [mkOp] at he
            rw [he]
            exact hmv (i / 2) (by omega)⟩
          rw [h0] at this
          cases this
      · obtain ⟨h1, o, h2, h3⟩ := mem_ready.1 hi
        have hi17 : i < 17 := (Array.getElem?_eq_some_iff.1 h2).1
        have ho := (off_iff (by omega)).1 h1
        have hcs := cnt_set (listed := listed) (i := i) (by omega) ho 14
        by_cases h14 : i < 14
        · rw [if_pos h14] at hcs
          by_cases e : i % 2 = 0
          · have ei : 2 * (i / 2) = i := by omega
            have hj : i / 2 < 7 := by omega
            generalize i / 2 = j at *
            subst ei
            obtain ⟨q1, q2⟩ := h.move hb h7 h8 hj ho
            exact wpOp_value (at_mv hj) rfl q1 (ih _ _ _ _ q2 (by omega))
          · have ei : 2 * (i / 2) + 1 = i := by omega
            have hj : i / 2 < 7 := by omega
            generalize i / 2 = j at *
            subst ei
            rw [at_mk hj] at h2
            obtain rfl : mkOp j = o := by simpa using h2
            have hm : on listed (2 * j) := h3 { on := 2 * j, ground := .data } (by simp [mkOp]) rfl
            obtain ⟨q1, p', q2⟩ := h.make hb hk hn hj ho hm
            exact wpOp_value (at_mk hj) rfl q1 (ih _ _ _ _ q2 (by omega))
        · exfalso
          have : i = 14 ∨ i = 15 ∨ i = 16 := by omega
          rcases this with rfl | rfl | rfl
          · obtain rfl : buildOp = o := by simpa [mkOps] using h2
            have hmk : ∀ j, j < 7 → on listed (2 * j + 1) := fun j hj => h3 { on := 2 * j + 1, ground := .data } (by rcases seven hj with rfl | rfl | rfl | rfl | rfl | rfl | rfl <;> simp [buildOp]) rfl
            obtain ⟨x, hx1, hx2⟩ := cnt_pos hc
            by_cases e : x % 2 = 0
            · exact hx2 (by have := h.clo (x / 2) (by omega) (hmk (x / 2) (by omega)); rwa [show 2 * (x / 2) = x by omega] at this)
            · exact hx2 (by have := hmk (x / 2) (by omega); rwa [show 2 * (x / 2) + 1 = x by omega] at this)
          · obtain rfl : boxOp = o := by simpa [mkOps] using h2
            exact h.late 14 (by omega) (by omega) (h3 { on := 14, ground := .data } (by simp [boxOp]) rfl)
          · obtain rfl : lastOp = o := by simpa [mkOps] using h2
            exact h.late 15 (by omega) (by omega) (h3 { on := 15, ground := .data } (by simp [lastOp]) rfl)

/-- The region whole. -/
theorem mk_region {id : Nat} (hb : 71 ≤ base.tmps.size) (hk : k ≤ 8) (hn : n ≤ 8) (h7 : base.tmps[7]? = some (.int .i64 (k : Int))) (h8 : base.tmps[8]? = some (.int .i64 (n : Int))) (hQ : Then base k n w Q) : (Code.region id mkOps true).wp Try.prog Q base w := by
  refine wp_region_any (by kernel_rfl) ?_
  refine mk_any (w0 := w) hb hk hn h7 h8 hQ 17 (Array.replicate 17 false) base _ (fun _ => 0) ?_ (by decide)
  have hoff : ∀ i, ¬ on (Array.replicate 17 false) i := fun i h => by
    unfold on at h
    simp only [Array.getD_eq_getD_getElem?, Array.getElem?_replicate] at h
    split at h <;> simp at h
  refine ⟨by simp, fun i _ _ => hoff i, fun j _ h => absurd h (hoff _), rfl, rfl, fun t => (if_neg (fun q => hoff _ q.2.2)).symm, fun j _ h => absurd h (hoff _), fun i j _ _ h => absurd h (hoff _), (Kept.refl [] w).drew⟩

end

end Go.Proofs.Ytljmpcmkgeomiaa
