/-
  The law's own counts (its type model) in memory: where they lie, and what a write makes of them.
-/
import Derived.Test.YtljmpcmkgeomiaaRm
namespace Go.Proofs.Ytljmpcmkgeomiaa
open Go.RowKit
set_option linter.unusedVariables false

/-- n cells. -/
def bl (n : Nat) (f : Nat → Value) : Array Value := ((List.range n).map f).toArray

theorem bl_get {n : Nat} {f : Nat → Value} {i : Nat} (h : i < n) : (bl n f)[i]? = some (f i) := by
  simp [bl, h]

theorem bl_set (n : Nat) (f : Nat → Value) (i : Nat) (v : Value) : (bl n f).setIfInBounds i v = bl n (fun j => if j = i then v else f j) := by
  apply Array.ext_getElem?
  intro j
  rw [Array.getElem?_setIfInBounds]
  simp only [bl, List.getElem?_toArray, List.getElem?_map, List.size_toArray, List.length_map, List.length_range]
  by_cases hj : j < n
  · by_cases e : i = j
    · subst e; simp [hj]
    · rw [if_neg e]
      simp [hj, Ne.symm e]
  · have hr : (List.range n)[j]? = none := List.getElem?_eq_none (by simp; omega)
    by_cases e : i = j
    · subst e; simp [hj]
    · rw [if_neg e, hr]; rfl

theorem bl_same {n : Nat} {f g : Nat → Value} (h : ∀ i, i < n → f i = g i) : bl n f = bl n g := by
  unfold bl
  congr 1
  apply List.map_congr_left
  intro i hi
  exact h i (List.mem_range.1 hi)

/-- What lies in the i-th block: the struct, the rows of parts, the global parts, who has flushed, added, zero, ever, dead, and the parts of each core. -/
def ob (p : Nat → Nat) (k n : Nat) (m : Mo) : Nat → Obj
  | 0 => .cells #[.slice (some ⟨p 1, 0, none⟩) k k, .slice (some ⟨p 2, 0, none⟩) n n, .slice (some ⟨p 3, 0, none⟩) k k, .slice (some ⟨p 4, 0, none⟩) n n, .slice (some ⟨p 5, 0, none⟩) n n, .slice (some ⟨p 6, 0, none⟩) n n, .slice (some ⟨p 7, 0, none⟩) n n, .int .i64 (m.epoch : Int)] 36 (0, 0)
  | 1 => .cells (bl k fun c => .slice (some ⟨p (8 + c), 0, none⟩) n n) 33 (0, 0)
  | 2 => .cells (bl n fun o => .int .i64 (m.glob o)) 3 (0, 0)
  | 3 => .cells (bl k fun c => .bool (m.flu c)) 4 (0, 0)
  | 4 => .cells (bl n fun o => .bool (m.added o)) 4 (0, 0)
  | 5 => .cells (bl n fun o => .bool (m.zero o)) 4 (0, 0)
  | 6 => .cells (bl n fun o => .bool (m.ever o)) 4 (0, 0)
  | 7 => .cells (bl n fun o => .bool (m.dead o)) 4 (0, 0)
  | c + 8 => .cells (bl n fun o => .int .i64 (m.parts c o)) 3 (0, 0)

/-- They lie there. -/
structure Md (w : World) (p : Nat → Nat) (k n : Nat) (m : Mo) : Prop where
  one : ∀ i j, i < 8 + k → j < 8 + k → p i = p j → i = j
  lie : ∀ i, i < 8 + k → w.heap[p i]? = some (ob p k n m i)

/-- The blocks, and what lies in them. -/
def mS (p : Nat → Nat) (k n : Nat) (m : Mo) : List (Nat × Obj) := (List.range (8 + k)).map fun i => (p i, ob p k n m i)

theorem mem_mS {p : Nat → Nat} {k n : Nat} {m : Mo} {x : Nat × Obj} : x ∈ mS p k n m ↔ ∃ i, i < 8 + k ∧ x = (p i, ob p k n m i) := by
  unfold mS
  rw [List.mem_map]
  constructor
  · rintro ⟨i, h1, h2⟩; exact ⟨i, List.mem_range.1 h1, h2.symm⟩
  · rintro ⟨i, h1, h2⟩; exact ⟨i, List.mem_range.2 h1, h2.symm⟩

/-- The blocks. -/
def mB (p : Nat → Nat) (k : Nat) : List Nat := (List.range (8 + k)).map p

theorem mem_mB {p : Nat → Nat} {k x : Nat} : x ∈ mB p k ↔ ∃ i, i < 8 + k ∧ x = p i := by
  unfold mB
  rw [List.mem_map]
  constructor
  · rintro ⟨i, h1, h2⟩; exact ⟨i, List.mem_range.1 h1, h2.symm⟩
  · rintro ⟨i, h1, h2⟩; exact ⟨i, List.mem_range.2 h1, h2.symm⟩

/-- The same, as far as it lies there. -/
structure Eqv (k n : Nat) (m m' : Mo) : Prop where
  parts : ∀ c o, c < k → o < n → m.parts c o = m'.parts c o
  glob : ∀ o, o < n → m.glob o = m'.glob o
  flu : ∀ c, c < k → m.flu c = m'.flu c
  added : ∀ o, o < n → m.added o = m'.added o
  zero : ∀ o, o < n → m.zero o = m'.zero o
  ever : ∀ o, o < n → m.ever o = m'.ever o
  dead : ∀ o, o < n → m.dead o = m'.dead o
  epoch : m.epoch = m'.epoch

theorem Eqv.ob {p : Nat → Nat} {k n : Nat} {m m' : Mo} (h : Eqv k n m m') : ∀ i, i < 8 + k → ob p k n m i = ob p k n m' i := by
  intro i hi
  rcases i with _ | _ | _ | _ | _ | _ | _ | _ | c
  · simp only [Go.Proofs.Ytljmpcmkgeomiaa.ob]; rw [h.epoch]
  · rfl
  · simp only [Go.Proofs.Ytljmpcmkgeomiaa.ob]; rw [bl_same fun o ho => by rw [h.glob o ho]]
  · simp only [Go.Proofs.Ytljmpcmkgeomiaa.ob]; rw [bl_same fun o ho => by rw [h.flu o ho]]
  · simp only [Go.Proofs.Ytljmpcmkgeomiaa.ob]; rw [bl_same fun o ho => by rw [h.added o ho]]
  · simp only [Go.Proofs.Ytljmpcmkgeomiaa.ob]; rw [bl_same fun o ho => by rw [h.zero o ho]]
  · simp only [Go.Proofs.Ytljmpcmkgeomiaa.ob]; rw [bl_same fun o ho => by rw [h.ever o ho]]
  · simp only [Go.Proofs.Ytljmpcmkgeomiaa.ob]; rw [bl_same fun o ho => by rw [h.dead o ho]]
  · simp only [Go.Proofs.Ytljmpcmkgeomiaa.ob]; rw [bl_same fun o ho => by rw [h.parts c o (by omega) ho]]

section
variable {w w' : World} {p : Nat → Nat} {k n : Nat} {m m' : Mo}

theorem Md.as (h : Md w p k n m) (e : Eqv k n m m') : Md w p k n m' := ⟨h.one, fun i hi => by rw [← e.ob i hi]; exact h.lie i hi⟩

theorem Md.kept {F : List Nat} (h : Md w p k n m) (hk : Kept F w w') (hF : ∀ i, i < 8 + k → p i ∉ F) : Md w' p k n m :=
  ⟨h.one, fun i hi => by rw [hk.block (p i) (lt_of_heap (h.lie i hi)) (hF i hi)]; exact h.lie i hi⟩

theorem Md.drew (h : Md w p k n m) : Md w.drew p k n m := ⟨h.one, h.lie⟩

theorem Md.drewN (h : Md w p k n m) (q : Nat) : Md (w.drewN q) p k n m := ⟨h.one, h.lie⟩

/-- One cell is written. -/
theorem Md.set (h : Md w p k n m) (i0 : Nat) (hi0 : i0 < 8 + k) (q : Nat) (v : Value) (hob : ∀ i, i < 8 + k → i ≠ i0 → ob p k n m' i = ob p k n m i) (hme : ∃ cs t, ob p k n m i0 = .cells cs t (0, 0) ∧ ob p k n m' i0 = .cells (cs.setIfInBounds q v) t (0, 0)) : Md (w.setCell ⟨p i0, q, none⟩ v) p k n m' := by
  refine ⟨h.one, fun i hi => ?_⟩
  by_cases e : i = i0
  · subst e
    obtain ⟨cs, t, e1, e2⟩ := hme
    have h1 := h.lie i hi
    rw [e1] at h1
    rw [e2]
    exact block_set h1 v
  · rw [block_other (fun e2 => e (h.one i i0 hi hi0 e2)), hob i hi e]
    exact h.lie i hi

/-- The cells of the struct. -/
theorem Md.main (h : Md w p k n m) : w.cell? ⟨p 0, 0, none⟩ = some (.slice (some ⟨p 1, 0, none⟩) k k) ∧ w.cell? ⟨p 0, 1, none⟩ = some (.slice (some ⟨p 2, 0, none⟩) n n) ∧ w.cell? ⟨p 0, 2, none⟩ = some (.slice (some ⟨p 3, 0, none⟩) k k) ∧ w.cell? ⟨p 0, 3, none⟩ = some (.slice (some ⟨p 4, 0, none⟩) n n) ∧ w.cell? ⟨p 0, 4, none⟩ = some (.slice (some ⟨p 5, 0, none⟩) n n) ∧ w.cell? ⟨p 0, 5, none⟩ = some (.slice (some ⟨p 6, 0, none⟩) n n) ∧ w.cell? ⟨p 0, 6, none⟩ = some (.slice (some ⟨p 7, 0, none⟩) n n) ∧ w.cell? ⟨p 0, 7, none⟩ = some (.int .i64 (m.epoch : Int)) := by
  have h0 := h.lie 0 (by omega)
  simp only [ob] at h0
  simp [World.cell?, h0]

theorem Md.cell (h : Md w p k n m) (i : Nat) (hi : i < 8 + k) {cs : Array Value} {t : TypeId} (e : ob p k n m i = .cells cs t (0, 0)) {q : Nat} {v : Value} (hq : cs[q]? = some v) : w.cell? ⟨p i, q, none⟩ = some v := by
  have h0 := h.lie i hi
  rw [e] at h0
  simp [World.cell?, h0, hq]

theorem Md.frozen (h : Md w p k n m) (i : Nat) (hi : i < 8 + k) (q : Nat) : w.frozen? ⟨p i, q, none⟩ = false := by
  have h0 := h.lie i hi
  obtain ⟨cs, t, e⟩ : ∃ cs t, ob p k n m i = .cells cs t (0, 0) := by
    rcases i with _ | _ | _ | _ | _ | _ | _ | _ | c <;> exact ⟨_, _, rfl⟩
  rw [e] at h0
  exact block_frozen h0 q

theorem Md.row (h : Md w p k n m) (c : Nat) (hc : c < k) : w.cell? ⟨p 1, c, none⟩ = some (.slice (some ⟨p (8 + c), 0, none⟩) n n) := h.cell 1 (by omega) rfl (bl_get hc)
theorem Md.glob (h : Md w p k n m) (o : Nat) (ho : o < n) : w.cell? ⟨p 2, o, none⟩ = some (.int .i64 (m.glob o)) := h.cell 2 (by omega) rfl (bl_get ho)
theorem Md.flu (h : Md w p k n m) (c : Nat) (hc : c < k) : w.cell? ⟨p 3, c, none⟩ = some (.bool (m.flu c)) := h.cell 3 (by omega) rfl (bl_get hc)
theorem Md.added (h : Md w p k n m) (o : Nat) (ho : o < n) : w.cell? ⟨p 4, o, none⟩ = some (.bool (m.added o)) := h.cell 4 (by omega) rfl (bl_get ho)
theorem Md.zero (h : Md w p k n m) (o : Nat) (ho : o < n) : w.cell? ⟨p 5, o, none⟩ = some (.bool (m.zero o)) := h.cell 5 (by omega) rfl (bl_get ho)
theorem Md.ever (h : Md w p k n m) (o : Nat) (ho : o < n) : w.cell? ⟨p 6, o, none⟩ = some (.bool (m.ever o)) := h.cell 6 (by omega) rfl (bl_get ho)
theorem Md.dead (h : Md w p k n m) (o : Nat) (ho : o < n) : w.cell? ⟨p 7, o, none⟩ = some (.bool (m.dead o)) := h.cell 7 (by omega) rfl (bl_get ho)
theorem Md.part (h : Md w p k n m) (c o : Nat) (hc : c < k) (ho : o < n) : w.cell? ⟨p (8 + c), o, none⟩ = some (.int .i64 (m.parts c o)) := by
  rw [Nat.add_comm 8 c]
  exact h.cell (c + 8) (by omega) rfl (bl_get ho)

theorem Md.setGlob (h : Md w p k n m) (o : Nat) (v : Int) : Md (w.setCell ⟨p 2, o, none⟩ (.int .i64 v)) p k n { m with glob := fun o' => if o' = o then v else m.glob o' } := by
  refine h.set 2 (by omega) o _ (fun i hi hne => ?_) ⟨_, _, rfl, ?_⟩
  · rcases i with _ | _ | _ | _ | _ | _ | _ | _ | c <;> first | rfl | exact absurd rfl hne
  · simp only [ob]; rw [bl_set]; exact congrArg (fun a => Obj.cells a 3 (0, 0)) (bl_same fun j _ => by by_cases e : j = o <;> simp [e])

theorem Md.setFlu (h : Md w p k n m) (o : Nat) (v : Bool) : Md (w.setCell ⟨p 3, o, none⟩ (.bool v)) p k n { m with flu := fun o' => if o' = o then v else m.flu o' } := by
  refine h.set 3 (by omega) o _ (fun i hi hne => ?_) ⟨_, _, rfl, ?_⟩
  · rcases i with _ | _ | _ | _ | _ | _ | _ | _ | c <;> first | rfl | exact absurd rfl hne
  · simp only [ob]; rw [bl_set]; exact congrArg (fun a => Obj.cells a 4 (0, 0)) (bl_same fun j _ => by by_cases e : j = o <;> simp [e])

theorem Md.setAdded (h : Md w p k n m) (o : Nat) (v : Bool) : Md (w.setCell ⟨p 4, o, none⟩ (.bool v)) p k n { m with added := fun o' => if o' = o then v else m.added o' } := by
  refine h.set 4 (by omega) o _ (fun i hi hne => ?_) ⟨_, _, rfl, ?_⟩
  · rcases i with _ | _ | _ | _ | _ | _ | _ | _ | c <;> first | rfl | exact absurd rfl hne
  · simp only [ob]; rw [bl_set]; exact congrArg (fun a => Obj.cells a 4 (0, 0)) (bl_same fun j _ => by by_cases e : j = o <;> simp [e])

theorem Md.setZero (h : Md w p k n m) (o : Nat) (v : Bool) : Md (w.setCell ⟨p 5, o, none⟩ (.bool v)) p k n { m with zero := fun o' => if o' = o then v else m.zero o' } := by
  refine h.set 5 (by omega) o _ (fun i hi hne => ?_) ⟨_, _, rfl, ?_⟩
  · rcases i with _ | _ | _ | _ | _ | _ | _ | _ | c <;> first | rfl | exact absurd rfl hne
  · simp only [ob]; rw [bl_set]; exact congrArg (fun a => Obj.cells a 4 (0, 0)) (bl_same fun j _ => by by_cases e : j = o <;> simp [e])

theorem Md.setEver (h : Md w p k n m) (o : Nat) (v : Bool) : Md (w.setCell ⟨p 6, o, none⟩ (.bool v)) p k n { m with ever := fun o' => if o' = o then v else m.ever o' } := by
  refine h.set 6 (by omega) o _ (fun i hi hne => ?_) ⟨_, _, rfl, ?_⟩
  · rcases i with _ | _ | _ | _ | _ | _ | _ | _ | c <;> first | rfl | exact absurd rfl hne
  · simp only [ob]; rw [bl_set]; exact congrArg (fun a => Obj.cells a 4 (0, 0)) (bl_same fun j _ => by by_cases e : j = o <;> simp [e])

theorem Md.setDead (h : Md w p k n m) (o : Nat) (v : Bool) : Md (w.setCell ⟨p 7, o, none⟩ (.bool v)) p k n { m with dead := fun o' => if o' = o then v else m.dead o' } := by
  refine h.set 7 (by omega) o _ (fun i hi hne => ?_) ⟨_, _, rfl, ?_⟩
  · rcases i with _ | _ | _ | _ | _ | _ | _ | _ | c <;> first | rfl | exact absurd rfl hne
  · simp only [ob]; rw [bl_set]; exact congrArg (fun a => Obj.cells a 4 (0, 0)) (bl_same fun j _ => by by_cases e : j = o <;> simp [e])

theorem Md.setEpoch (h : Md w p k n m) (e : Nat) (v : Int) (hv : v = (e : Int)) : Md (w.setCell ⟨p 0, 7, none⟩ (.int .i64 v)) p k n { m with epoch := e } := by
  subst hv
  refine h.set 0 (by omega) 7 _ (fun i hi hne => ?_) ⟨_, _, rfl, ?_⟩
  · rcases i with _ | _ | _ | _ | _ | _ | _ | _ | c <;> first | rfl | exact absurd rfl hne
  · rfl

theorem Md.setPart (h : Md w p k n m) (c o : Nat) (hc : c < k) (v : Int) : Md (w.setCell ⟨p (8 + c), o, none⟩ (.int .i64 v)) p k n { m with parts := fun c' o' => if c' = c ∧ o' = o then v else m.parts c' o' } := by
  refine h.set (8 + c) (by omega) o _ (fun i hi hne => ?_) ⟨bl n fun o => .int .i64 (m.parts c o), 3, by rw [Nat.add_comm]; rfl, ?_⟩
  · rcases i with _ | _ | _ | _ | _ | _ | _ | _ | d
    all_goals first
      | rfl
      | (simp only [ob]; rw [bl_same fun j _ => by rw [if_neg (fun q => hne (by omega))]])
  · rw [Nat.add_comm]
    show Obj.cells (bl n fun o' => .int .i64 (if c = c ∧ o' = o then v else m.parts c o')) 3 (0, 0) = _
    rw [bl_set, bl_same (g := fun o' => if o' = o then .int .i64 v else .int .i64 (m.parts c o')) fun j _ => by by_cases e : j = o <;> simp [e]]

end
end Go.Proofs.Ytljmpcmkgeomiaa
