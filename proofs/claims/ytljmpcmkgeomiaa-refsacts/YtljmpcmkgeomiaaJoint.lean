/-
  Both counts side by side, and an act beside them.
-/
import Derived.Test.YtljmpcmkgeomiaaMk
import Derived.Test.YtljmpcmkgeomiaaMflush
namespace Go.Proofs.Ytljmpcmkgeomiaa
open Go.RowKit
set_option linter.unusedVariables false

/-- .. and a block X beside them. -/
structure Jx (w0 w : World) (b g k n L N : Nat) (p : Nat → Nat) (m m2 : Mo) (X : Nat) (O : Obj) : Prop where
  refs : Rm Any ((X, O) :: (mS p k n m2 ++ [(g, box b 0 n)])) w0 w b g 0 n k L N m
  one : ∀ i j, i < 8 + k → j < 8 + k → p i = p j → i = j
  new : ∀ i, i < 8 + k → p i ≠ g
  off : ∀ i, i < 8 + k → p i ≠ X

section
variable {w0 w w' : World} {b g k n L N : Nat} {p : Nat → Nat} {m m2 : Mo} {X : Nat} {O : Obj}

theorem Jx.md (h : Jx w0 w b g k n L N p m m2 X O) : Md w p k n m2 :=
  ⟨h.one, fun i hi => h.refs.at_ (x := (p i, ob p k n m2 i)) (List.mem_cons_of_mem _ (List.mem_append.2 (Or.inl (mem_mS.2 ⟨i, hi, rfl⟩))))⟩

theorem Jx.drop (h : Jx w0 w b g k n L N p m m2 X O) : Jm w0 w b g k n L N p m m2 :=
  ⟨h.refs.fewer (fun x hx => List.mem_cons_of_mem _ hx) (by simp), h.one, h.new⟩

theorem Jx.mono (h : Jx w0 w b g k n L N p m m2 X O) {N' : Nat} (hN : N ≤ N') : Jx w0 w b g k n L N' p m m2 X O := ⟨h.refs.mono hN, h.one, h.new, h.off⟩

theorem Jx.still (h : Jx w0 w b g k n L N p m m2 X O) (hk : Kept [] w w') : Jx w0 w' b g k n L N p m m2 X O := ⟨h.refs.still hk, h.one, h.new, h.off⟩

theorem Jx.to (h : Jx w0 w b g k n L N p m m2 X O) {N' : Nat} {m' : Mo} (hr : Rm Any ((X, O) :: (mS p k n m2 ++ [(g, box b 0 n)])) w0 w' b g 0 n k L N' m') : Jx w0 w' b g k n L N' p m' m2 X O := ⟨hr, h.one, h.new, h.off⟩

theorem Jm.push (h : Jm w0 w b g k n L N p m m2) (hk : Kept [] w w') (hX : w.heap.size ≤ X) (hO : w'.heap[X]? = some O) : Jx w0 w' b g k n L N p m m2 X O := by
  refine ⟨h.refs.turn [] (by simp) hk _ (by simp) (fun x hx => ?_), h.one, h.new, fun i hi e => ?_⟩
  · rcases List.mem_cons.1 hx with rfl | hx
    · exact ⟨Or.inl hX, hO⟩
    · have h1 := h.refs.at_ hx
      exact ⟨Or.inr ⟨x.2, hx⟩, by rw [hk.block x.1 (lt_of_heap h1) (by simp)]; exact h1⟩
  · have := lt_of_heap (h.md.lie i hi)
    omega

/-- The law's own counts turn. -/
theorem Jx.turn (h : Jx w0 w b g k n L N p m m2 X O) {m3 : Mo} (hk : Kept (mB p k) w w') (hm : Md w' p k n m3) : Jx w0 w' b g k n L N p m m3 X O := by
  have hout : ∀ y, y ∈ mB p k → ∃ i, i < 8 + k ∧ y = p i := fun y hy => mem_mB.1 hy
  refine ⟨h.refs.turn (mB p k) (fun x hx => ?_) hk _ (by simp) (fun x hx => ?_), h.one, h.new, h.off⟩
  · obtain ⟨i, hi, rfl⟩ := mem_mB.1 hx
    exact ⟨_, List.mem_cons_of_mem _ (List.mem_append.2 (Or.inl (mem_mS.2 ⟨i, hi, rfl⟩)))⟩
  · rcases List.mem_cons.1 hx with rfl | hx
    · have h1 := h.refs.at_ (x := (X, O)) (List.mem_cons_self ..)
      refine ⟨Or.inr ⟨O, List.mem_cons_self ..⟩, ?_⟩
      rw [hk.block X (lt_of_heap h1) (fun hg => ?_)]
      · exact h1
      · obtain ⟨i, hi, e⟩ := hout _ hg
        exact h.off i hi e.symm
    · rcases List.mem_append.1 hx with hx | hx
      · obtain ⟨i, hi, rfl⟩ := mem_mS.1 hx
        exact ⟨Or.inr ⟨_, List.mem_cons_of_mem _ (List.mem_append.2 (Or.inl (mem_mS.2 ⟨i, hi, rfl⟩)))⟩, hm.lie i hi⟩
      · rw [List.mem_singleton] at hx
        subst hx
        refine ⟨Or.inr ⟨_, List.mem_cons_of_mem _ (List.mem_append.2 (Or.inr (List.mem_singleton.2 rfl)))⟩, ?_⟩
        have h1 := h.refs.at_ (x := (g, box b 0 n)) (List.mem_cons_of_mem _ (List.mem_append.2 (Or.inr (List.mem_singleton.2 rfl))))
        rw [hk.block g (lt_of_heap h1) (fun hg => ?_)]
        · exact h1
        · obtain ⟨i, hi, e⟩ := hout _ hg
          exact h.new i hi e.symm

theorem Jx.as (h : Jx w0 w b g k n L N p m m2 X O) {m3 : Mo} (e : Eqv k n m2 m3) : Jx w0 w b g k n L N p m m3 X O :=
  h.turn (Kept.refl _ _) (h.md.as e)

end

/-- The rows of the law's counts below j are made. -/
structure Pr (w0 w : World) (p : Nat → Nat) (k n j : Nat) : Prop where
  one : ∀ i i', i < 8 + j → i' < 8 + j → p i = p i' → i = i'
  lie : ∀ i, i < 8 + j → i ≠ 1 → w.heap[p i]? = some (ob p k n Mo.none i)
  rows : w.heap[p 1]? = some (.cells (bl k fun c => if c < j then .slice (some ⟨p (8 + c), 0, none⟩) n n else .slice none 0 0) 33 (0, 0))
  old : ∀ i, i < 8 + j → w0.heap.size ≤ p i
  kept : Kept [] w0 w

/-- Where they lie, of where the parts of the making lie. -/
def pw0 (p : Nat → Nat) (q : Nat) (i : Nat) : Nat := if i = 0 then q else p (i - 1)

theorem Pr.start {w0 w : World} {k n q : Nat} {p : Nat → Nat} (hk : Kept [] w0 w) (h1 : ∀ j, j < 7 → w0.heap.size ≤ p j ∧ w.heap[p j]? = some (zo k n j)) (h2 : ∀ i j, i < 7 → j < 7 → p i = p j → i = j) (h3 : w0.heap.size ≤ q) (h4 : w.heap[q]? = some (.cells (stc k n p) 36 (0, 0))) (h5 : ∀ j, j < 7 → p j ≠ q) : Pr w0 w (pw0 p q) k n 0 := by
  refine ⟨fun i i' hi hi' e => ?_, fun i hi h1' => ?_, ?_, fun i hi => ?_, hk⟩
  · unfold pw0 at e
    by_cases a : i = 0
    · by_cases b : i' = 0
      · omega
      · rw [if_pos a, if_neg b] at e
        exact absurd e.symm (h5 (i' - 1) (by omega))
    · by_cases b : i' = 0
      · rw [if_neg a, if_pos b] at e
        exact absurd e (h5 (i - 1) (by omega))
      · rw [if_neg a, if_neg b] at e
        have := h2 (i - 1) (i' - 1) (by omega) (by omega) e
        omega
  · have : i = 0 ∨ i = 2 ∨ i = 3 ∨ i = 4 ∨ i = 5 ∨ i = 6 ∨ i = 7 := by omega
    rcases this with rfl | rfl | rfl | rfl | rfl | rfl | rfl
    · exact h4
    · exact (h1 1 (by omega)).2
    · exact (h1 2 (by omega)).2
    · exact (h1 3 (by omega)).2
    · exact (h1 4 (by omega)).2
    · exact (h1 5 (by omega)).2
    · exact (h1 6 (by omega)).2
  · have := (h1 0 (by omega)).2
    show w.heap[p 0]? = _
    rw [this]
    rfl
  · unfold pw0
    split
    · exact h3
    · exact (h1 (i - 1) (by omega)).1

/-- A row more. -/
theorem Pr.next {w0 w : World} {k n j : Nat} {p : Nat → Nat} (h : Pr w0 w p k n j) (hj : j < k) :
    Pr w0 (((w.alloc (.cells (bl n fun _ => .int .i64 0) 3)).setCell ⟨p 1, j, none⟩ (.slice (some ⟨w.heap.size, 0, none⟩) n n))).drew (fun i => if i = 8 + j then w.heap.size else p i) k n (j + 1) := by
  have hka : Kept [] w (w.alloc (.cells (bl n fun _ => .int .i64 0) 3)) := (Kept.refl [] w).alloc _
  have lt : ∀ i, i < 8 + j → p i < w.heap.size := fun i hi => by
    by_cases e : i = 1
    · subst e; exact lt_of_heap h.rows
    · exact lt_of_heap (h.lie i hi e)
  have hP1 : p 1 < w.heap.size := lt 1 (by omega)
  refine ⟨fun i i' hi hi' e => ?_, fun i hi h1 => ?_, ?_, fun i hi => ?_, (hka.trans (Kept.refl [] _) (by simp) |> fun q => ((h.kept.alloc _).setCell (Or.inr (h.old 1 (by omega))) _).drew)⟩
  · by_cases a : i = 8 + j
    · by_cases b : i' = 8 + j
      · omega
      · simp only [if_pos a, if_neg b] at e
        have := lt i' (by omega); omega
    · by_cases b : i' = 8 + j
      · simp only [if_neg a, if_pos b] at e
        have := lt i (by omega); omega
      · simp only [if_neg a, if_neg b] at e
        exact h.one i i' (by omega) (by omega) e
  · have hob : ∀ i, i < 8 + j → i ≠ 1 → ob (fun i => if i = 8 + j then w.heap.size else p i) k n Mo.none i = ob p k n Mo.none i := fun i hi h1 => by
      rcases i with _ | _ | _ | _ | _ | _ | _ | _ | c
      · simp only [ob]
        rw [if_neg (show ¬ 1 = 8 + j by omega), if_neg (show ¬ 2 = 8 + j by omega), if_neg (show ¬ 3 = 8 + j by omega), if_neg (show ¬ 4 = 8 + j by omega), if_neg (show ¬ 5 = 8 + j by omega), if_neg (show ¬ 6 = 8 + j by omega), if_neg (show ¬ 7 = 8 + j by omega)]
      · exact absurd rfl h1
      all_goals rfl
    show (((w.alloc (.cells (bl n fun _ => .int .i64 0) 3)).setCell ⟨p 1, j, none⟩ _)).heap[(if i = 8 + j then w.heap.size else p i)]? = _
    by_cases a : i = 8 + j
    · rw [if_pos a, block_other (by omega), heap_alloc_new, a, Nat.add_comm 8 j]
      rfl
    · rw [if_neg a, hob i (by omega) h1, block_other (fun e => h1 (h.one i 1 (by omega) (by omega) e)), hka.block (p i) (lt i (by omega)) (by simp)]
      exact h.lie i (by omega) h1
  · show (((w.alloc (.cells (bl n fun _ => .int .i64 0) 3)).setCell ⟨p 1, j, none⟩ _)).heap[(if 1 = 8 + j then w.heap.size else p 1)]? = _
    rw [if_neg (by omega), block_set (by rw [hka.block (p 1) hP1 (by simp)]; exact h.rows), bl_set]
    congr 2
    apply bl_same
    intro c hc
    by_cases e : c = j
    · subst e
      rw [if_pos rfl, if_pos (by omega), if_pos rfl]
    · rw [if_neg e]
      by_cases q : c < j
      · rw [if_pos q, if_pos (by omega), if_neg (by omega)]
      · rw [if_neg q, if_neg (by omega)]
  · show w0.heap.size ≤ if i = 8 + j then w.heap.size else p i
    split
    · exact h.kept.size
    · exact h.old i (by omega)

/-- All rows are made. -/
theorem Pr.joint {w0 w1 w : World} {b g k n L N : Nat} {p : Nat → Nat} (h : Pr w1 w p k n k) (hr : Rm Any [(g, box b 0 n)] w0 w1 b g 0 n k L N Mo.none) : Jm w0 w b g k n L N p Mo.none Mo.none := by
  have hl : ∀ i, i < 8 + k → w.heap[p i]? = some (ob p k n Mo.none i) := fun i hi => by
    by_cases e : i = 1
    · subst e
      rw [h.rows]
      simp only [ob]
      congr 2
      apply bl_same
      intro c hc
      rw [if_pos hc]
    · exact h.lie i hi e
  refine ⟨hr.turn [] (by simp) h.kept _ (by simp) (fun x hx => ?_), h.one, fun i hi e => ?_⟩
  · rcases List.mem_append.1 hx with hx | hx
    · obtain ⟨i, hi, rfl⟩ := mem_mS.1 hx
      exact ⟨Or.inl (h.old i hi), hl i hi⟩
    · have h1 := hr.at_ hx
      exact ⟨Or.inr ⟨x.2, hx⟩, by rw [h.kept.block x.1 (lt_of_heap h1) (by simp)]; exact h1⟩
  · have h1 := lt_of_heap (hr.at_ (x := (g, box b 0 n)) (by simp))
    have := h.old i hi
    simp only at h1
    omega

end Go.Proofs.Ytljmpcmkgeomiaa
