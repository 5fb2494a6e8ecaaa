/-
  Rows of ints and of bools of the law's own, as functions of their places.
-/
import Derived.Test.YtdhmhghffmpipaaNx
namespace Go.Proofs.Ytdhmhghffmpipaa
open Go.RowKit
set_option linter.unusedVariables false

theorem info4 : (Try.prog.info? 4).map (fun i => (i.zero, i.size, i.bytes)) = some (some (.bool false), 1, 1) := by kernel_rfl

theorem make_bools (n : Nat) (h : n ≤ 65536) (w : World) : (Instr.makeSlice 43 (.int .i64 (n : Int)) (.int .i64 (n : Int))).run Try.prog w = .ok (.slice (some ⟨w.heap.size, 0, none⟩) n n) (w.alloc (.cells (List.replicate n (.bool false)).toArray 4)) := by
  obtain ⟨i0, hi, hz0, hz1, hz2⟩ := info_parts info4
  have := run_make (P := Try.prog) w 43 4 i0 (.bool false) Try.underlying43 hi hz0 .i64 .i64 n n (by omega) (by omega) (by rw [hz2]; omega) (by omega)
  rw [this]
  have e : madeCells (Value.bool false).cells ((n : Int).toNat * i0.size) = (List.replicate n (.bool false)).toArray := by
    apply Array.ext'
    rw [hz1]
    simp [toList_madeCells_one, Value.cells]
  rw [e]
  simp

/-- A row as a function of its places. -/
def rowF (n : Nat) (F : Nat → Value) : Array Value := ((List.range n).map F).toArray

/-- A place turned. -/
def updV (F : Nat → Value) (i : Nat) (v : Value) : Nat → Value := fun j => if j = i then v else F j

theorem rowF_get {n : Nat} (F : Nat → Value) {i : Nat} (h : i < n) : (rowF n F)[i]? = some (F i) := by
  simp [rowF, h]

theorem rowF_set {n : Nat} (F : Nat → Value) {i : Nat} (v : Value) : (rowF n F).setIfInBounds i v = rowF n (updV F i v) := by
  apply Array.ext'
  apply List.ext_getElem?
  intro j
  unfold rowF updV
  simp only [List.setIfInBounds_toArray, List.getElem?_set, List.length_map, List.length_range, List.getElem?_map]
  by_cases hj : j < n
  · simp only [List.getElem?_range, hj]
    by_cases e : i = j
    · subst e; simp [hj]
    · simp [e, Ne.symm e]
  · by_cases e : i = j
    · subst e; simp [hj]
    · simp [e, hj]

theorem rowF_zeros (n : Nat) : i64s (List.replicate n 0) = rowF n (fun _ => .int .i64 0) := by
  apply Array.ext'
  unfold i64s rowF
  simp [List.map_const']

theorem rowF_no (n : Nat) : (List.replicate n (Value.bool false)).toArray = rowF n (fun _ => .bool false) := by
  apply Array.ext'
  unfold rowF
  simp [List.map_const']

/-- One more number of core c. -/
def more (m : Nat → Nat) (c : Nat) : Nat → Nat := fun d => if d = c then m c + 1 else m d

theorem more_upd (m : Nat → Nat) (c : Nat) : upd (fun d => ((m d : Nat) : Int)) c ((m c + 1 : Nat) : Int) = fun d => ((more m c d : Nat) : Int) := by
  funext d
  unfold upd more
  by_cases e : d = c
  · rw [if_pos e, if_pos e]
  · rw [if_neg e, if_neg e]

theorem more_le {m : Nat → Nat} {c : Nat} (h : ∀ d, m d ≤ 32) (hc : m c < 32) : ∀ d, more m c d ≤ 32 := by
  intro d
  unfold more
  split
  · omega
  · exact h d

/-- Counts as values. -/
def cntV (m : Nat → Nat) : Nat → Value := fun d => .int .i64 ((m d : Nat) : Int)

theorem cntV_more (m : Nat → Nat) (c : Nat) : updV (cntV m) c (.int .i64 ((m c : Int) + 1)) = cntV (more m c) := by
  funext d
  unfold updV cntV more
  by_cases e : d = c
  · rw [if_pos e, if_pos e]; rfl
  · rw [if_neg e, if_neg e]

/-- Which numbers were given, as values. -/
def seenV (m : Nat → Nat) : Nat → Value := fun j => .bool (decide (2 ≤ j ∧ (j - 2) / 8 < m ((j - 2) % 8)))

theorem seenV_zero : (fun _ => Value.bool false) = seenV (fun _ => 0) := by
  funext j
  unfold seenV
  simp

theorem make_seen (V : World) : (Instr.makeSlice 43 (.int .i64 258) (.int .i64 258)).run Try.prog V = .ok (.slice (some ⟨V.heap.size, 0, none⟩) 258 258) (V.alloc (.cells (rowF 258 (seenV fun _ => 0)) 4)) := by
  have h := make_bools 258 (by omega) V
  rw [rowF_no, seenV_zero] at h
  exact h

theorem seenV_new (m : Nat → Nat) {c : Nat} (hc : c < 8) : seenV m (2 + c + 8 * m c) = .bool false := by
  unfold seenV
  have e1 : (2 + c + 8 * m c - 2) % 8 = c := by omega
  have e2 : (2 + c + 8 * m c - 2) / 8 = m c := by omega
  rw [e1, e2]
  simp

theorem seenV_more (m : Nat → Nat) {c : Nat} (hc : c < 8) : updV (seenV m) (2 + c + 8 * m c) (.bool true) = seenV (more m c) := by
  funext j
  unfold updV
  by_cases e : j = 2 + c + 8 * m c
  · rw [if_pos e]
    unfold seenV more
    have e1 : (j - 2) % 8 = c := by omega
    have e2 : (j - 2) / 8 = m c := by omega
    rw [e1, e2, if_pos rfl]
    congr 1
    symm
    apply decide_eq_true
    omega
  · rw [if_neg e]
    unfold seenV more
    congr 1
    by_cases e1 : (j - 2) % 8 = c
    · rw [e1, if_pos rfl]
      by_cases h2 : 2 ≤ j
      · have : (j - 2) / 8 ≠ m c := by omega
        rw [decide_eq_decide]
        omega
      · rw [decide_eq_decide]
        omega
    · rw [if_neg e1]

end Go.Proofs.Ytdhmhghffmpipaa
