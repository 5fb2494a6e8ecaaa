/-
  Lines of words, as lists; what arrives.
-/
import Derived.Test.YtpaefllhngbimaaFlush
import Derived.Laws.CopyRow
namespace Go.Proofs.Ytpaefllhngbimaa
set_option maxRecDepth 10000
open Go.RowKit

/-- A line written over. -/
def setLine (ys : List Int) (l : Nat) (xs : List Int) : List Int := ys.take (8 * l) ++ (xs ++ ys.drop (8 * l + 8))

theorem setLine_length {ys : List Int} {l : Nat} {xs : List Int} (hx : xs.length = 8) (hl : 8 * l + 8 ≤ ys.length) : (setLine ys l xs).length = ys.length := by
  simp [setLine, hx]; omega

theorem wordAt_setLine {ys : List Int} {l : Nat} {xs : List Int} (hx : xs.length = 8) (hl : 8 * l + 8 ≤ ys.length) (i : Nat) :
    wordAt (setLine ys l xs) i = if i / 8 = l then wordAt xs (i % 8) else wordAt ys i := by
  unfold wordAt setLine
  simp only [List.getD_eq_getElem?_getD, List.getElem?_append, List.length_take, List.getElem?_take, List.getElem?_drop, hx]
  by_cases h1 : i < 8 * l
  · rw [if_pos (by omega), if_pos h1, if_neg (by omega)]
  · rw [if_neg (by omega)]
    by_cases h2 : i / 8 = l
    · rw [if_pos (by omega), if_pos h2]
      congr 2
      omega
    · rw [if_neg (by omega), if_neg h2]
      congr 2
      omega

theorem ext_word {xs ys : List Int} (hl : xs.length = ys.length) (h : ∀ i, i < xs.length → wordAt xs i = wordAt ys i) : xs = ys := by
  apply List.ext_getElem hl
  intro i h1 h2
  have := h i h1
  simpa [wordAt, List.getD, h1, h2] using this

theorem wordAt_map (n : Nat) (f : Nat → Int) {i : Nat} (hi : i < n) : wordAt ((List.range n).map f) i = f i := by
  simp [wordAt, List.getD, hi]

theorem wordAt_lineList {xs : List Int} {l j : Nat} (hj : j < 8) : wordAt (lineList xs l) j = wordAt xs (8 * l + j) := by
  simp [wordAt, lineList, hj]

/-- The word i of what lasts, once its line has arrived. -/
def Pm.arrWord (M : Pm) (i : Nat) : Int := match wget M.way (i / 8) with
  | none => wordAt M.lasts i
  | some none => wordAt M.seen i
  | some (some ws) => wordAt ws (i % 8)

/-- What lasts, once the lines of D have arrived. -/
def Pm.arriveBy (M : Pm) (D : Nat → Bool) : List Int := (List.range M.seen.length).map fun i => if D (i / 8) then M.arrWord i else wordAt M.lasts i

/-- What lasts behind a fence. -/
def Pm.arrived (M : Pm) : List Int := (List.range M.seen.length).map fun i => M.arrWord i

theorem arriveBy_length (M : Pm) (D : Nat → Bool) : (M.arriveBy D).length = M.seen.length := by simp [Pm.arriveBy]

theorem arriveBy_none (M : Pm) (hl : M.lasts.length = M.seen.length) : M.arriveBy (fun _ => false) = M.lasts := by
  apply ext_word
  · rw [arriveBy_length, hl]
  · intro i hi
    rw [arriveBy_length] at hi
    rw [Pm.arriveBy, wordAt_map _ _ hi]
    simp

theorem arriveBy_all (M : Pm) (D : Nat → Bool) (h : ∀ l, wget M.way l ≠ none → D l = true) : M.arriveBy D = M.arrived := by
  unfold Pm.arriveBy Pm.arrived
  apply List.map_congr_left
  intro i _
  by_cases hd : D (i / 8) = true
  · simp [hd]
  · have : wget M.way (i / 8) = none := by
      cases hw : wget M.way (i / 8) with
      | none => rfl
      | some x => exact absurd (h (i / 8) (by rw [hw]; simp)) hd
    simp [hd, Pm.arrWord, this]

/-- What comes of one line more. -/
theorem arriveBy_more (M : Pm) (D : Nat → Bool) (l : Nat) (xs : List Int) (hx : xs.length = 8) (hl : 8 * l + 8 ≤ M.seen.length) (h : ∀ j, j < 8 → wordAt xs j = M.arrWord (8 * l + j)) :
    setLine (M.arriveBy D) l xs = M.arriveBy (fun k => D k || decide (k = l)) := by
  have h8 : 8 * l + 8 ≤ (M.arriveBy D).length := by rw [arriveBy_length]; exact hl
  apply ext_word
  · rw [setLine_length hx h8, arriveBy_length, arriveBy_length]
  · intro i hi
    rw [setLine_length hx h8, arriveBy_length] at hi
    rw [wordAt_setLine hx h8, Pm.arriveBy, Pm.arriveBy, wordAt_map _ _ hi, wordAt_map _ _ hi]
    by_cases hil : i / 8 = l
    · rw [if_pos hil, h (i % 8) (by omega), show 8 * l + i % 8 = i from by omega]
      simp [hil]
    · rw [if_neg hil]
      simp [hil]

theorem size44 : (Try.prog.info? 29).map (·.size) = some 1 := by kernel_rfl

/-- 'copy' of a line's words into a row. -/
theorem run_copy_line {W : World} {g : Nat} {ys : List Int} {zs : List Value} (hg : W.heap[g]? = some (.cells (row ys zs) 29 (0, 0))) (l : Nat) (hl : 8 * l + 8 ≤ ys.length) (xs : List Int) (hx : xs.length = 8)
    (b o c1 c2 : Nat) (ty : TypeId) (hsrc : ∀ j, j < 8 → W.cell? ⟨b, o + j, none⟩ = some (.int .u64 (wordAt xs j))) :
    (Builtin.copy_ #[52, 52] ty #[.slice (some ⟨g, 8 * l, none⟩) 8 c1, .slice (some ⟨b, o, none⟩) 8 c2]).run Try.prog W = .ok (.int .i64 8) (W.setRow g (row (setLine ys l xs) zs)) := by
  have h := run_copy_row Try.prog W 52 52 ty 29 g (8 * l) 8 c1 ⟨b, o, none⟩ 8 c2 (row ys zs) 29 (xs.map (Value.int .u64)) Try.underlying52 size44 hg (by simp [hx]) (by
    intro j v hv
    have hj : j < 8 := by
      rcases Nat.lt_or_ge j 8 with h1 | h1
      · exact h1
      · rw [List.getElem?_eq_none (by simp [hx]; exact h1)] at hv; cases hv
    have : (⟨b, o, none⟩ : Addr).add j = ⟨b, o + j, none⟩ := by unfold Addr.add; split <;> simp_all
    rw [this, hsrc j hj, ← hv]
    simp [wordAt, List.getD, hx, hj]) (by simp [size_row, hx]; omega) (row_oneCell xs)
  rw [h]
  have e1 : goInt (xs.map (Value.int .u64)).length = .int .i64 8 := by simp [hx]; rfl
  have e2 : ((row ys zs).toList.take (8 * l) ++ xs.map (Value.int .u64) ++ (row ys zs).toList.drop (8 * l + (xs.map (Value.int .u64)).length)).toArray = row (setLine ys l xs) zs := by
    unfold row setLine
    congr 1
    simp only [List.map_append, List.map_take, List.map_drop, List.length_map, hx, List.append_assoc]
    rw [List.take_append_of_le_length (by simp; omega), List.drop_append_of_le_length (by simp; omega)]
  rw [e1, e2]

end Go.Proofs.Ytpaefllhngbimaa
