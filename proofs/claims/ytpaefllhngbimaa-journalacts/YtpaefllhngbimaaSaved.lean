/-
  What a crash leaves, word by word.
-/
import Derived.Test.YtpaefllhngbimaaFacts
namespace Go.Proofs.Ytpaefllhngbimaa
set_option maxRecDepth 10000

theorem kbit_zero (j : Nat) : kbit 0 j = false := by
  unfold kbit
  rw [Int.zero_ediv]
  decide

theorem saveTo_zero (ws ls : List Int) : ∀ l, (saveTo ws ls 0 l).1 = ls
  | 0 => rfl
  | l + 1 => by
    have ih := saveTo_zero ws ls l
    simp only [saveTo]
    split
    · exact ih
    · simp [kbit_zero, ih]

theorem saved_none (M : Pm) (keep : Int) (h : keep ≤ 0) : M.saved keep = M.lasts := by
  unfold Pm.saved
  rw [show max keep 0 = 0 from by omega]
  exact saveTo_zero _ _ _

theorem crash_none (M : Pm) (keep : Int) (h : keep ≤ 0) : (M.crash keep).seen = M.lasts := saved_none M keep h

/-- Is the line l seen (with the power) otherwise than it lasts? -/
def unlike (ws ls : List Int) (l : Nat) : Bool := !sameB (lineList ws l) (lineList ls l)

/-- How many lines ahead of l are. -/
def rank (ws ls : List Int) : Nat → Nat
  | 0 => 0
  | l + 1 => rank ws ls l + if unlike ws ls l then 1 else 0

theorem lineList_setLine_other {ys xs : List Int} {l k : Nat} (hx : xs.length = 8) (hl : 8 * l + 8 ≤ ys.length) (hk : 8 * k + 8 ≤ ys.length) (h : k ≠ l) : lineList (setLine ys l xs) k = lineList ys k := by
  apply ext_word
  · rw [lineList_length (by rw [setLine_length hx hl]; exact hk), lineList_length hk]
  · intro j hj
    rw [lineList_length (by rw [setLine_length hx hl]; exact hk)] at hj
    rw [wordAt_lineList hj, wordAt_lineList hj, wordAt_setLine hx hl, if_neg (by omega)]

/-- The lines from l on are as they were. -/
theorem saveTo_later {ws ls : List Int} {n : Nat} (hw : ws.length = n) (hl : ls.length = n) (keep : Int) : ∀ l, 8 * l ≤ n → ∀ k, l ≤ k → 8 * k + 8 ≤ n → lineList (saveTo ws ls keep l).1 k = lineList ls k
  | 0, _, _, _, _ => rfl
  | l + 1, h, k, hk, hk8 => by
    have ih := saveTo_later hw hl keep l (by omega) k (by omega) hk8
    have hlen := saveTo_length hw hl keep l (by omega)
    simp only [saveTo]
    split
    · exact ih
    · simp only []
      split
      · rw [lineList_setLine_other (lineList_length (by omega)) (by omega) (by omega) (by omega)]; exact ih
      · exact ih

theorem saveTo_rank {ws ls : List Int} {n : Nat} (hw : ws.length = n) (hl : ls.length = n) (keep : Int) : ∀ l, 8 * l ≤ n → (saveTo ws ls keep l).2 = rank ws ls l
  | 0, _ => rfl
  | l + 1, h => by
    have ih := saveTo_rank hw hl keep l (by omega)
    have hlt := saveTo_later hw hl keep l (by omega) l (Nat.le_refl _) (by omega)
    simp only [saveTo, rank, unlike, hlt]
    by_cases hs : sameB (lineList ws l) (lineList ls l) = true <;> simp [hs, ih]

theorem saveTo_word {ws ls : List Int} {n : Nat} (hw : ws.length = n) (hl : ls.length = n) (keep : Int) : ∀ l, 8 * l ≤ n → ∀ i, i < n →
    wordAt (saveTo ws ls keep l).1 i = if i / 8 < l ∧ unlike ws ls (i / 8) = true ∧ kbit keep (rank ws ls (i / 8) % 60) = true then wordAt ws i else wordAt ls i
  | 0, _, i, _ => by rw [if_neg (by omega)]; rfl
  | l + 1, h, i, hi => by
    have ih := saveTo_word hw hl keep l (by omega) i hi
    have hlen := saveTo_length hw hl keep l (by omega)
    have hrk := saveTo_rank hw hl keep l (by omega)
    have hlt := saveTo_later hw hl keep l (by omega) l (Nat.le_refl _) (by omega)
    simp only [saveTo, hlt]
    cases hs : sameB (lineList ws l) (lineList ls l) with
    | true =>
      simp only [if_true, ih]
      by_cases e : i / 8 = l
      · rw [if_neg (by omega), if_neg (by rw [e]; simp [unlike, hs])]
      · congr 1
        exact propext ⟨fun h2 => ⟨by omega, h2.2⟩, fun h2 => ⟨by omega, h2.2⟩⟩
    | false =>
      simp only [Bool.false_eq_true, if_false]
      cases hb : kbit keep ((saveTo ws ls keep l).2 % 60) with
      | true =>
        simp only [if_true]
        rw [wordAt_setLine (lineList_length (by omega)) (by omega)]
        by_cases e : i / 8 = l
        · rw [if_pos e, if_pos ⟨by omega, by rw [e]; simp [unlike, hs], by rw [e, ← hrk]; exact hb⟩, wordAt_lineList (by omega)]
          congr 1
          omega
        · rw [if_neg e, ih]
          congr 1
          exact propext ⟨fun h2 => ⟨by omega, h2.2⟩, fun h2 => ⟨by omega, h2.2⟩⟩
      | false =>
        simp only [Bool.false_eq_true, if_false, ih]
        by_cases e : i / 8 = l
        · rw [if_neg (by omega), if_neg (by rw [e, ← hrk, hb]; simp)]
        · congr 1
          exact propext ⟨fun h2 => ⟨by omega, h2.2⟩, fun h2 => ⟨by omega, h2.2⟩⟩

/-- Word i of what lasts behind a crash. -/
theorem crash_word {M : Pm} (h : M.Ok) (hp : M.withPower.length = M.seen.length) (keep : Int) (i : Nat) (hi : i < M.seen.length) :
    wordAt (M.crash keep).seen i = if unlike M.withPower M.lasts (i / 8) = true ∧ kbit (max keep 0) (rank M.withPower M.lasts (i / 8) % 60) = true then wordAt M.withPower i else wordAt M.lasts i := by
  show wordAt (saveTo M.withPower M.lasts (max keep 0) (M.seen.length / 8)).1 i = _
  have h8 := h.mul
  rw [saveTo_word hp h.len _ _ (by omega) i hi]
  congr 1
  exact propext ⟨fun h2 => h2.2, fun h2 => ⟨by omega, h2⟩⟩

theorem saved_length {M : Pm} (h : M.Ok) (hp : M.withPower.length = M.seen.length) (keep : Int) : (M.crash keep).seen.length = M.seen.length := by
  have h8 := h.mul
  exact saveTo_length hp h.len _ _ (by omega)

theorem fence_lasts (M : Pm) (h : M.power = true) : M.fence.lasts = M.arrived := by
  unfold Pm.fence; rw [burn_lasts]; simp [h, Pm.fenceIf, Pm.fenced]; rfl

end Go.Proofs.Ytpaefllhngbimaa
