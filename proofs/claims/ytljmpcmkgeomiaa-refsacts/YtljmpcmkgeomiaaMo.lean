/-
  Counts plainly (parts, global parts, who has flushed, what an epoch added to, what was 0 at the last end, what is dead), and that the words of package refs follow them.
-/
import Derived.Test.YtljmpcmkgeomiaaRt
namespace Go.Proofs.Ytljmpcmkgeomiaa
open Go.RowKit
set_option linter.unusedVariables false

/-- Counts, plainly. -/
structure Mo where
  parts : Nat → Nat → Int
  glob : Nat → Int
  flu : Nat → Bool
  added : Nat → Bool
  zero : Nat → Bool
  ever : Nat → Bool
  dead : Nat → Bool
  epoch : Nat

/-- None counted. -/
def Mo.none : Mo := ⟨fun _ _ => 0, fun _ => 0, fun _ => false, fun _ => false, fun _ => false, fun _ => false, fun _ => false, 0⟩

/-- Core c counts object o. -/
def Mo.count (m : Mo) (c o : Nat) (v : Int) : Mo :=
  { m with parts := fun c' o' => if c' = c ∧ o' = o then wrap64 (m.parts c o + v) else m.parts c' o', ever := fun o' => if o' = o then true else m.ever o' }

/-- Core c's parts of the objects below j are flushed. -/
def Mo.gather (m : Mo) (c j : Nat) : Mo :=
  { m with
    parts := fun c' o => if c' = c ∧ o < j then 0 else m.parts c' o
    glob := fun o => if o < j ∧ m.parts c o ≠ 0 then wrap64 (m.glob o + m.parts c o) else m.glob o
    added := fun o => if o < j ∧ m.parts c o ≠ 0 then true else m.added o }

/-- Core c has flushed. -/
def Mo.flushed (m : Mo) (c n : Nat) : Mo := { m.gather c n with flu := fun c' => if c' = c then true else m.flu c' }

/-- An epoch's end, the objects below j looked at. -/
def Mo.look (m : Mo) (j : Nat) : Mo :=
  { m with
    dead := fun o => if o < j ∧ (m.zero o && (!m.added o && (m.glob o == 0 && m.ever o))) = true then true else m.dead o
    zero := fun o => if o < j then m.glob o == 0 else m.zero o
    added := fun o => if o < j then false else m.added o }

/-- .. whole. -/
def Mo.ended (m : Mo) (n k : Nat) : Mo := { m.look n with epoch := m.epoch + 1, flu := fun c => if c < k then false else m.flu c }

/-- Have all flushed? -/
def Mo.all (m : Mo) (k : Nat) : Prop := ∀ c, c < k → m.flu c = true

instance (m : Mo) (k : Nat) : Decidable (m.all k) := inferInstanceAs (Decidable (∀ c, c < k → m.flu c = true))

/-- A flush. -/
def Mo.flush (m : Mo) (n k c : Nat) : Mo := if (m.flushed c n).all k then (m.flushed c n).ended n k else m.flushed c n

/-- The words follow the counts. -/
structure Rel (k n : Nat) (W : Nat → Nat → Int) (m : Mo) : Prop where
  parts : ∀ c o, c < k → o < n → W c o = m.parts c o
  glob : ∀ o, o < n → W k o = m.glob o
  epoch : W k n = (m.epoch : Int)
  yes : ∀ c, c < k → m.flu c = true → W c (n + 1) = (m.epoch : Int) + 1
  no : ∀ c, c < k → m.flu c = false → W c (n + 1) ≤ (m.epoch : Int)
  ever : ∀ o, o < n → (m.ever o = true ↔ ∃ c, c < k ∧ bit (W c n) o = true)
  state : ∀ o, o < n → W (k + 1) o = if m.dead o = true then 2 else if m.zero o = true ∧ m.added o = false then 1 else 0

theorem Rel.none (k n : Nat) : Rel k n (fun _ _ => 0) Mo.none where
  parts := fun _ _ _ _ => rfl
  glob := fun _ _ => rfl
  epoch := rfl
  yes := fun c _ h => by simp [Mo.none] at h
  no := fun _ _ _ => by simp [Mo.none]
  ever := fun o _ => by simp [Mo.none, bit_zero]
  state := fun o _ => by simp [Mo.none]

theorem Rel.count {k n : Nat} {W : Nat → Nat → Int} {m : Mo} (h : Rel k n W m) (hn : n ≤ 64) (c o : Nat) (v : Int) (hc : c < k) (ho : o < n) : Rel k n (counted n W c o v) (m.count c o v) where
  parts := fun c' o' hc' ho' => by
    unfold counted Mo.count
    rw [upd_col _ _ (show o' ≠ n by omega)]
    unfold upd
    show (if c' = c ∧ o' = o then wrap64 (W c o + v) else W c' o') = if c' = c ∧ o' = o then wrap64 (m.parts c o + v) else m.parts c' o'
    rw [h.parts c o hc ho, h.parts c' o' hc' ho']
  glob := fun o' ho' => by
    unfold counted
    rw [upd_row _ _ (show k ≠ c by omega), upd_row _ _ (show k ≠ c by omega)]
    exact h.glob o' ho'
  epoch := by
    unfold counted
    rw [upd_row _ _ (show k ≠ c by omega), upd_row _ _ (show k ≠ c by omega)]
    exact h.epoch
  yes := fun c' hc' hf => by
    unfold counted
    rw [upd_col _ _ (show n + 1 ≠ n by omega), upd_col _ _ (show n + 1 ≠ o by omega)]
    exact h.yes c' hc' hf
  no := fun c' hc' hf => by
    unfold counted
    rw [upd_col _ _ (show n + 1 ≠ n by omega), upd_col _ _ (show n + 1 ≠ o by omega)]
    exact h.no c' hc' hf
  ever := fun o' ho' => by
    have key : ∀ c', c' < k → (bit (counted n W c o v c' n) o' = true ↔ bit (W c' n) o' = true ∨ (c' = c ∧ o' = o)) := fun c' hc' => by
      unfold counted
      by_cases e : c' = c
      · subst e
        rw [upd_same, bit_mark _ _ _ (by omega)]
        simp
      · rw [upd_row _ _ e, upd_row _ _ e]
        simp [e]
    show (if o' = o then true else m.ever o') = true ↔ _
    by_cases e : o' = o
    · rw [if_pos e]
      exact ⟨fun _ => ⟨c, hc, (key c hc).2 (Or.inr ⟨rfl, e⟩)⟩, fun _ => rfl⟩
    · rw [if_neg e]
      rw [h.ever o' ho']
      constructor
      · rintro ⟨c', h1, h2⟩; exact ⟨c', h1, (key c' h1).2 (Or.inl h2)⟩
      · rintro ⟨c', h1, h2⟩
        rcases (key c' h1).1 h2 with h3 | h3
        · exact ⟨c', h1, h3⟩
        · exact absurd h3.2 e
  state := fun o' ho' => by
    unfold counted
    rw [upd_row _ _ (show k + 1 ≠ c by omega), upd_row _ _ (show k + 1 ≠ c by omega)]
    exact h.state o' ho'

/-- What a flush of core c makes of a word of an object with a part. -/
def fcell (k : Nat) (W : Nat → Nat → Int) (c r i : Nat) : Int := if r = c then 0 else if r = k then wrap64 (W k i + W c i) else if r = k + 1 then (if W (k + 1) i = 1 then 0 else W (k + 1) i) else W r i

theorem fpart_at (k : Nat) (V : Nat → Nat → Int) (c : Nat) (hc : c < k) (j r i : Nat) : fpart k V c j r i = if i = j ∧ V c j ≠ 0 then fcell k V c r i else V r i := by
  unfold fpart fcell
  by_cases hz : V c j = 0
  · simp [hz]
  · by_cases hi : i = j
    · subst hi
      by_cases hs : V (k + 1) i = 1
      · by_cases r1 : r = c
        · subst r1; simp [hz, hs, upd]
        · by_cases r2 : r = k
          · subst r2; simp [hz, hs, upd, r1]
          · by_cases r3 : r = k + 1
            · subst r3; simp [hz, hs, upd, r1]
            · simp [hz, hs, upd, r1, r2, r3]
      · by_cases r1 : r = c
        · subst r1; simp [hz, hs, upd]
        · by_cases r2 : r = k
          · subst r2; simp [hz, hs, upd, r1]
          · by_cases r3 : r = k + 1
            · subst r3; simp [hz, hs, upd, r1]
            · simp [hz, hs, upd, r1, r2, r3]
    · by_cases hs : V (k + 1) j = 1 <;> simp [hz, hs, upd, hi]

theorem fparts_at (k : Nat) (W : Nat → Nat → Int) (c : Nat) (hc : c < k) (j : Nat) : ∀ r i, fparts k W c j r i = if i < j ∧ W c i ≠ 0 then fcell k W c r i else W r i := by
  induction j with
  | zero => intro r i; rw [if_neg (by omega)]; rfl
  | succ j ih =>
    intro r i
    have hj : ∀ r, fparts k W c j r j = W r j := fun r => by rw [ih r j, if_neg (by omega)]
    show fpart k (fparts k W c j) c j r i = _
    rw [fpart_at k _ c hc, hj c]
    by_cases e : i = j
    · subst e
      have hf : fcell k (fparts k W c i) c r i = fcell k W c r i := by unfold fcell; rw [hj k, hj c, hj (k + 1), hj r]
      rw [hf, hj r]
      by_cases hz : W c i = 0
      · rw [if_neg (fun q => q.2 hz), if_neg (fun q => q.2 hz)]
      · rw [if_pos (And.intro rfl hz), if_pos (And.intro (Nat.lt_succ_self i) hz)]
    · rw [if_neg (fun q => e q.1), ih r i]
      by_cases hq : i < j ∧ W c i ≠ 0
      · rw [if_pos hq, if_pos (And.intro (show i < j + 1 by omega) hq.2)]
      · rw [if_neg hq, if_neg (fun q => hq ⟨by omega, q.2⟩)]

theorem ends_at (k : Nat) (W : Nat → Nat → Int) (cnt : Int) (j : Nat) : ∀ r i, ends k W cnt j r i = if r = k + 1 ∧ i < j then stEnd (W k i) (W (k + 1) i) (bit cnt i) else W r i := by
  induction j with
  | zero => intro r i; rw [if_neg (by omega)]; rfl
  | succ j ih =>
    intro r i
    show upd (ends k W cnt j) (k + 1) j (stEnd (ends k W cnt j k j) (ends k W cnt j (k + 1) j) (bit cnt j)) r i = _
    rw [ih k j, ih (k + 1) j, if_neg (by omega), if_neg (by omega)]
    unfold upd
    by_cases e : r = k + 1 ∧ i = j
    · obtain ⟨rfl, rfl⟩ := e
      rw [if_pos ⟨rfl, rfl⟩, if_pos ⟨rfl, by omega⟩]
    · rw [if_neg e, ih r i]
      by_cases q : r = k + 1 ∧ i < j
      · rw [if_pos q, if_pos ⟨q.1, by omega⟩]
      · rw [if_neg q, if_neg (by omega)]

theorem ors_at (n : Nat) (W : Nat → Nat → Int) (m o : Nat) : bit (ors n W m) o = true ↔ ∃ c, c < m ∧ bit (W c n) o = true := by
  induction m with
  | zero => simp [ors, bit_zero]
  | succ m ih =>
    unfold ors
    rw [bit_or, Bool.or_eq_true, ih]
    constructor
    · rintro (⟨c, h1, h2⟩ | h)
      · exact ⟨c, by omega, h2⟩
      · exact ⟨m, by omega, h⟩
    · rintro ⟨c, h1, h2⟩
      rcases Nat.lt_succ_iff_lt_or_eq.1 h1 with h3 | h3
      · exact Or.inl ⟨c, h3, h2⟩
      · exact Or.inr (h3 ▸ h2)

theorem Rel.flushed {k n : Nat} {W : Nat → Nat → Int} {m : Mo} (h : Rel k n W m) (he : m.epoch < 100000) (c : Nat) (hc : c < k) : Rel k n (Go.Proofs.Ytljmpcmkgeomiaa.flushed k n W c) (m.flushed c n) := by
  have hE : fparts k W c n k n = (m.epoch : Int) := by rw [fparts_at k W c hc, if_neg (by omega)]; exact h.epoch
  have hw : wrap64 ((m.epoch : Int) + 1) = (m.epoch : Int) + 1 := wrap_small _ (by omega) (by omega)
  have hW : ∀ r i, (r ≠ c ∨ i ≠ n + 1) → Go.Proofs.Ytljmpcmkgeomiaa.flushed k n W c r i = fparts k W c n r i := fun r i e => by
    unfold Go.Proofs.Ytljmpcmkgeomiaa.flushed upd
    rw [if_neg (by omega)]
  have hL : Go.Proofs.Ytljmpcmkgeomiaa.flushed k n W c c (n + 1) = (m.epoch : Int) + 1 := by
    unfold Go.Proofs.Ytljmpcmkgeomiaa.flushed
    rw [upd_same, hE, hw]
  refine ⟨fun c' o hc' ho => ?_, fun o ho => ?_, ?_, fun c' hc' hf => ?_, fun c' hc' hf => ?_, fun o ho => ?_, fun o ho => ?_⟩
  · rw [hW _ _ (by omega), fparts_at k W c hc]
    show _ = if c' = c ∧ o < n then 0 else m.parts c' o
    by_cases e : c' = c
    · subst e
      rw [if_pos (show c' = c' ∧ o < n from ⟨rfl, ho⟩)]
      have hf : fcell k W c' c' o = 0 := if_pos rfl
      rw [hf]
      by_cases z : W c' o = 0
      · rw [z, ite_self]
      · exact if_pos (And.intro ho z)
    · have hf : fcell k W c c' o = W c' o := by unfold fcell; rw [if_neg e, if_neg (show ¬ c' = k by omega), if_neg (show ¬ c' = k + 1 by omega)]
      rw [if_neg (show ¬ (c' = c ∧ o < n) from fun q => e q.1), hf, ite_self]
      exact h.parts c' o hc' ho
  · rw [hW _ _ (by omega), fparts_at k W c hc]
    show _ = if o < n ∧ m.parts c o ≠ 0 then wrap64 (m.glob o + m.parts c o) else m.glob o
    have hf : fcell k W c k o = wrap64 (W k o + W c o) := by unfold fcell; rw [if_neg (show ¬ k = c by omega), if_pos rfl]
    rw [hf, h.parts c o hc ho, h.glob o ho]
  · rw [hW _ _ (by omega), hE]; rfl
  · by_cases e : c' = c
    · subst e; rw [hL]; rfl
    · rw [hW _ _ (by omega), fparts_at k W c hc, if_neg (by omega)]
      refine h.yes c' hc' ?_
      have : (if c' = c then true else m.flu c') = true := hf
      rwa [if_neg e] at this
  · have hf2 : (if c' = c then true else m.flu c') = false := hf
    by_cases e : c' = c
    · rw [if_pos e] at hf2; cases hf2
    · rw [if_neg e] at hf2
      rw [hW _ _ (by omega), fparts_at k W c hc, if_neg (by omega)]
      exact h.no c' hc' hf2
  · show m.ever o = true ↔ _
    rw [h.ever o ho]
    constructor
    · rintro ⟨c', h1, h2⟩
      exact ⟨c', h1, by rw [hW _ _ (by omega), fparts_at k W c hc, if_neg (by omega)]; exact h2⟩
    · rintro ⟨c', h1, h2⟩
      rw [hW _ _ (by omega), fparts_at k W c hc, if_neg (by omega)] at h2
      exact ⟨c', h1, h2⟩
  · have hf : fcell k W c (k + 1) o = if W (k + 1) o = 1 then 0 else W (k + 1) o := by unfold fcell; rw [if_neg (show ¬ k + 1 = c by omega), if_neg (show ¬ k + 1 = k by omega), if_pos rfl]
    rw [hW _ _ (by omega), fparts_at k W c hc, hf, h.state o ho, h.parts c o hc ho]
    show _ = if m.dead o = true then 2 else if m.zero o = true ∧ (if o < n ∧ m.parts c o ≠ 0 then true else m.added o) = false then 1 else 0
    by_cases hd : m.dead o = true
    · simp [hd]
    · by_cases hz : o < n ∧ m.parts c o ≠ 0
      · rw [if_pos hz, if_pos hz]
        by_cases h1 : m.zero o = true ∧ m.added o = false <;> simp [hd, h1]
      · rw [if_neg hz, if_neg hz]

theorem Rel.ended {k n : Nat} {W : Nat → Nat → Int} {m : Mo} (h : Rel k n W m) (he : m.epoch < 100000) : Rel k n (Go.Proofs.Ytljmpcmkgeomiaa.ended k n W) (m.ended n k) := by
  have hE : ends k W (ors n W k) n k n = (m.epoch : Int) := by rw [ends_at, if_neg (by omega)]; exact h.epoch
  have hw : wrap64 ((m.epoch : Int) + 1) = (m.epoch : Int) + 1 := wrap_small _ (by omega) (by omega)
  have hW : ∀ r i, (r ≠ k ∨ i ≠ n) → Go.Proofs.Ytljmpcmkgeomiaa.ended k n W r i = ends k W (ors n W k) n r i := fun r i e => by
    unfold Go.Proofs.Ytljmpcmkgeomiaa.ended upd
    rw [if_neg (by omega)]
  refine ⟨fun c' o hc' ho => ?_, fun o ho => ?_, ?_, fun c' hc' hf => ?_, fun c' hc' hf => ?_, fun o ho => ?_, fun o ho => ?_⟩
  · rw [hW _ _ (by omega), ends_at, if_neg (by omega)]; exact h.parts c' o hc' ho
  · rw [hW _ _ (by omega), ends_at, if_neg (by omega)]; exact h.glob o ho
  · unfold Go.Proofs.Ytljmpcmkgeomiaa.ended
    rw [upd_same, hE, hw]
    show (m.epoch : Int) + 1 = ((m.epoch + 1 : Nat) : Int)
    omega
  · have : (if c' < k then false else m.flu c') = true := hf
    rw [if_pos hc'] at this
    cases this
  · rw [hW _ _ (by omega), ends_at, if_neg (by omega)]
    show _ ≤ ((m.epoch + 1 : Nat) : Int)
    by_cases hf2 : m.flu c' = true
    · rw [h.yes c' hc' hf2]; omega
    · have := h.no c' hc' (by simpa using hf2); omega
  · show m.ever o = true ↔ _
    rw [h.ever o ho]
    constructor
    · rintro ⟨c', h1, h2⟩
      exact ⟨c', h1, by rw [hW _ _ (by omega), ends_at, if_neg (by omega)]; exact h2⟩
    · rintro ⟨c', h1, h2⟩
      rw [hW _ _ (by omega), ends_at, if_neg (by omega)] at h2
      exact ⟨c', h1, h2⟩
  · have hb : bit (ors n W k) o = m.ever o := by
      have h1 := ors_at n W k o
      rw [← h.ever o ho] at h1
      cases h2 : bit (ors n W k) o <;> cases h3 : m.ever o <;> simp_all
    rw [hW _ _ (by omega), ends_at, if_pos ⟨rfl, ho⟩, hb, h.glob o ho, h.state o ho]
    show _ = if (if o < n ∧ (m.zero o && (!m.added o && (m.glob o == 0 && m.ever o))) = true then true else m.dead o) = true then 2 else if (if o < n then m.glob o == 0 else m.zero o) = true ∧ (if o < n then false else m.added o) = false then 1 else 0
    unfold stEnd
    simp only [ho, true_and, if_true]
    by_cases hd : m.dead o = true
    · simp [hd]
    · by_cases hg : m.glob o = 0
      · cases hz : m.zero o <;> cases ha : m.added o <;> cases hv : m.ever o <;> simp_all
      · cases hz : m.zero o <;> cases ha : m.added o <;> cases hv : m.ever o <;> simp_all

theorem Rel.flush {k n : Nat} {W W' : Nat → Nat → Int} {m : Mo} (h : Rel k n W m) (he : m.epoch < 100000) (c : Nat) (hc : c < k) (hF : Fl k n W c W') : Rel k n W' (m.flush n k c) := by
  have h1 := h.flushed he c hc
  have he2 : (m.flushed c n).epoch = m.epoch := rfl
  have hw : wrap64 (Go.Proofs.Ytljmpcmkgeomiaa.flushed k n W c k n + 1) = (m.epoch : Int) + 1 := by
    rw [h1.epoch, he2]; exact wrap_small _ (by omega) (by omega)
  have hall : allAt n (Go.Proofs.Ytljmpcmkgeomiaa.flushed k n W c) (wrap64 (Go.Proofs.Ytljmpcmkgeomiaa.flushed k n W c k n + 1)) k ↔ (m.flushed c n).all k := by
    rw [hw]
    constructor
    · intro ha c' hc'
      cases hf : (m.flushed c n).flu c'
      · have h2 := h1.no c' hc' hf
        rw [ha c' hc', he2] at h2
        omega
      · rfl
    · intro ha c' hc'
      rw [h1.yes c' hc' (ha c' hc'), he2]
  unfold Mo.flush
  rcases hF with ⟨h2, rfl⟩ | ⟨h2, rfl⟩
  · rw [if_pos (hall.1 h2)]
    exact h1.ended (by rw [he2]; exact he)
  · rw [if_neg (fun h3 => h2 (hall.2 h3))]
    exact h1

end Go.Proofs.Ytljmpcmkgeomiaa
