/-
  Texts cut at their strokes, and put together of names: what a path is, and what Parse, Print and Below answer.
-/
import Derived.Test.YtgfdcnjnkljahaaDoorRh
namespace Go.Proofs.YtgfdcnjnkljahaaDoor
open Go
set_option linter.unusedVariables false

/-- What stands between the strokes of s: the first piece begins at f, and its bytes ahead of i are none. -/
def segs (s : ByteArray) (f i : Nat) : List ByteArray :=
  if h : i < s.size then (if at8 s i = 47 then s.extract f i :: segs s (i + 1) (i + 1) else segs s f (i + 1)) else [s.extract f s.size]
termination_by s.size - i

theorem segs_end {s : ByteArray} {f i : Nat} (h : ¬ i < s.size) : segs s f i = [s.extract f s.size] := by rw [segs, dif_neg h]
theorem segs_stroke {s : ByteArray} {f i : Nat} (h : i < s.size) (e : at8 s i = 47) : segs s f i = s.extract f i :: segs s (i + 1) (i + 1) := by rw [segs, dif_pos h, if_pos e]
theorem segs_on {s : ByteArray} {f i : Nat} (h : i < s.size) (e : at8 s i ≠ 47) : segs s f i = segs s f (i + 1) := by rw [segs, dif_pos h, if_neg e]

theorem segs_run {s : ByteArray} {f i : Nat} (k : Nat) (h : i + k ≤ s.size) (e : ∀ j, j < k → at8 s (i + j) ≠ 47) : segs s f i = segs s f (i + k) := by
  induction k with
  | zero => rfl
  | succ k ih =>
    rw [ih (by omega) fun j hj => e j (by omega), segs_on (by omega) (e k (by omega))]
    rfl

theorem goes_no {s : ByteArray} {k : Nat} (h : 0 ≤ goes s k) : at8 s k ≠ 47 := by
  unfold goes at h
  split at h
  · omega
  · omega

/-- No byte of a rune is a stroke, but the stroke's. -/
theorem one_no {s : ByteArray} {i : Nat} (h : (one s i).1 ≠ 47) : ∀ j, j < max (one s i).2 1 → at8 s (i + j) ≠ 47 := by
  have g1 := @goes_no s (i + 1)
  have g2 := @goes_no s (i + 2)
  have g3 := @goes_no s (i + 3)
  have key : at8 s i ≠ 47 ∧ (2 ≤ (one s i).2 → 0 ≤ goes s (i + 1)) ∧ (3 ≤ (one s i).2 → 0 ≤ goes s (i + 2)) ∧ (4 ≤ (one s i).2 → 0 ≤ goes s (i + 3)) ∧ (one s i).2 ≤ 4 := by
    revert h
    unfold one
    simp only []
    generalize at8 s i = c at *
    generalize goes s (i + 1) = a at *
    generalize goes s (i + 2) = b at *
    generalize goes s (i + 3) = d at *
    intro h
    split at h
    · rename_i q1; rw [if_pos q1]; simp only [] at h ⊢; omega
    rename_i q1
    rw [if_neg q1]
    split at h
    · rename_i q2; rw [if_pos q2]; simp only [] at h ⊢; omega
    rename_i q2
    rw [if_neg q2]
    split at h
    · rename_i q3
      rw [if_pos q3]
      split at h
      · rename_i q4; rw [if_pos q4]; simp only [] at h ⊢; omega
      · rename_i q4; rw [if_neg q4]; simp only [] at h ⊢; omega
    rename_i q3
    rw [if_neg q3]
    split at h
    · rename_i q3
      rw [if_pos q3]
      split at h
      · rename_i q4; rw [if_pos q4]; simp only [] at h ⊢; omega
      · rename_i q4; rw [if_neg q4]; simp only [] at h ⊢; omega
    · rename_i q5; rw [if_neg q5]; simp only [] at h ⊢; omega
  intro j hj
  obtain ⟨k0, k1, k2, k3, k4⟩ := key
  have hj4 : j = 0 ∨ j = 1 ∨ j = 2 ∨ j = 3 := by omega
  rcases hj4 with rfl | rfl | rfl | rfl
  · exact k0
  · exact g1 (k1 (by omega))
  · exact g2 (k2 (by omega))
  · exact g3 (k3 (by omega))

theorem one_stroke {s : ByteArray} {i : Nat} (h : (one s i).1 = 47) : at8 s i = 47 ∧ (one s i).2 = 1 := by
  have g : ∀ k, -1 ≤ goes s k ∧ goes s k ≤ 63 := fun k => by
    unfold goes
    split
    · omega
    · omega
  have g1 := g (i + 1)
  have g2 := g (i + 2)
  have g3 := g (i + 3)
  revert h
  unfold one
  simp only []
  generalize at8 s i = c at *
  generalize goes s (i + 1) = a at *
  generalize goes s (i + 2) = b at *
  generalize goes s (i + 3) = d at *
  intro h
  split at h
  · rename_i q1; rw [if_pos q1]; exact ⟨by have : (c : Int) = 47 := h; omega, rfl⟩
  rename_i q1
  split at h
  · simp only [] at h; omega
  split at h
  · split at h
    · simp only [] at h; omega
    · simp only [] at h; omega
  split at h
  · split at h
    · simp only [] at h; omega
    · simp only [] at h; omega
  · simp only [] at h; omega

/-- A rune of a loop over the text that is no stroke. -/
theorem segs_rune {s : ByteArray} {f i : Nat} (h : i < s.size) (e : (one s i).1 ≠ 47) : segs s f i = segs s f (i + max (one s i).2 1) :=
  segs_run _ (by have := one_width s i h; omega) (one_no e)

theorem segs_mark {s : ByteArray} {f i : Nat} (h : i < s.size) (e : (one s i).1 = 47) : segs s f i = s.extract f i :: segs s (i + 1) (i + max (one s i).2 1) := by
  obtain ⟨h1, h2⟩ := one_stroke e
  rw [segs_stroke h h1, h2]
  rfl

theorem at8_data (s : ByteArray) (i : Nat) : at8 s i = ((s.data[i]?).getD 0).toNat := by unfold at8; rw [get_data]

theorem at8_out {s : ByteArray} {i : Nat} (h : ¬ i < s.size) : at8 s i = 0 := by
  rw [at8_data, Array.getElem?_eq_none (by simpa using h)]
  rfl

theorem at8_ext {s : ByteArray} {a b i : Nat} (h : a + i < b) (hb : b ≤ s.size) : at8 (s.extract a b) i = at8 s (a + i) := by
  rw [at8_data, at8_data]
  congr 2
  rw [ByteArray.data_extract, Array.getElem?_extract]
  have : b ≤ s.data.size := hb
  rw [if_pos (by omega)]

theorem ext_ext (s : ByteArray) (a b c : Nat) (hb : a + c ≤ s.size) : (s.extract a s.size).extract b c = s.extract (a + b) (a + c) := by
  apply ByteArray.ext
  rw [ByteArray.data_extract, ByteArray.data_extract, ByteArray.data_extract, Array.extract_extract]
  congr 1
  have : s.data.size = s.size := rfl
  omega

/-- What stands behind the first byte, cut as the whole. -/
theorem segs_behind (s : ByteArray) (h1 : 1 ≤ s.size) (n : Nat) : ∀ f i, i ≤ s.size - 1 → s.size ≤ i + n + 1 → segs (s.extract 1 s.size) f i = segs s (1 + f) (1 + i) := by
  have hz : (s.extract 1 s.size).size = s.size - 1 := by rw [ByteArray.size_extract]; omega
  induction n with
  | zero =>
    intro f i hi hn
    rw [segs_end (by omega), segs_end (by omega), hz, ext_ext _ _ _ _ (by omega)]
    congr 2
    omega
  | succ n ih =>
    intro f i hi hn
    by_cases h : i < s.size - 1
    · have e : at8 (s.extract 1 s.size) i = at8 s (1 + i) := at8_ext (by omega) (Nat.le_refl _)
      by_cases h2 : at8 s (1 + i) = 47
      · rw [segs_stroke (by omega) (e.trans h2), segs_stroke (by omega) h2, ih _ _ (by omega) (by omega), ext_ext _ _ _ _ (by omega)]
        rfl
      · rw [segs_on (by omega) (by rw [e]; exact h2), segs_on (by omega) h2, ih _ _ (by omega) (by omega)]
        rfl
    · rw [segs_end (by omega), segs_end (by omega), hz, ext_ext _ _ _ _ (by omega)]
      congr 2
      omega

theorem segs_below (s : ByteArray) (h1 : 1 ≤ s.size) : segs (s.extract 1 s.size) 0 0 = segs s 1 1 := segs_behind s h1 s.size 0 0 (by omega) (by omega)

theorem segs_ne (s : ByteArray) (n : Nat) : ∀ f i, s.size ≤ i + n → segs s f i ≠ [] := by
  induction n with
  | zero => intro f i h; rw [segs_end (by omega)]; simp
  | succ n ih =>
    intro f i h
    by_cases h2 : i < s.size
    · by_cases h3 : at8 s i = 47
      · rw [segs_stroke h2 h3]; simp
      · rw [segs_on h2 h3]; exact ih f (i + 1) (by omega)
    · rw [segs_end h2]; simp

theorem segs_len (s : ByteArray) (n : Nat) : ∀ f i, s.size ≤ i + n → (segs s f i).length ≤ n + 1 := by
  induction n with
  | zero => intro f i h; rw [segs_end (by omega)]; simp
  | succ n ih =>
    intro f i h
    by_cases h2 : i < s.size
    · by_cases h3 : at8 s i = 47
      · rw [segs_stroke h2 h3, List.length_cons]; have := ih (i + 1) (i + 1) (by omega); omega
      · rw [segs_on h2 h3]; have := ih f (i + 1) (by omega); omega
    · rw [segs_end h2]; simp

/-- The first error among the pieces, as an error of paths. -/
def firstErr : List ByteArray → Int
  | [] => 0
  | p :: l => if chk p = 0 then firstErr l else if chk p = 801 then 1101 else 1100

/-- What Parse answers. -/
def parseR (s : ByteArray) : List ByteArray × Int :=
  if 64 < s.size then ([], 1101) else if s.size = 0 ∨ at8 s 0 ≠ 47 then ([], 1100) else if s.size = 1 then ([], 0)
  else if firstErr (segs s 1 1) ≠ 0 then ([], firstErr (segs s 1 1)) else if 4 < (segs s 1 1).length then ([], 1102) else (segs s 1 1, 0)

/-- A stroke ahead of each name. -/
def joinL : List ByteArray → ByteArray
  | [] => ⟨#[]⟩
  | p :: l => ⟨#[47]⟩ ++ (p ++ joinL l)

def joinP (l : List ByteArray) : ByteArray := if l = [] then ⟨#[47]⟩ else joinL l

/-- All of these may be names. -/
def allMay (l : List ByteArray) : Bool := l.all fun p => chk p == 0

/-- What Print answers. -/
def printR (l : List ByteArray) : ByteArray × Int :=
  if allMay l = false then (⟨#[]⟩, 1100) else if 4 < l.length then (⟨#[]⟩, 1102) else (joinP l, 0)

/-- What Code answers. -/
def codeR (e : Int) : Int := if e = 0 then 0 else if e = 1101 ∨ e = 1102 then 6 else 9

/-- What Below answers. -/
def belowR (a b : ByteArray) : Bool := (parseR a).2 == 0 && (parseR b).2 == 0 && decide ((parseR a).1.length < (parseR b).1.length) && decide ((parseR a).1 = (parseR b).1.take (parseR a).1.length)

theorem chk_any (s : ByteArray) : chk s = 0 ∨ chk s = 800 ∨ chk s = 801 := by
  unfold chk
  split
  · simp
  split
  · simp
  split
  · simp
  · simp

theorem chk_size {s : ByteArray} (h : chk s = 0) : s.size ≤ 12 ∧ (rs s 0).any badR = false := by
  unfold chk at h
  split at h
  · omega
  split at h
  · omega
  split at h
  · omega
  · rename_i h1 h2 h3
    exact ⟨by omega, by simpa using h3⟩

theorem rs_no (s : ByteArray) (n : Nat) : ∀ i, s.size ≤ i + n → (rs s i).any badR = false → ∀ k, i ≤ k → at8 s k ≠ 47 := by
  induction n with
  | zero => intro i h _ k hk; rw [at8_out (by omega)]; omega
  | succ n ih =>
    intro i h hb k hk
    by_cases h2 : i < s.size
    · rw [rs_next h2, List.any_cons, Bool.or_eq_false_iff] at hb
      obtain ⟨h3, h4⟩ := hb
      have h5 : (one s i).1 ≠ 47 := by
        unfold badR at h3
        intro e
        rw [e] at h3
        simp at h3
      by_cases h6 : k < i + max (one s i).2 1
      · have := one_no h5 (k - i) (by omega)
        rwa [show i + (k - i) = k by omega] at this
      · exact ih _ (by have := step_pos s i; omega) h4 k (by omega)
    · rw [at8_out (by omega)]; omega

/-- A name has no stroke. -/
theorem chk_no {s : ByteArray} (h : chk s = 0) (k : Nat) : at8 s k ≠ 47 := rs_no s s.size 0 (by omega) (chk_size h).2 k (Nat.zero_le _)

theorem one_47 : ((⟨#[47]⟩ : ByteArray)).size = 1 := rfl

theorem bytes_ext {a b : ByteArray} (hs : a.size = b.size) (h : ∀ i, i < a.size → at8 a i = at8 b i) : a = b := by
  apply ByteArray.ext
  apply Array.ext hs
  intro i h1 h2
  have := h i h1
  rw [at8_data, at8_data, Array.getElem?_eq_getElem h1, Array.getElem?_eq_getElem h2] at this
  exact UInt8.toNat_inj.1 this

theorem at8_47 : at8 (⟨#[47]⟩ : ByteArray) 0 = 47 := by decide

/-- s from f on is what stands ahead of the stroke at i, the stroke, and the rest. -/
theorem ext_stroke {s : ByteArray} {f i : Nat} (hf : f ≤ i) (h : i < s.size) (e : at8 s i = 47) : s.extract f i ++ (⟨#[47]⟩ ++ s.extract (i + 1) s.size) = s.extract f s.size := by
  have z1 : (s.extract f i).size = i - f := by rw [ByteArray.size_extract]; omega
  have z2 : (s.extract (i + 1) s.size).size = s.size - (i + 1) := by rw [ByteArray.size_extract]; omega
  have z3 : (s.extract f s.size).size = s.size - f := by rw [ByteArray.size_extract]; omega
  apply bytes_ext
  · rw [ByteArray.size_append, ByteArray.size_append, z1, z2, z3, one_47]; omega
  · intro k hk
    rw [ByteArray.size_append, ByteArray.size_append, z1, z2, one_47] at hk
    rw [at8_ext (by omega) (Nat.le_refl _)]
    rcases Nat.lt_trichotomy k (i - f) with h1 | h1 | h1
    · rw [at8_left (by omega), at8_ext (by omega) (by omega)]
    · have : at8 (s.extract f i ++ (⟨#[47]⟩ ++ s.extract (i + 1) s.size)) (i - f) = at8 (⟨#[47]⟩ ++ s.extract (i + 1) s.size) 0 := by
        have := at8_right (s.extract f i) (⟨#[47]⟩ ++ s.extract (i + 1) s.size) 0
        rw [z1] at this
        exact this
      rw [h1, this, at8_left (by rw [one_47]; omega), at8_47, ← e]
      congr 1
      omega
    · have h2 := at8_right (s.extract f i) (⟨#[47]⟩ ++ s.extract (i + 1) s.size) (k - (i - f))
      have h3 := at8_right ⟨#[47]⟩ (s.extract (i + 1) s.size) (k - (i - f) - 1)
      rw [z1, show i - f + (k - (i - f)) = k by omega] at h2
      rw [one_47, show 1 + (k - (i - f) - 1) = k - (i - f) by omega] at h3
      rw [h2, h3, at8_ext (by omega) (Nat.le_refl _)]
      congr 1
      omega

theorem app_assoc (a b c : ByteArray) : a ++ b ++ c = a ++ (b ++ c) := ByteArray.append_assoc

theorem app_nil (a : ByteArray) : a ++ ⟨#[]⟩ = a := ByteArray.append_empty

theorem join_segs (s : ByteArray) (n : Nat) : ∀ f i, f ≤ i → i ≤ s.size → s.size ≤ i + n → joinL (segs s f i) = ⟨#[47]⟩ ++ s.extract f s.size := by
  induction n with
  | zero =>
    intro f i hf hi h
    rw [segs_end (by omega), joinL, joinL, app_nil]
  | succ n ih =>
    intro f i hf hi h
    by_cases h2 : i < s.size
    · by_cases h3 : at8 s i = 47
      · rw [segs_stroke h2 h3, joinL, ih (i + 1) (i + 1) (Nat.le_refl _) (by omega) (by omega), ext_stroke hf h2 h3]
      · rw [segs_on h2 h3, ih f (i + 1) (by omega) (by omega) (by omega)]
    · rw [segs_end h2, joinL, joinL, app_nil]

theorem stroke_first {s : ByteArray} (h : 0 < s.size) (e : at8 s 0 = 47) : ⟨#[47]⟩ ++ s.extract 1 s.size = s := by
  have z2 : (s.extract 1 s.size).size = s.size - 1 := by rw [ByteArray.size_extract]; omega
  apply bytes_ext
  · rw [ByteArray.size_append, z2, one_47]; omega
  · intro k hk
    rw [ByteArray.size_append, z2, one_47] at hk
    rcases Nat.eq_zero_or_pos k with rfl | h1
    · rw [at8_left (by rw [one_47]; omega), at8_47, e]
    · have h3 := at8_right ⟨#[47]⟩ (s.extract 1 s.size) (k - 1)
      rw [one_47, show 1 + (k - 1) = k by omega] at h3
      rw [h3, at8_ext (by omega) (Nat.le_refl _)]
      congr 1
      omega

theorem segs_join_at : ∀ (l : List ByteArray) (a p : ByteArray), (∀ q ∈ p :: l, ∀ k, at8 q k ≠ 47) → segs (a ++ (p ++ joinL l)) a.size a.size = p :: l := by
  intro l
  induction l with
  | nil =>
    intro a p h
    rw [joinL, app_nil]
    have hz : (a ++ p).size = a.size + p.size := ByteArray.size_append
    rw [segs_run p.size (by omega) fun j hj => by rw [at8_right]; exact h p (by simp) j, segs_end (by omega)]
    congr 1
    apply bytes_ext
    · rw [ByteArray.size_extract]; omega
    · intro i hi
      rw [ByteArray.size_extract] at hi
      rw [at8_ext (by omega) (Nat.le_refl _), at8_right]
  | cons q l ih =>
    intro a p h
    have e1 : a ++ (p ++ joinL (q :: l)) = (a ++ p) ++ (⟨#[47]⟩ ++ (q ++ joinL l)) := by rw [joinL, app_assoc]
    have e2 : a ++ (p ++ joinL (q :: l)) = ((a ++ p) ++ ⟨#[47]⟩) ++ (q ++ joinL l) := by rw [e1, app_assoc (a ++ p)]
    have hz : (a ++ (p ++ joinL (q :: l))).size = a.size + p.size + 1 + (q ++ joinL l).size := by rw [e2, ByteArray.size_append, ByteArray.size_append, ByteArray.size_append, one_47]
    have hp : ∀ j, j < p.size → at8 (a ++ (p ++ joinL (q :: l))) (a.size + j) = at8 p j := fun j hj => by rw [at8_right, at8_left hj]
    have h47 : at8 (a ++ (p ++ joinL (q :: l))) (a.size + p.size) = 47 := by
      have := at8_right (a ++ p) (⟨#[47]⟩ ++ (q ++ joinL l)) 0
      rw [Nat.add_zero, ByteArray.size_append, ← e1] at this
      rw [this, at8_left (by rw [one_47]; omega), at8_47]
    rw [segs_run p.size (by omega) fun j hj => by rw [hp j hj]; exact h p (by simp) j, segs_stroke (by omega) h47]
    have e3 : segs (a ++ (p ++ joinL (q :: l))) (a.size + p.size + 1) (a.size + p.size + 1) = q :: l := by
      have := ih ((a ++ p) ++ ⟨#[47]⟩) q fun x hx => h x (List.mem_cons_of_mem _ hx)
      rw [ByteArray.size_append, ByteArray.size_append, one_47, ← e2] at this
      exact this
    rw [e3]
    congr 1
    apply bytes_ext
    · rw [ByteArray.size_extract]; omega
    · intro i hi
      rw [ByteArray.size_extract] at hi
      rw [at8_ext (by omega) (by omega), hp i (by omega)]

theorem segs_join (p : ByteArray) (l : List ByteArray) (h : ∀ q ∈ p :: l, chk q = 0) : segs (joinL (p :: l)) 1 1 = p :: l := by
  have := segs_join_at l ⟨#[47]⟩ p fun q hq k => chk_no (h q hq) k
  rw [one_47] at this
  rw [joinL]
  exact this

theorem first_ok (l : List ByteArray) : firstErr l = 0 ↔ allMay l = true := by
  induction l with
  | nil => simp [firstErr, allMay]
  | cons p l ih =>
    unfold allMay at ih ⊢
    rw [firstErr, List.all_cons, Bool.and_eq_true, beq_iff_eq, ← ih]
    split
    · rename_i h; simp [h]
    · rename_i h
      split
      · simp [h]
      · simp [h]

theorem all_may {l : List ByteArray} (h : allMay l = true) : ∀ q ∈ l, chk q = 0 := fun q hq => by
  unfold allMay at h
  simpa using List.all_eq_true.1 h q hq

theorem join_size {l : List ByteArray} (h : ∀ q ∈ l, chk q = 0) : (joinL l).size ≤ 13 * l.length := by
  induction l with
  | nil => exact Nat.le_refl _
  | cons p l ih =>
    have h1 := ih fun q hq => h q (List.mem_cons_of_mem _ hq)
    have h2 := (chk_size (h p (by simp))).1
    rw [joinL, ByteArray.size_append, ByteArray.size_append, one_47, List.length_cons]
    omega

theorem join_long {l : List ByteArray} (h : allMay l = true) (h4 : l.length ≤ 4) : (joinP l).size ≤ 52 := by
  unfold joinP
  split
  · decide
  · have := join_size (all_may h); omega

theorem join_first (p : ByteArray) (l : List ByteArray) : at8 (joinL (p :: l)) 0 = 47 ∧ (joinL (p :: l)).size = 1 + p.size + (joinL l).size := by
  rw [joinL]
  refine ⟨?_, ?_⟩
  · rw [at8_left (by rw [one_47]; omega), at8_47]
  · rw [ByteArray.size_append, ByteArray.size_append, one_47]; omega

theorem chk_pos {s : ByteArray} (h : chk s = 0) : 1 ≤ s.size := by
  rcases Nat.eq_zero_or_pos s.size with h0 | h0
  · have : s = ⟨#[]⟩ := by
      apply ByteArray.ext
      exact Array.eq_empty_of_size_eq_zero h0
    subst this
    exact absurd h (by unfold chk; rw [if_neg (by rw [h0]; omega), if_pos (Or.inl (by rw [ByteArray.toList_eq]))]; omega)
  · exact h0

/-- What is printed is parsed back. -/
theorem parse_print {l : List ByteArray} (h : (printR l).2 = 0) : parseR (printR l).1 = (l, 0) ∧ allMay l = true ∧ l.length ≤ 4 ∧ printR l = (joinP l, 0) := by
  unfold printR at h ⊢
  split at h
  · exact absurd h (by decide)
  rename_i h1
  rw [if_neg h1]
  split at h
  · exact absurd h (by decide)
  rename_i h2
  rw [if_neg h2]
  have h1 : allMay l = true := by simpa using h1
  refine ⟨?_, h1, by omega, rfl⟩
  simp only []
  have hz := join_long h1 (by omega)
  cases l with
  | nil =>
    have : joinP [] = (⟨#[47]⟩ : ByteArray) := rfl
    rw [this]
    decide
  | cons p l =>
    have e : joinP (p :: l) = joinL (p :: l) := by unfold joinP; rw [if_neg (by simp)]
    rw [e] at hz ⊢
    obtain ⟨k1, k2⟩ := join_first p l
    have hp := chk_pos (all_may h1 p (by simp))
    have hs := segs_join p l (all_may h1)
    unfold parseR
    rw [if_neg (by omega), if_neg (by rw [k1]; omega), if_neg (by omega), hs, if_neg (by rw [(first_ok _).2 h1]; simp), if_neg (by omega)]

/-- What is parsed is printed as it stood. -/
theorem print_parse {s : ByteArray} (h : (parseR s).2 = 0) : printR (parseR s).1 = (s, 0) := by
  unfold parseR at h ⊢
  split at h
  · exact absurd h (by decide)
  rename_i h1
  rw [if_neg h1]
  split at h
  · exact absurd h (by decide)
  rename_i h2
  rw [if_neg h2]
  split at h
  · rename_i h3
    rw [if_pos h3]
    have : s = ⟨#[47]⟩ := by
      apply bytes_ext
      · rw [one_47]; exact h3
      · intro i hi
        have : i = 0 := by omega
        subst this
        rw [at8_47]; omega
    subst this
    decide
  rename_i h3
  rw [if_neg h3]
  split at h
  · rename_i h4; exact absurd h h4
  rename_i h4
  rw [if_neg h4]
  split at h
  · exact absurd h (by decide)
  rename_i h5
  rw [if_neg h5]
  simp only []
  have h4 : firstErr (segs s 1 1) = 0 := by simpa using h4
  have h6 := (first_ok _).1 h4
  unfold printR
  rw [if_neg (by rw [h6]; simp), if_neg h5]
  congr 1
  unfold joinP
  rw [if_neg (segs_ne s s.size 1 1 (by omega)), join_segs s s.size 1 1 (Nat.le_refl _) (by omega) (by omega), stroke_first (by omega) (by omega)]

theorem parse_few (s : ByteArray) : (parseR s).1.length ≤ 4 ∧ ((parseR s).2 ≠ 0 → (parseR s).1 = []) ∧ (∀ q ∈ (parseR s).1, chk q = 0) := by
  unfold parseR
  split
  · simp
  split
  · simp
  split
  · simp
  split
  · simp
  split
  · simp
  · rename_i h1 h2 h3 h4 h5
    refine ⟨by simp only []; omega, fun h => absurd rfl h, all_may ((first_ok _).1 (by simpa using h4))⟩

theorem belowR_self (s : ByteArray) : belowR s s = false := by simp [belowR]

end Go.Proofs.YtgfdcnjnkljahaaDoor
