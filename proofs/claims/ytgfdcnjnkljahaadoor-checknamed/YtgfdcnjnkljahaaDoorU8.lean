/-
  The runes of a text: what stands at a place, all of them, and what a text made of two has.
-/
import Derived.Laws.RangeAny
namespace Go.Proofs.YtgfdcnjnkljahaaDoor
open Go
set_option linter.unusedVariables false

/-- A byte of a text, 0 behind its end. -/
def at8 (s : ByteArray) (i : Nat) : Nat := (s.get! i).toNat

/-- The byte at i goes on: what it adds; -1 where it does not. -/
def goes (s : ByteArray) (i : Nat) : Int := if i < s.size ∧ 128 ≤ at8 s i ∧ at8 s i ≤ 191 then (at8 s i : Int) - 128 else -1

/-- The rune at a place and how many bytes it has, as the document's answer reckons it; 65533 and 0: none. -/
def one (s : ByteArray) (i : Nat) : Int × Nat :=
  let c : Int := at8 s i
  let a := goes s (i + 1)
  let b := goes s (i + 2)
  let d := goes s (i + 3)
  if c < 128 then (c, 1)
  else if 194 ≤ c ∧ c ≤ 223 ∧ 0 ≤ a then ((c - 192) * 64 + a, 2)
  else if 224 ≤ c ∧ c ≤ 239 ∧ 0 ≤ a ∧ 0 ≤ b then
    if 2048 ≤ (c - 224) * 4096 + a * 64 + b ∧ ((c - 224) * 4096 + a * 64 + b < 55296 ∨ 57343 < (c - 224) * 4096 + a * 64 + b) then ((c - 224) * 4096 + a * 64 + b, 3) else (65533, 0)
  else if 240 ≤ c ∧ c ≤ 244 ∧ 0 ≤ a ∧ 0 ≤ b ∧ 0 ≤ d then
    if 65536 ≤ (c - 240) * 262144 + a * 4096 + b * 64 + d ∧ (c - 240) * 262144 + a * 4096 + b * 64 + d ≤ 1114111 then ((c - 240) * 262144 + a * 4096 + b * 64 + d, 4) else (65533, 0)
  else (65533, 0)

theorem at8_lt (s : ByteArray) (i : Nat) : at8 s i < 256 := (s.get! i).toNat_lt

theorem goes_cases (s : ByteArray) (i : Nat) : (goes s i = -1 ∧ (decide (i < s.size) && at8 s i / 64 == 2) = false) ∨ (goes s i = (at8 s i % 64 : Nat) ∧ (decide (i < s.size) && at8 s i / 64 == 2) = true) := by
  unfold goes
  have h := at8_lt s i
  by_cases h1 : i < s.size ∧ 128 ≤ at8 s i ∧ at8 s i ≤ 191
  · right
    rw [if_pos h1]
    refine ⟨by omega, ?_⟩
    simp only [Bool.and_eq_true, decide_eq_true_eq, beq_iff_eq]
    exact ⟨h1.1, by omega⟩
  · left
    rw [if_neg h1]
    refine ⟨rfl, ?_⟩
    rw [← Bool.not_eq_true]
    simp only [Bool.and_eq_true, decide_eq_true_eq, beq_iff_eq]
    omega

theorem valid_of (z : Nat) : Utf8.valid (z : Int) = true ↔ (z < 55296 ∨ (57344 ≤ z ∧ z ≤ 1114111)) := by
  unfold Utf8.valid
  rw [Bool.or_eq_true, Bool.and_eq_true, Bool.and_eq_true, decide_eq_true_eq, decide_eq_true_eq, decide_eq_true_eq, decide_eq_true_eq]
  omega

/-- What a loop over the text tells is what the document's answer reckons. -/
theorem decode_one (s : ByteArray) (i : Nat) : ((Utf8.decode s i).1 : Int) = (one s i).1 ∧ (Utf8.decode s i).2 = max (one s i).2 1 := by
  have h0 := at8_lt s i
  have h1 := at8_lt s (i + 1)
  have h2 := at8_lt s (i + 2)
  have h3 := at8_lt s (i + 3)
  have c1 := goes_cases s (i + 1)
  have c2 := goes_cases s (i + 2)
  have c3 := goes_cases s (i + 3)
  unfold one Utf8.decode
  simp only [show (s.get! (i + 0)).toNat = at8 s i from rfl, show (s.get! (i + 1)).toNat = at8 s (i + 1) from rfl, show (s.get! (i + 2)).toNat = at8 s (i + 2) from rfl, show (s.get! (i + 3)).toNat = at8 s (i + 3) from rfl]
  generalize at8 s i = c at *
  generalize at8 s (i + 1) = x1 at *
  generalize at8 s (i + 2) = x2 at *
  generalize at8 s (i + 3) = x3 at *
  generalize goes s (i + 1) = a at *
  generalize goes s (i + 2) = b at *
  generalize goes s (i + 3) = d at *
  generalize (decide (i + 1 < s.size) && x1 / 64 == 2) = q1 at *
  generalize (decide (i + 2 < s.size) && x2 / 64 == 2) = q2 at *
  generalize (decide (i + 3 < s.size) && x3 / 64 == 2) = q3 at *
  by_cases r0 : c < 128
  · rw [if_pos r0, if_pos (by omega : (c : Int) < 128)]
    exact ⟨rfl, rfl⟩
  rw [if_neg r0, if_neg (by omega : ¬ (c : Int) < 128)]
  by_cases r1 : c / 32 = 6
  · have e1 : (c / 32 == 6) = true := by simpa using r1
    have e2 : (c / 16 == 14) = false := by simp; omega
    have e3 : (c / 8 == 30) = false := by simp; omega
    simp only [e1, e2, e3, Bool.true_and, Bool.false_and, Bool.false_eq_true, if_false]
    rcases c1 with ⟨rfl, rfl⟩ | ⟨rfl, rfl⟩
    · simp only [Bool.false_eq_true, if_false]
      rw [if_neg (by omega), if_neg (by omega), if_neg (by omega)]
      exact ⟨rfl, rfl⟩
    · simp only [if_true]
      by_cases r2 : 194 ≤ c
      · rw [if_pos (by omega), if_pos (by omega)]
        exact ⟨by simp only []; omega, rfl⟩
      · rw [if_neg (by omega), if_neg (by omega), if_neg (by omega), if_neg (by omega)]
        exact ⟨rfl, rfl⟩
  have e1 : (c / 32 == 6) = false := by simpa using r1
  rw [if_neg (by omega : ¬ (194 ≤ (c : Int) ∧ (c : Int) ≤ 223 ∧ 0 ≤ a))]
  by_cases r2 : c / 16 = 14
  · have e2 : (c / 16 == 14) = true := by simpa using r2
    have e3 : (c / 8 == 30) = false := by simp; omega
    simp only [e1, e2, e3, Bool.true_and, Bool.false_and, Bool.false_eq_true, if_false]
    rcases c1 with ⟨rfl, rfl⟩ | ⟨rfl, rfl⟩
    · simp only [Bool.false_and, Bool.false_eq_true, if_false]
      rw [if_neg (by omega), if_neg (by omega)]
      exact ⟨rfl, rfl⟩
    rcases c2 with ⟨rfl, rfl⟩ | ⟨rfl, rfl⟩
    · simp only [Bool.and_false, Bool.false_eq_true, if_false]
      rw [if_neg (by omega), if_neg (by omega)]
      exact ⟨rfl, rfl⟩
    simp only [Bool.and_true, if_true]
    rw [if_pos (by omega : 224 ≤ (c : Int) ∧ (c : Int) ≤ 239 ∧ 0 ≤ ((x1 % 64 : Nat) : Int) ∧ 0 ≤ ((x2 % 64 : Nat) : Int))]
    have eq : ((c : Int) - 224) * 4096 + ((x1 % 64 : Nat) : Int) * 64 + ((x2 % 64 : Nat) : Int) = ((c % 16 * 4096 + x1 % 64 * 64 + x2 % 64 : Nat) : Int) := by omega
    rw [eq]
    generalize c % 16 * 4096 + x1 % 64 * 64 + x2 % 64 = z at *
    by_cases r3 : 2048 ≤ (z : Int) ∧ ((z : Int) < 55296 ∨ 57343 < (z : Int))
    · have : (decide (z ≥ 2048) && Utf8.valid (z : Int)) = true := by
        rw [Bool.and_eq_true, decide_eq_true_eq, valid_of]; omega
      rw [if_pos r3, if_pos this]
      exact ⟨rfl, rfl⟩
    · have : ¬ (decide (z ≥ 2048) && Utf8.valid (z : Int)) = true := by
        rw [Bool.and_eq_true, decide_eq_true_eq, valid_of]; omega
      rw [if_neg r3, if_neg this]
      exact ⟨rfl, rfl⟩
  have e2 : (c / 16 == 14) = false := by simpa using r2
  rw [if_neg (by omega : ¬ (224 ≤ (c : Int) ∧ (c : Int) ≤ 239 ∧ 0 ≤ a ∧ 0 ≤ b))]
  by_cases r3 : c / 8 = 30
  · have e3 : (c / 8 == 30) = true := by simpa using r3
    simp only [e1, e2, e3, Bool.true_and, Bool.false_and, Bool.false_eq_true, if_false]
    rcases c1 with ⟨rfl, rfl⟩ | ⟨rfl, rfl⟩
    · simp only [Bool.false_and, Bool.false_eq_true, if_false]
      rw [if_neg (by omega)]
      exact ⟨rfl, rfl⟩
    rcases c2 with ⟨rfl, rfl⟩ | ⟨rfl, rfl⟩
    · simp only [Bool.and_false, Bool.false_and, Bool.false_eq_true, if_false]
      rw [if_neg (by omega)]
      exact ⟨rfl, rfl⟩
    rcases c3 with ⟨rfl, rfl⟩ | ⟨rfl, rfl⟩
    · simp only [Bool.and_false, Bool.false_eq_true, if_false]
      rw [if_neg (by omega)]
      exact ⟨rfl, rfl⟩
    simp only [Bool.and_true, if_true]
    have eq : ((c : Int) - 240) * 262144 + ((x1 % 64 : Nat) : Int) * 4096 + ((x2 % 64 : Nat) : Int) * 64 + ((x3 % 64 : Nat) : Int) = ((c % 8 * 262144 + x1 % 64 * 4096 + x2 % 64 * 64 + x3 % 64 : Nat) : Int) := by omega
    rw [eq]
    have hz : ¬ c ≤ 244 → 1114111 < c % 8 * 262144 + x1 % 64 * 4096 + x2 % 64 * 64 + x3 % 64 := by omega
    generalize c % 8 * 262144 + x1 % 64 * 4096 + x2 % 64 * 64 + x3 % 64 = z at *
    by_cases r4 : 65536 ≤ (z : Int) ∧ (z : Int) ≤ 1114111
    · have : (decide (z ≥ 65536) && Utf8.valid (z : Int)) = true := by
        rw [Bool.and_eq_true, decide_eq_true_eq, valid_of]; omega
      rw [if_pos this, if_pos (by omega), if_pos r4]
      exact ⟨rfl, rfl⟩
    · have : ¬ (decide (z ≥ 65536) && Utf8.valid (z : Int)) = true := by
        rw [Bool.and_eq_true, decide_eq_true_eq, valid_of]; omega
      rw [if_neg this]
      split
      · exact ⟨rfl, rfl⟩
      · exact ⟨rfl, rfl⟩
  have e3 : (c / 8 == 30) = false := by simpa using r3
  simp only [e1, e2, e3, Bool.false_and, Bool.false_eq_true, if_false]
  rw [if_neg (by omega)]
  exact ⟨rfl, rfl⟩

/-- A rune has one to four bytes, and all of them are within the text; it is none just where it has no byte of its own. -/
theorem one_width (s : ByteArray) (i : Nat) (h : i < s.size) : (one s i).2 ≤ 4 ∧ i + (one s i).2 ≤ s.size ∧ 0 ≤ (one s i).1 ∧ (one s i).1 ≤ 1114111 ∧ ((one s i).2 = 0 → (one s i).1 = 65533) := by
  have h0 := at8_lt s i
  have g : ∀ k, 0 ≤ goes s k → k < s.size := fun k hk => by
    unfold goes at hk
    split at hk
    · rename_i h1; exact h1.1
    · omega
  have g2 : ∀ k, goes s k ≤ 63 := fun k => by
    unfold goes
    split
    · omega
    · omega
  have k1 := g (i + 1)
  have k2 := g (i + 2)
  have k3 := g (i + 3)
  have l1 := g2 (i + 1)
  have l2 := g2 (i + 2)
  have l3 := g2 (i + 3)
  unfold one
  simp only []
  generalize at8 s i = c at *
  generalize goes s (i + 1) = a at *
  generalize goes s (i + 2) = b at *
  generalize goes s (i + 3) = d at *
  split
  · exact ⟨by simp only []; omega, by simp only []; omega, by simp only []; omega, by simp only []; omega, by simp only []; omega⟩
  split
  · exact ⟨by simp only []; omega, by simp only []; omega, by simp only []; omega, by simp only []; omega, by simp only []; omega⟩
  split
  · split
    · exact ⟨by simp only []; omega, by simp only []; omega, by simp only []; omega, by simp only []; omega, by simp only []; omega⟩
    · exact ⟨by simp only []; omega, by simp only []; omega, by simp only []; omega, by simp only []; omega, fun _ => rfl⟩
  split
  · split
    · exact ⟨by simp only []; omega, by simp only []; omega, by simp only []; omega, by simp only []; omega, by simp only []; omega⟩
    · exact ⟨by simp only []; omega, by simp only []; omega, by simp only []; omega, by simp only []; omega, fun _ => rfl⟩
  · exact ⟨by simp only []; omega, by simp only []; omega, by simp only []; omega, by simp only []; omega, fun _ => rfl⟩

theorem step_pos (s : ByteArray) (i : Nat) : 1 ≤ max (one s i).2 1 := Nat.le_max_right ..

/-- The runes from a place on, each with its bytes (0: none). -/
def rs (s : ByteArray) (i : Nat) : List (Int × Nat) := if h : i < s.size then one s i :: rs s (i + max (one s i).2 1) else []
termination_by s.size - i
decreasing_by have := step_pos s i; omega

theorem rs_end {s : ByteArray} {i : Nat} (h : ¬ i < s.size) : rs s i = [] := by rw [rs, dif_neg h]
theorem rs_next {s : ByteArray} {i : Nat} (h : i < s.size) : rs s i = one s i :: rs s (i + max (one s i).2 1) := by rw [rs, dif_pos h]

/-- As many as bytes at most, and a quarter as many at least. -/
theorem rs_many (s : ByteArray) (n : Nat) : ∀ i, s.size ≤ i + n → (rs s i).length ≤ s.size - i ∧ s.size - i ≤ 4 * (rs s i).length := by
  induction n with
  | zero => intro i hi; rw [rs_end (by omega)]; simp; omega
  | succ n ih =>
    intro i hi
    by_cases h : i < s.size
    · have h1 := one_width s i h
      have h2 := step_pos s i
      have h3 := ih (i + max (one s i).2 1) (by omega)
      rw [rs_next h, List.length_cons]
      have h4 : max (one s i).2 1 ≤ 4 := Nat.max_le.2 ⟨h1.1, by omega⟩
      omega
    · rw [rs_end h]; simp; omega

/-! ### A text made of two -/

theorem get_data (s : ByteArray) (i : Nat) : s.get! i = (s.data[i]?).getD 0 := by
  cases s
  rename_i bs
  show bs[i]! = _
  simp [getElem!_def]
  cases bs[i]? <;> rfl

theorem at8_left {a t : ByteArray} {i : Nat} (h : i < a.size) : at8 (a ++ t) i = at8 a i := by
  unfold at8
  have h1 : i < a.data.size := h
  rw [get_data, get_data, ByteArray.data_append, Array.getElem?_append_left h1]

theorem at8_right (a t : ByteArray) (i : Nat) : at8 (a ++ t) (a.size + i) = at8 t i := by
  unfold at8
  have h1 : a.data.size ≤ a.size + i := by show a.size ≤ _; omega
  rw [get_data, get_data, ByteArray.data_append, Array.getElem?_append_right h1]
  congr 4
  show a.size + i - a.size = i
  omega

theorem goes_right (a t : ByteArray) (i : Nat) : goes (a ++ t) (a.size + i) = goes t i := by
  unfold goes
  rw [at8_right, ByteArray.size_append]
  have : (a.size + i < a.size + t.size) = (i < t.size) := by simp
  simp only [this]

theorem one_right (a t : ByteArray) (i : Nat) : one (a ++ t) (a.size + i) = one t i := by
  unfold one
  rw [at8_right, Nat.add_assoc, Nat.add_assoc, Nat.add_assoc, goes_right, goes_right, goes_right]

theorem rs_right (a t : ByteArray) (n : Nat) : ∀ i, t.size ≤ i + n → rs (a ++ t) (a.size + i) = rs t i := by
  induction n with
  | zero => intro i hi; rw [rs_end (by rw [ByteArray.size_append]; omega), rs_end (by omega)]
  | succ n ih =>
    intro i hi
    by_cases h : i < t.size
    · rw [rs_next (by rw [ByteArray.size_append]; omega), rs_next h, one_right, Nat.add_assoc, ih _ (by have := step_pos t i; omega)]
    · rw [rs_end (by rw [ByteArray.size_append]; omega), rs_end h]

/-- A byte below 128 at a text's end: what stands ahead of it does not reach over it. -/
theorem goes_left {a t : ByteArray} {i : Nat} (h : i < a.size) : goes (a ++ t) i = goes a i := by
  unfold goes
  rw [at8_left h, ByteArray.size_append]
  have : (i < a.size + t.size) = (i < a.size) := by simp; omega
  simp only [this]

theorem one_left {a t : ByteArray} {i : Nat} (h : i < a.size) (hl : at8 a (a.size - 1) < 128) : one (a ++ t) i = one a i := by
  have hx : ∀ k, k + 1 = a.size → goes a k = -1 := fun k hk => by
    unfold goes
    rw [if_neg]
    intro h1
    have : k = a.size - 1 := by omega
    rw [this] at h1
    omega
  have hy : ∀ k, ¬ k < a.size → goes a k = -1 := fun k hk => by
    unfold goes
    rw [if_neg (by omega)]
  have e0 := at8_left (t := t) h
  by_cases h1 : i + 1 = a.size
  · have : i = a.size - 1 := by omega
    have hc : (at8 a i : Int) < 128 := by rw [this]; omega
    unfold one
    simp only [e0]
    rw [if_pos hc, if_pos hc]
  have e1 := goes_left (t := t) (show i + 1 < a.size by omega)
  by_cases h2 : i + 2 = a.size
  · have g1 := hx (i + 1) (by omega)
    unfold one
    simp only [e0, e1, g1]
    simp
  have e2 := goes_left (t := t) (show i + 2 < a.size by omega)
  by_cases h3 : i + 3 = a.size
  · have g2 := hx (i + 2) (by omega)
    unfold one
    simp only [e0, e1, e2, g2]
    simp
  have e3 := goes_left (t := t) (show i + 3 < a.size by omega)
  unfold one
  simp only [e0, e1, e2, e3]

theorem rs_left {a : ByteArray} (t : ByteArray) (hl : at8 a (a.size - 1) < 128) (n : Nat) : ∀ i, i ≤ a.size → a.size ≤ i + n → rs (a ++ t) i = rs a i ++ rs t 0 := by
  induction n with
  | zero =>
    intro i hi h1
    have e : i = a.size + 0 := by omega
    rw [rs_end (s := a) (by omega), e, rs_right a t t.size 0 (by omega)]
    rfl
  | succ n ih =>
    intro i hi h1
    by_cases h : i < a.size
    · have hw := one_width a i h
      have hs := step_pos a i
      have hm : i + max (one a i).2 1 ≤ a.size := by rw [Nat.max_def]; split <;> omega
      rw [rs_next (s := a ++ t) (by rw [ByteArray.size_append]; omega), rs_next h, one_left h hl, ih _ hm (by omega)]
      rfl
    · have e : i = a.size + 0 := by omega
      rw [rs_end (s := a) h, e, rs_right a t t.size 0 (by omega)]
      rfl

/-- The runes of both, where the first ends with a byte below 128. -/
theorem rs_both {a : ByteArray} (t : ByteArray) (hl : at8 a (a.size - 1) < 128) : rs (a ++ t) 0 = rs a 0 ++ rs t 0 := rs_left t hl a.size 0 (Nat.zero_le _) (by omega)

end Go.Proofs.YtgfdcnjnkljahaaDoor
