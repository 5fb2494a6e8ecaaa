/-
  A name as two words: its bytes packed, unpacked again, and where its runes part. (No program stands in this text.)
-/
import Derived.Test.YtnbbcbjfejdceaaDoorRh
import Derived.Laws.BytesArg
namespace Go.Proofs.YtnbbcbjfejdceaaDoor
open Go.RowKit
set_option linter.unusedVariables false

/-! ### Bytes in a word -/

/-- The number that bytes make, the last one lowest. -/
def val (l : List Int) : Int := l.foldl (fun a b => a * 256 + b) 0

theorem val_nil : val [] = 0 := rfl
theorem val_snoc (l : List Int) (b : Int) : val (l ++ [b]) = val l * 256 + b := by unfold val; rw [List.foldl_append]; rfl

/-- The word that they make. -/
def pack (l : List Int) : Int := wrap64 (val l)

theorem or_byte (x b : Int) (h0 : 0 ≤ b) (h1 : b < 256) : bits .or .i64 (wrap64 (x * 256)) b = wrap64 (x * 256 + b) := by
  have e1 : (BitVec.ofInt 64 (wrap64 (x * 256))).toNat = (x % 72057594037927936).toNat <<< 8 := by
    rw [BitVec.toNat_ofInt, Nat.shiftLeft_eq]
    unfold wrap64
    omega
  have e2 : (BitVec.ofInt 64 b).toNat = b.toNat := by
    rw [BitVec.toNat_ofInt]
    omega
  have key : (BitVec.ofInt 64 (wrap64 (x * 256)) ||| BitVec.ofInt 64 b).toNat = (x % 72057594037927936).toNat * 256 + b.toNat := by
    rw [BitVec.toNat_or, e1, e2, ← Nat.shiftLeft_add_eq_or_of_lt (by omega), Nat.shiftLeft_eq]
  show IntKind.i64.wrap ((BitVec.ofInt 64 (wrap64 (x * 256)) ||| BitVec.ofInt 64 b).toNat : Nat) = _
  rw [key, IntKind.wrap_i64]
  unfold wrap64
  omega

theorem pack_snoc (l : List Int) (b : Int) (h0 : 0 ≤ b) (h1 : b < 256) : bits .or .i64 (wrap64 (pack l * 256)) b = pack (l ++ [b]) := by
  rw [or_byte _ _ h0 h1]
  unfold pack
  rw [val_snoc]
  unfold wrap64
  omega

/-- The k lowest bytes of a number, the lowest last. -/
def dg : Nat → Int → List Int
  | 0, _ => []
  | k + 1, n => dg k (n / 256) ++ [n % 256]

theorem dg_more (k : Nat) : ∀ (n q : Int), dg k (n + 256 ^ k * q) = dg k n := by
  induction k with
  | zero => intro n q; rfl
  | succ k ih =>
    intro n q
    rw [dg, dg]
    have e1 : (n + 256 ^ (k + 1) * q) / 256 = n / 256 + 256 ^ k * q := by
      rw [show (256 : Int) ^ (k + 1) * q = 256 * (256 ^ k * q) by rw [Int.pow_succ]; rw [Int.mul_comm (256 ^ k) 256, Int.mul_assoc]]
      rw [Int.add_mul_ediv_left _ _ (by omega)]
    have e2 : (n + 256 ^ (k + 1) * q) % 256 = n % 256 := by
      rw [show (256 : Int) ^ (k + 1) * q = 256 * (256 ^ k * q) by rw [Int.pow_succ]; rw [Int.mul_comm (256 ^ k) 256, Int.mul_assoc]]
      rw [Int.add_mul_emod_self_left]
    rw [e1, e2, ih]

theorem dg_wrap (n : Int) : dg 8 (wrap64 n) = dg 8 n := by
  have : wrap64 n = n + 256 ^ 8 * (- ((n + 9223372036854775808) / 18446744073709551616)) := by
    unfold wrap64
    have : (256 : Int) ^ 8 = 18446744073709551616 := by decide
    rw [this]
    omega
  rw [this, dg_more]

theorem dg_zero (k : Nat) : (dg k 0).filter (fun b => b != 0) = [] := by
  induction k with
  | zero => rfl
  | succ k ih => rw [dg]; simp only [Int.zero_ediv, Int.zero_emod, List.filter_append, ih]; rfl

theorem snoc_cases {α : Type} (l : List α) : l = [] ∨ ∃ m x, l = m ++ [x] := by
  rcases List.eq_nil_or_concat l with h | ⟨m, x, h⟩
  · exact Or.inl h
  · exact Or.inr ⟨m, x, by rw [h, List.concat_eq_append]⟩

theorem dg_val (k : Nat) : ∀ (l : List Int), l.length ≤ k → (∀ b ∈ l, 1 ≤ b ∧ b < 256) → (dg k (val l)).filter (fun b => b != 0) = l := by
  induction k with
  | zero => intro l hl _; rw [List.eq_nil_of_length_eq_zero (by omega : l.length = 0)]; rfl
  | succ k ih =>
    intro l hl hb
    rcases snoc_cases l with rfl | ⟨m, x, rfl⟩
    · exact dg_zero _
    · have hx := hb x (by simp)
      rw [val_snoc, dg]
      rw [show (val m * 256 + x) / 256 = val m by omega, show (val m * 256 + x) % 256 = x by omega, List.filter_append, ih m (by simp at hl; omega) (fun b h => hb b (by simp [h]))]
      have : (x != 0) = true := by simp; omega
      simp [this]

/-- What is read back of a word. -/
def unp (n : Int) : List Int := (dg 8 n).filter fun b => b != 0

theorem unp_pack {l : List Int} (hl : l.length ≤ 8) (hb : ∀ b ∈ l, 1 ≤ b ∧ b < 256) : unp (pack l) = l := by
  unfold unp pack
  rw [dg_wrap, dg_val 8 l hl hb]

theorem unp_zero : unp 0 = [] := dg_zero 8

theorem dg_step (j : Nat) (n : Int) : dg (j + 1) n = dg j (n / 256) ++ [n % 256] := rfl

/-! ### The bytes of a text -/

/-- The bytes of a text as numbers. -/
def nb (s : ByteArray) : List Int := s.data.toList.map fun b => (b.toNat : Int)

theorem nb_length (s : ByteArray) : (nb s).length = s.size := by unfold nb; rw [List.length_map]; rfl

theorem nb_range (s : ByteArray) : ∀ b ∈ nb s, 0 ≤ b ∧ b < 256 := by
  intro b hb
  unfold nb at hb
  rw [List.mem_map] at hb
  obtain ⟨x, _, rfl⟩ := hb
  have := x.toNat_lt
  omega

theorem str_nb (s : ByteArray) : strOfNums (nb s) = s := by
  apply ByteArray.ext
  apply Array.toList_inj.1
  rw [strOfNums_data]
  unfold nb
  rw [List.map_map]
  have : ((fun n : Int => UInt8.ofNat n.toNat) ∘ fun b : UInt8 => (b.toNat : Int)) = id := by
    funext b
    simp
  rw [this, List.map_id]

theorem nb_at {s : ByteArray} {i : Nat} (h : i < s.size) : (nb s)[i]? = some (at8 s i : Int) := by
  unfold nb at8
  rw [get_data, List.getElem?_map]
  have h2 : i < s.data.toList.length := h
  rw [List.getElem?_eq_getElem h2]
  have h3 : s.data[i]? = some s.data.toList[i] := by
    rw [← Array.getElem?_toList, List.getElem?_eq_getElem h2]
  rw [h3]
  rfl

/-- A byte more. -/
theorem nb_take {s : ByteArray} {i : Nat} (h : i < s.size) : (nb s).take (i + 1) = (nb s).take i ++ [(at8 s i : Int)] := by
  rw [List.take_add_one, nb_at h]; rfl

/-! ### Where runes part -/

theorem one_ranges (s : ByteArray) (i : Nat) : (one s i).2 = 0 ∨ ((one s i).2 = 1 ∧ (one s i).1 = (at8 s i : Int) ∧ at8 s i < 128) ∨ ((one s i).2 = 2 ∧ 128 ≤ (one s i).1 ∧ (one s i).1 ≤ 2047 ∧ 128 ≤ at8 s i ∧ 128 ≤ at8 s (i + 1)) ∨ ((one s i).2 = 3 ∧ 2048 ≤ (one s i).1 ∧ (one s i).1 ≤ 65535 ∧ ((one s i).1 < 55296 ∨ 57343 < (one s i).1) ∧ 128 ≤ at8 s i ∧ 128 ≤ at8 s (i + 1) ∧ 128 ≤ at8 s (i + 2)) ∨ ((one s i).2 = 4 ∧ 65536 ≤ (one s i).1 ∧ (one s i).1 ≤ 1114111 ∧ 128 ≤ at8 s i ∧ 128 ≤ at8 s (i + 1) ∧ 128 ≤ at8 s (i + 2) ∧ 128 ≤ at8 s (i + 3)) := by
  have g : ∀ j, goes s j = -1 ∨ (0 ≤ goes s j ∧ goes s j < 64 ∧ 128 ≤ at8 s j) := by
    intro j
    unfold goes
    by_cases h : j < s.size ∧ 128 ≤ at8 s j ∧ at8 s j ≤ 191
    · rw [if_pos h]; right; omega
    · rw [if_neg h]; left; rfl
  have g1 := g (i + 1)
  have g2 := g (i + 2)
  have g3 := g (i + 3)
  unfold one
  simp only []
  generalize at8 s i = c at *
  generalize at8 s (i + 1) = x1 at *
  generalize at8 s (i + 2) = x2 at *
  generalize at8 s (i + 3) = x3 at *
  generalize goes s (i + 1) = a at *
  generalize goes s (i + 2) = b at *
  generalize goes s (i + 3) = d at *
  clear g
  repeat' split
  all_goals first
    | exact Or.inl rfl
    | exact Or.inr (Or.inl ⟨rfl, rfl, by omega⟩)
    | exact Or.inr (Or.inr (Or.inl ⟨rfl, by dsimp only; omega, by dsimp only; omega, by omega, by omega⟩))
    | exact Or.inr (Or.inr (Or.inr (Or.inl ⟨rfl, by dsimp only; omega, by dsimp only; omega, by dsimp only; omega, by omega, by omega, by omega⟩)))
    | exact Or.inr (Or.inr (Or.inr (Or.inr ⟨rfl, by dsimp only; omega, by dsimp only; omega, by omega, by omega, by omega, by omega⟩)))

/-- No rune of it is bad: no byte of it is 0. -/
theorem bytes_pos (s : ByteArray) (n : Nat) : ∀ j, s.size ≤ j + n → (rs s j).any badR = false → ∀ i, j ≤ i → i < s.size → 1 ≤ at8 s i := by
  induction n with
  | zero => intro j hj _ i h1 h2; omega
  | succ n ih =>
    intro j hj hb i h1 h2
    have hjs : j < s.size := by omega
    have hw := one_width s j hjs
    rw [rs_next hjs, List.any_cons, Bool.or_eq_false_iff] at hb
    obtain ⟨hb1, hb2⟩ := hb
    have hr := one_ranges s j
    have hne : (one s j).2 ≠ 0 := by
      intro h
      simp [badR, h] at hb1
    have h32 : 32 ≤ (one s j).1 := by
      rcases Int.lt_or_le (one s j).1 32 with h | h
      · simp [badR, h] at hb1
      · exact h
    rw [Nat.max_eq_left (by omega)] at hb2
    by_cases hlt : i < j + (one s j).2
    · have : i = j ∨ i = j + 1 ∨ i = j + 2 ∨ i = j + 3 := by omega
      rcases this with rfl | rfl | rfl | rfl <;> omega
    · exact ih (j + (one s j).2) (by omega) hb2 i (by omega) h2

theorem chk_parts {s : ByteArray} (h : chk s = 0) : s.size ≤ 12 ∧ 1 ≤ s.size ∧ (rs s 0).any badR = false := by
  unfold chk at h
  by_cases h1 : 12 < s.size
  · rw [if_pos h1] at h; omega
  · rw [if_neg h1] at h
    by_cases h2 : s.toList = [] ∨ s.toList = [46] ∨ s.toList = [46, 46]
    · rw [if_pos h2] at h; omega
    · rw [if_neg h2] at h
      refine ⟨by omega, ?_, ?_⟩
      · rcases Nat.eq_zero_or_pos s.size with h3 | h3
        · exact absurd (Or.inl (by rw [ByteArray.toList_eq]; exact List.eq_nil_of_length_eq_zero h3)) h2
        · exact h3
      · rcases hb : (rs s 0).any badR with _ | _
        · rfl
        · rw [hb, if_pos rfl] at h; omega

theorem chk_bytes {s : ByteArray} (h : chk s = 0) : ∀ b ∈ nb s, 1 ≤ b ∧ b < 256 := by
  intro b hb
  have h2 := nb_range s b hb
  obtain ⟨i, hi, rfl⟩ := List.getElem_of_mem hb
  rw [nb_length] at hi
  have h3 := nb_at hi
  rw [List.getElem?_eq_getElem (by rw [nb_length]; exact hi)] at h3
  have h4 := bytes_pos s s.size 0 (by omega) (chk_parts h).2.2 i (by omega) hi
  have h5 := Option.some.inj h3
  omega

/-- How many bytes the first word has: as many whole runes as it has room for. -/
def cutAt : List (Int × Nat) → Nat → Nat
  | [], n => n
  | x :: l, n => if 8 < n + x.2 then n else cutAt l (n + x.2)

/-- Where a name's second word begins. -/
def cp (s : ByteArray) : Nat := cutAt (rs s 0) 0

/-- The two words of a name. -/
def sp0 (s : ByteArray) : Int := pack ((nb s).take (cp s))
def sp1 (s : ByteArray) : Int := pack ((nb s).drop (cp s))

theorem cut_range (l : List (Int × Nat)) : ∀ n, n ≤ 8 → (∀ x ∈ l, x.2 ≤ 4) → n ≤ cutAt l n ∧ cutAt l n ≤ 8 := by
  induction l with
  | nil => intro n hn _; exact ⟨Nat.le_refl _, hn⟩
  | cons x l ih =>
    intro n hn hx
    rw [cutAt]
    split
    · exact ⟨Nat.le_refl _, hn⟩
    · have := ih (n + x.2) (by omega) (fun y hy => hx y (by simp [hy]))
      omega

theorem rs_small (s : ByteArray) (n : Nat) : ∀ j, s.size ≤ j + n → ∀ x ∈ rs s j, x.2 ≤ 4 := by
  induction n with
  | zero => intro j hj x hx; rw [rs_end (by omega)] at hx; cases hx
  | succ n ih =>
    intro j hj x hx
    by_cases h : j < s.size
    · rw [rs_next h] at hx
      rcases List.mem_cons.1 hx with h1 | hx
      · rw [h1]; exact (one_width s j h).1
      · exact ih _ (by have := step_pos s j; omega) x hx
    · rw [rs_end h] at hx; cases hx

/-- What a name's cut leaves: the words have room. -/
theorem cut_room (s : ByteArray) (n : Nat) : ∀ j, s.size ≤ j + n → j ≤ 8 → s.size ≤ 12 → (rs s j).any badR = false → cutAt (rs s j) j ≤ 8 ∧ s.size ≤ cutAt (rs s j) j + 8 ∧ j ≤ cutAt (rs s j) j ∧ (s.size ≤ j → cutAt (rs s j) j = j) ∧ (cutAt (rs s j) j < s.size → 5 ≤ cutAt (rs s j) j) := by
  induction n with
  | zero => intro j hj h8 h12 _; rw [rs_end (by omega), cutAt]; omega
  | succ n ih =>
    intro j hj h8 h12 hb
    by_cases h : j < s.size
    · have hw := one_width s j h
      rw [rs_next h] at hb ⊢
      rw [List.any_cons, Bool.or_eq_false_iff] at hb
      have hne : (one s j).2 ≠ 0 := by
        intro h
        have := hb.1
        simp [badR, h] at this
      have e : max (one s j).2 1 = (one s j).2 := Nat.max_eq_left (by omega)
      rw [e] at hb ⊢
      rw [cutAt]
      split
      · omega
      · have := ih (j + (one s j).2) (by omega) (by omega) h12 hb.2
        omega
    · rw [rs_end h, cutAt]; omega

theorem cp_room {s : ByteArray} (h : chk s = 0) : cp s ≤ 8 ∧ s.size ≤ cp s + 8 ∧ (cp s < s.size → 5 ≤ cp s) := by
  obtain ⟨h1, h2, h3⟩ := chk_parts h
  have := cut_room s s.size 0 (by omega) (by omega) h1 h3
  unfold cp
  omega

/-- A name is read back. -/
theorem unp_sp {s : ByteArray} (h : chk s = 0) : unp (sp0 s) ++ unp (sp1 s) = nb s := by
  have hb := chk_bytes h
  obtain ⟨h1, h2, -⟩ := cp_room h
  unfold sp0 sp1
  rw [unp_pack (by rw [List.length_take]; omega) (fun b hb' => hb b (List.mem_of_mem_take hb')), unp_pack (by rw [List.length_drop, nb_length]; omega) (fun b hb' => hb b (List.mem_of_mem_drop hb')), List.take_append_drop]

theorem sp_back {s : ByteArray} (h : chk s = 0) : strOfNums (unp (sp0 s) ++ unp (sp1 s)) = s := by rw [unp_sp h, str_nb]

/-- Unlike names have unlike words. -/
theorem sp_inj {s t : ByteArray} (hs : chk s = 0) (ht : chk t = 0) (h0 : sp0 s = sp0 t) (h1 : sp1 s = sp1 t) : s = t := by
  rw [← sp_back hs, ← sp_back ht, h0, h1]

/-- They are not 0. -/
theorem sp_some {s : ByteArray} (hs : chk s = 0) : ¬ (sp0 s = 0 ∧ sp1 s = 0) := by
  rintro ⟨h0, h1⟩
  have := unp_sp hs
  rw [h0, h1, unp_zero] at this
  have h2 := nb_length s
  rw [← this] at h2
  have := (chk_parts hs).2.1
  simp at h2
  omega

end Go.Proofs.YtnbbcbjfejdceaaDoor
