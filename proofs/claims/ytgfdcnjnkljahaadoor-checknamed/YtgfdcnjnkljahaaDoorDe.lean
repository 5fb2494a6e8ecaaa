/-
  Entries by name rising, told plainly: which text is ahead of which, an entry put in its place, an entry less, how many have a bucket. (No program stands in this text.)
-/
import Derived.Test.YtgfdcnjnkljahaaDoorRh
namespace Go.Proofs.YtgfdcnjnkljahaaDoor
open Go.RowKit
set_option linter.unusedVariables false

/-! ### Byte by byte -/

/-- Is a row of bytes ahead of another? -/
def lx : List UInt8 → List UInt8 → Bool
  | [], [] => false
  | [], _ :: _ => true
  | _ :: _, [] => false
  | a :: l, b :: m => decide (a.toNat < b.toNat) || (decide (a.toNat = b.toNat) && lx l m)

theorem lx_cons (a b : UInt8) (l m : List UInt8) : lx (a :: l) (b :: m) = true ↔ a.toNat < b.toNat ∨ (a.toNat = b.toNat ∧ lx l m = true) := by
  rw [lx, Bool.or_eq_true, Bool.and_eq_true, decide_eq_true_eq, decide_eq_true_eq]

theorem lx_irrefl (l : List UInt8) : lx l l = false := by
  induction l with
  | nil => rfl
  | cons a l ih => rw [← Bool.not_eq_true, lx_cons, ih]; simp

theorem lx_trans (l : List UInt8) : ∀ m n, lx l m = true → lx m n = true → lx l n = true := by
  induction l with
  | nil =>
    intro m n h1 h2
    cases m with
    | nil => simp [lx] at h1
    | cons b m => cases n with
      | nil => simp [lx] at h2
      | cons c n => rfl
  | cons a l ih =>
    intro m n h1 h2
    cases m with
    | nil => simp [lx] at h1
    | cons b m => cases n with
      | nil => simp [lx] at h2
      | cons c n =>
        rw [lx_cons] at h1 h2 ⊢
        rcases h1 with h1 | ⟨h1, h3⟩
        · rcases h2 with h2 | ⟨h2, h4⟩
          · exact Or.inl (by omega)
          · exact Or.inl (by omega)
        · rcases h2 with h2 | ⟨h2, h4⟩
          · exact Or.inl (by omega)
          · exact Or.inr ⟨by omega, ih m n h3 h4⟩

theorem lx_tri (l : List UInt8) : ∀ m, l = m ∨ lx l m = true ∨ lx m l = true := by
  induction l with
  | nil => intro m; cases m with
    | nil => exact Or.inl rfl
    | cons b m => exact Or.inr (Or.inl rfl)
  | cons a l ih =>
    intro m
    cases m with
    | nil => exact Or.inr (Or.inr rfl)
    | cons b m =>
      rw [lx_cons, lx_cons]
      rcases Nat.lt_trichotomy a.toNat b.toNat with h | h | h
      · exact Or.inr (Or.inl (Or.inl h))
      · rcases ih m with h1 | h1 | h1
        · exact Or.inl (by rw [UInt8.toNat_inj.1 h, h1])
        · exact Or.inr (Or.inl (Or.inr ⟨h, h1⟩))
        · exact Or.inr (Or.inr (Or.inr ⟨h.symm, h1⟩))
      · exact Or.inr (Or.inr (Or.inl h))

/-- A byte apart, or the same and the rest. -/
theorem lx_drop_lt {l m : List UInt8} {i : Nat} (hi : i < l.length) (hj : i < m.length) (h : l[i].toNat ≠ m[i].toNat) : lx (l.drop i) (m.drop i) = decide (l[i].toNat < m[i].toNat) := by
  rw [List.drop_eq_getElem_cons hi, List.drop_eq_getElem_cons hj, lx]
  simp [h]

theorem lx_drop_eq {l m : List UInt8} {i : Nat} (hi : i < l.length) (hj : i < m.length) (h : l[i].toNat = m[i].toNat) : lx (l.drop i) (m.drop i) = lx (l.drop (i + 1)) (m.drop (i + 1)) := by
  rw [List.drop_eq_getElem_cons hi, List.drop_eq_getElem_cons hj, lx]
  simp [h]

theorem lx_drop_end {l m : List UInt8} {i : Nat} (h : l.length ≤ i ∨ m.length ≤ i) : lx (l.drop i) (m.drop i) = decide (l.length ≤ i ∧ i < m.length) := by
  by_cases h1 : l.length ≤ i
  · rw [List.drop_eq_nil_of_le h1]
    by_cases h2 : m.length ≤ i
    · rw [List.drop_eq_nil_of_le h2]; simp [lx]; omega
    · rw [List.drop_eq_getElem_cons (by omega)]; simp [lx]; omega
  · have h2 : m.length ≤ i := by omega
    rw [List.drop_eq_nil_of_le h2, List.drop_eq_getElem_cons (show i < l.length by omega)]
    simp [lx]; omega

/-- Is a text ahead of another, byte by byte? -/
def below (a b : ByteArray) : Bool := lx a.toList b.toList

theorem toList_inj {a b : ByteArray} (h : a.toList = b.toList) : a = b := by
  rw [ByteArray.toList_eq, ByteArray.toList_eq] at h
  apply ByteArray.ext
  exact Array.toList_inj.1 h

theorem below_irrefl (a : ByteArray) : below a a = false := lx_irrefl _
theorem below_trans {a b c : ByteArray} (h : below a b = true) (k : below b c = true) : below a c = true := lx_trans _ _ _ h k
theorem below_tri (a b : ByteArray) : a = b ∨ below a b = true ∨ below b a = true := by
  rcases lx_tri a.toList b.toList with h | h
  · exact Or.inl (toList_inj h)
  · exact Or.inr h
theorem below_ne {a b : ByteArray} (h : below a b = true) : a ≠ b := fun e => by rw [e, below_irrefl] at h; cases h

/-! ### Entries -/

/-- A name and a number. -/
abbrev En := ByteArray × Int

/-- By name rising. -/
def Rise (E : List En) : Prop := E.Pairwise fun x y => below x.1 y.1 = true

/-- An entry in its place. -/
def putE : List En → En → List En
  | [], e => [e]
  | x :: l, e => if below e.1 x.1 then e :: x :: l else x :: putE l e

theorem mem_put {E : List En} {e x : En} : x ∈ putE E e ↔ x = e ∨ x ∈ E := by
  induction E with
  | nil => simp [putE]
  | cons y l ih =>
    rw [putE]
    split
    · simp
    · rw [List.mem_cons, ih, List.mem_cons]
      constructor
      · rintro (h | h | h)
        · exact Or.inr (Or.inl h)
        · exact Or.inl h
        · exact Or.inr (Or.inr h)
      · rintro (h | h | h)
        · exact Or.inr (Or.inl h)
        · exact Or.inl h
        · exact Or.inr (Or.inr h)

theorem put_length (E : List En) (e : En) : (putE E e).length = E.length + 1 := by
  induction E with
  | nil => rfl
  | cons y l ih => rw [putE]; split <;> simp [ih]

theorem rise_put {E : List En} {e : En} (h : Rise E) (hn : ∀ x ∈ E, x.1 ≠ e.1) : Rise (putE E e) := by
  induction E with
  | nil => simp [putE, Rise]
  | cons y l ih =>
    unfold Rise at h ⊢
    rw [List.pairwise_cons] at h
    rw [putE]
    split
    · rename_i hb
      rw [List.pairwise_cons, List.pairwise_cons]
      refine ⟨fun z hz => ?_, h⟩
      rcases List.mem_cons.1 hz with rfl | hz
      · exact hb
      · exact below_trans hb (h.1 z hz)
    · rename_i hb
      rw [List.pairwise_cons]
      refine ⟨fun z hz => ?_, ih h.2 fun x hx => hn x (List.mem_cons_of_mem _ hx)⟩
      rcases mem_put.1 hz with rfl | hz
      · rcases below_tri y.1 z.1 with h1 | h1 | h1
        · exact absurd h1 (hn y (List.mem_cons_self ..))
        · exact h1
        · exact absurd h1 hb
      · exact h.1 z hz

/-- No two of the same name. -/
theorem rise_name {E : List En} (h : Rise E) {x y : En} (hx : x ∈ E) (hy : y ∈ E) (e : x.1 = y.1) : x = y := by
  induction E with
  | nil => cases hx
  | cons z l ih =>
    unfold Rise at h
    rw [List.pairwise_cons] at h
    rcases List.mem_cons.1 hx with h1 | h1
    · rcases List.mem_cons.1 hy with h2 | h2
      · rw [h1, h2]
      · exact absurd (h1 ▸ e) (below_ne (h.1 y h2))
    · rcases List.mem_cons.1 hy with h2 | h2
      · exact absurd (h2 ▸ e.symm) (below_ne (h.1 x h1))
      · exact ih h.2 h1 h2

theorem rise_nodup {E : List En} (h : Rise E) : E.Nodup := List.Pairwise.imp (fun hb e => by rw [e, below_irrefl] at hb; cases hb) h

/-- Two rows by name rising that have the same entries are one. -/
theorem rise_ext {E : List En} : ∀ {F : List En}, Rise E → Rise F → (∀ x, x ∈ E ↔ x ∈ F) → E = F := by
  induction E with
  | nil =>
    intro F _ _ h
    cases F with
    | nil => rfl
    | cons y m => exact absurd ((h y).2 (List.mem_cons_self ..)) (by simp)
  | cons x l ih =>
    intro F hE hF h
    cases F with
    | nil => exact absurd ((h x).1 (List.mem_cons_self ..)) (by simp)
    | cons y m =>
      unfold Rise at hE hF
      rw [List.pairwise_cons] at hE hF
      have hxy : x = y := by
        rcases List.mem_cons.1 ((h x).1 (List.mem_cons_self ..)) with h1 | h1
        · exact h1
        · rcases List.mem_cons.1 ((h y).2 (List.mem_cons_self ..)) with h2 | h2
          · exact h2.symm
          · have := below_trans (hF.1 x h1) (hE.1 y h2)
            rw [below_irrefl] at this; cases this
      subst hxy
      have hn1 : x ∉ l := fun hx => by have := hE.1 x hx; rw [below_irrefl] at this; cases this
      have hn2 : x ∉ m := fun hx => by have := hF.1 x hx; rw [below_irrefl] at this; cases this
      rw [ih hE.2 hF.2 fun z => ⟨fun hz => ?_, fun hz => ?_⟩]
      · rcases List.mem_cons.1 ((h z).1 (List.mem_cons_of_mem _ hz)) with h1 | h1
        · exact absurd (h1 ▸ hz) hn1
        · exact h1
      · rcases List.mem_cons.1 ((h z).2 (List.mem_cons_of_mem _ hz)) with h1 | h1
        · exact absurd (h1 ▸ hz) hn2
        · exact h1

theorem rise_drop {E : List En} (h : Rise E) (k : Nat) : Rise (E.eraseIdx k) := List.Pairwise.sublist (List.eraseIdx_sublist ..) h

theorem mem_drop {E : List En} (h : Rise E) {k : Nat} (hk : k < E.length) {x : En} : x ∈ E.eraseIdx k ↔ x ∈ E ∧ x.1 ≠ (E[k]).1 := by
  rw [List.mem_eraseIdx_iff_getElem]
  constructor
  · rintro ⟨i, hi, hne, rfl⟩
    refine ⟨List.getElem_mem .., fun e => ?_⟩
    have := rise_name h (List.getElem_mem hi) (List.getElem_mem hk) e
    have hp := List.pairwise_iff_getElem.1 (rise_nodup h)
    rcases Nat.lt_trichotomy i k with h1 | h1 | h1
    · exact hp i k hi hk h1 this
    · exact hne h1
    · exact hp k i hk hi h1 this.symm
  · rintro ⟨hx, hne⟩
    obtain ⟨i, hi, rfl⟩ := List.getElem_of_mem hx
    exact ⟨i, hi, fun e => by subst e; exact hne rfl, rfl⟩

/-! ### How many have a bucket -/

/-- The bucket of a text. -/
def bkt (s : ByteArray) : Int := hashL (rs s 0) 7 % 8

theorem bkt_range (s : ByteArray) : 0 ≤ bkt s ∧ bkt s < 8 := by unfold bkt; omega

/-- How many names but one have a bucket. -/
def many (E : List En) (b : Int) (but : ByteArray) : Nat := (E.filter fun e => decide (e.1 ≠ but) && bkt e.1 == b).length

/-- It does not hang on the row. -/
theorem many_of {E F : List En} (hE : E.Nodup) (hF : F.Nodup) (h : ∀ x, x ∈ E ↔ x ∈ F) (b : Int) (but : ByteArray) : many E b but = many F b but := by
  unfold many
  exact (((List.perm_ext_iff_of_nodup hE hF).2 h).filter _).length_eq

theorem many_take (E : List En) (b : Int) (but : ByteArray) {i : Nat} (hi : i < E.length) : many (E.take (i + 1)) b but = many (E.take i) b but + if (E[i]).1 ≠ but ∧ bkt (E[i]).1 = b then 1 else 0 := by
  unfold many
  rw [List.take_add_one, List.filter_append, List.length_append]
  have : E[i]? = some E[i] := List.getElem?_eq_getElem hi
  rw [this]
  by_cases h : (E[i]).1 ≠ but ∧ bkt (E[i]).1 = b
  · rw [if_pos h]; simp [h.1, h.2]
  · rw [if_neg h]
    simp
    exact fun h1 h2 => h ⟨h1, h2⟩

end Go.Proofs.YtgfdcnjnkljahaaDoor
