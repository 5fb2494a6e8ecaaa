/-
  For how many steps on end a core is ready and passed over; what is fair. Plain.
-/
import Derived.Test.YtehfmmmkhjjjfaaZeros
namespace Go.Proofs.Ytehfmmmkhjjjfaa

/-- Core c is ready at step s, and passed over. -/
def Bad (L : Nat → Nat) (B : Nat → Nat → Bool) (P : Nat → Int) (s c : Nat) : Prop := c < L s ∧ B s c = true ∧ P s ≠ (c : Int)

instance (L : Nat → Nat) (B : Nat → Nat → Bool) (P : Nat → Int) (s c : Nat) : Decidable (Bad L B P s c) := by unfold Bad; infer_instance

/-- For how many steps on end, up to step s. -/
def run (L : Nat → Nat) (B : Nat → Nat → Bool) (P : Nat → Int) : Nat → Nat → Nat
  | 0, _ => 0
  | s + 1, c => if Bad L B P s c then run L B P s c + 1 else 0

/-- No core waits for so long. -/
def Fine (L : Nat → Nat) (B : Nat → Nat → Bool) (P : Nat → Int) (K : Nat) (W : Int) : Prop := ∀ s, s ≤ K → ∀ c, (run L B P s c : Int) < W

theorem run_ge (L : Nat → Nat) (B : Nat → Nat → Bool) (P : Nat → Int) (c : Nat) : ∀ s m, m ≤ run L B P s c ↔ m ≤ s ∧ ∀ j, s ≤ j + m → j < s → Bad L B P j c
  | 0, m => by simp [run]
  | s + 1, 0 => by
    simp only [Nat.zero_le, true_and, true_iff]
    intro j h1 h2; omega
  | s + 1, m + 1 => by
    have ih := run_ge L B P c s m
    simp only [run]
    by_cases hb : Bad L B P s c
    · rw [if_pos hb]
      constructor
      · intro h
        obtain ⟨h1, h2⟩ := ih.1 (by omega)
        refine ⟨by omega, fun j h3 h4 => ?_⟩
        by_cases e : j = s
        · subst e; exact hb
        · exact h2 j (by omega) (by omega)
      · rintro ⟨h1, h2⟩
        have := ih.2 ⟨by omega, fun j h3 h4 => h2 j (by omega) (by omega)⟩
        omega
    · rw [if_neg hb]
      constructor
      · intro h; omega
      · rintro ⟨h1, h2⟩
        exact absurd (h2 s (by omega) (by omega)) hb

/-- Window by window. -/
theorem fine_iff (L : Nat → Nat) (B : Nat → Nat → Bool) (P : Nat → Int) (K m : Nat) (hm : 1 ≤ m) :
    Fine L B P K (m : Int) ↔ ∀ i, i + m ≤ K → ∀ c, c < L i → ¬ ∀ j, i ≤ j → j < i + m → Bad L B P j c := by
  constructor
  · intro h i hi c hc hall
    have h1 := h (i + m) hi c
    have h2 := (run_ge L B P c (i + m) m).2 ⟨by omega, fun j h3 h4 => hall j (by omega) h4⟩
    omega
  · intro h s hs c
    by_cases hlt : run L B P s c < m
    · omega
    · obtain ⟨h1, h2⟩ := (run_ge L B P c s m).1 (by omega)
      exact absurd (fun j h3 h4 => h2 j (by omega) (by omega)) (h (s - m) (by omega) c (h2 (s - m) (by omega) (by omega)).1)

theorem Fine.wider {L : Nat → Nat} {B : Nat → Nat → Bool} {P : Nat → Int} {K : Nat} {W V : Int} (h : Fine L B P K W) (hw : W ≤ V) : Fine L B P K V := fun s hs c => by
  have := h s hs c
  omega

theorem run_le (L : Nat → Nat) (B : Nat → Nat → Bool) (P : Nat → Int) : ∀ s c, run L B P s c ≤ s
  | 0, _ => Nat.le_refl _
  | s + 1, c => by
    have := run_le L B P s c
    simp only [run]
    split <;> omega

theorem run_bad {L : Nat → Nat} {B : Nat → Nat → Bool} {P : Nat → Int} {s c : Nat} (h : Bad L B P s c) : run L B P (s + 1) c = run L B P s c + 1 := by simp [run, h]

theorem run_not {L : Nat → Nat} {B : Nat → Nat → Bool} {P : Nat → Int} {s c : Nat} (h : ¬ Bad L B P s c) : run L B P (s + 1) c = 0 := by simp [run, h]

/-- Waits for n cores: those behind are cut off, new ones begin at 0. -/
def fitl (xs : List Int) (n : Nat) : List Int := (xs ++ List.replicate (n - xs.length) 0).take n

theorem fitl_length (xs : List Int) (n : Nat) : (fitl xs n).length = n := by simp [fitl]; omega

theorem fitl_get (xs : List Int) (n c : Nat) (hc : c < n) : (fitl xs n).getD c 0 = xs.getD c 0 := by
  simp only [fitl, List.getD, List.getElem?_take_of_lt hc, List.getElem?_append]
  split
  · rfl
  · rename_i h
    rw [List.getElem?_eq_none (by omega : xs.length ≤ c)]
    rw [List.getElem?_replicate]
    split <;> rfl

/-- Within step s, the cores ahead of c looked at. -/
structure Mid (L : Nat → Nat) (B : Nat → Nat → Bool) (P : Nat → Int) (W : Int) (s c : Nat) (ys : List Int) : Prop where
  len : ys.length = L s
  front : ∀ d, d < c → d < L s → ys.getD d 0 = (run L B P (s + 1) d : Int) ∧ (run L B P (s + 1) d : Int) < W
  rest : ∀ d, c ≤ d → d < L s → ys.getD d 0 = (run L B P s d : Int)
  ahead : Fine L B P s W

/-- Ahead of step s. -/
structure Top (L : Nat → Nat) (B : Nat → Nat → Bool) (P : Nat → Int) (W : Int) (s : Nat) (xs : List Int) : Prop where
  len : xs.length ≤ 1048576
  each : ∀ c, xs.getD c 0 = (run L B P s c : Int)
  ahead : Fine L B P s W

theorem Top.start (L : Nat → Nat) (B : Nat → Nat → Bool) (P : Nat → Int) {W : Int} (hW : 1 ≤ W) : Top L B P W 0 [] :=
  ⟨by simp, fun c => by simp [run], fun s hs c => by
    have : s = 0 := by omega
    subst this
    simp only [run]; omega⟩

theorem Top.mid {L : Nat → Nat} {B : Nat → Nat → Bool} {P : Nat → Int} {W : Int} {s : Nat} {xs : List Int} (h : Top L B P W s xs) : Mid L B P W s 0 (fitl xs (L s)) :=
  ⟨fitl_length _ _, fun d h1 => by omega, fun d _ hd => by rw [fitl_get _ _ _ hd]; exact h.each d, h.ahead⟩

theorem getD_set (ys : List Int) (c d : Nat) (y : Int) (hc : c < ys.length) : (ys.set c y).getD d 0 = if d = c then y else ys.getD d 0 := by
  simp only [List.getD, List.getElem?_set]
  by_cases h : c = d
  · subst h; simp [hc]
  · rw [if_neg h, if_neg (fun e => h e.symm)]

theorem Mid.next {L : Nat → Nat} {B : Nat → Nat → Bool} {P : Nat → Int} {W : Int} {s c : Nat} {ys : List Int} (h : Mid L B P W s c ys) (hc : c < L s) {y : Int} (hy : y = (run L B P (s + 1) c : Int)) (hlt : y < W) : Mid L B P W s (c + 1) (ys.set c y) := by
  have hl := h.len
  refine ⟨by simpa using h.len, fun d h1 h2 => ?_, fun d h1 h2 => ?_, h.ahead⟩
  · rw [getD_set _ _ _ _ (by omega)]
    by_cases e : d = c
    · subst e; rw [if_pos rfl]; exact ⟨hy, by omega⟩
    · rw [if_neg e]; exact h.front d (by omega) h2
  · rw [getD_set _ _ _ _ (by omega), if_neg (by omega)]
    exact h.rest d (by omega) h2

theorem Mid.top {L : Nat → Nat} {B : Nat → Nat → Bool} {P : Nat → Int} {W : Int} {s : Nat} {ys : List Int} (h : Mid L B P W s (L s) ys) (hL : L s ≤ 1048576) (hW : 1 ≤ W) : Top L B P W (s + 1) ys := by
  have hl := h.len
  have hz : ∀ c, L s ≤ c → run L B P (s + 1) c = 0 := fun c hc => run_not fun hb => by have := hb.1; omega
  refine ⟨by omega, fun c => ?_, fun t ht c => ?_⟩
  · by_cases hc : c < L s
    · exact (h.front c hc hc).1
    · rw [hz c (by omega)]
      simp only [List.getD, List.getElem?_eq_none (show ys.length ≤ c by omega)]
      rfl
  · by_cases e : t = s + 1
    · subst e
      by_cases hc : c < L s
      · exact (h.front c hc hc).2
      · rw [hz c (by omega)]; omega
    · exact h.ahead t (by omega) c

end Go.Proofs.Ytehfmmmkhjjjfaa
