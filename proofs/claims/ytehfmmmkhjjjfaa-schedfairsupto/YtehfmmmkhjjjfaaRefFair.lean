/-
  The reference's Fair.
-/
import Derived.Test.YtehfmmmkhjjjfaaFair
namespace Go.Proofs.Ytehfmmmkhjjjfaa
open Go.RowKit
set_option linter.unusedSimpArgs false
set_option linter.unusedVariables false

/-- Is core c ready at step s? -/
def rdy (L : Nat → Nat) (B : Nat → Nat → Bool) (s c : Nat) : Bool := decide (c < L s) && B s c

theorem rdy_iff (L : Nat → Nat) (B : Nat → Nat → Bool) (s c : Nat) : rdy L B s c = true ↔ c < L s ∧ B s c = true := by simp [rdy]

set_option maxHeartbeats 400000 in
theorem is_any {w : World} {a : Option Addr} {n cp : Nat} {L : Nat → Nat} {B : Nat → Nat → Bool} (h : Gr w a n L B) (hn : n ≤ 1048576) (s c : Nat) (hs : s < n) :
    Calls Try.prog 24 #[.slice a n cp, .int .i64 (s : Int), .int .i64 (c : Int)] w fun e w' => e = .returned (.bool (rdy L B s c)) ∧ w' = w := by
  obtain ⟨b, off, A, C, rfl, x0, hBl⟩ := h s hs
  have HH : Hid (_) := h
  clear h
  have s0 : (0 : Int) ≤ (s : Int) := by omega
  have s1 : (s : Int) < (n : Int) := by omega
  by_cases hc : c < L s
  · obtain ⟨b2, off2, rfl, y0⟩ := hBl c hc
    have hr : rdy L B s c = B s c := by simp [rdy, hc]
    have HR : Hid (_ = _) := hr
    clear hr hBl
    have c0 : (0 : Int) ≤ (c : Int) := by omega
    have c1 : (c : Int) < (L s : Int) := by omega
    go_enter Try.func24, Try.ntmps24
    go_wp2
    go_ret
    exact ⟨by rw [HR.out]; rfl, rfl⟩
  · have hr : rdy L B s c = false := by simp [rdy, hc]
    have HR : Hid (_ = _) := hr
    clear hr hBl
    have c1 : ¬ (c : Int) < (L s : Int) := by omega
    go_enter Try.func24, Try.ntmps24
    go_wp2
    go_ret
    exact ⟨by rw [HR.out]; rfl, rfl⟩

/-- No window, begun ahead of i, in which a core is ready and passed over throughout. -/
def Clear (L : Nat → Nat) (B : Nat → Nat → Bool) (P : Nat → Int) (m i : Nat) : Prop := ∀ k, k < i → ∀ c, c < L k → ¬ ∀ j, k ≤ j → j < k + m → Bad L B P j c

/-- The same, of step i the cores ahead of c. -/
def Clear2 (L : Nat → Nat) (B : Nat → Nat → Bool) (P : Nat → Int) (m i c : Nat) : Prop := Clear L B P m i ∧ ∀ d, d < c → ¬ ∀ j, i ≤ j → j < i + m → Bad L B P j d

/-- Of the steps i to j - 1: ready at all, picked at some. -/
def Seen (L : Nat → Nat) (B : Nat → Nat → Bool) (P : Nat → Int) (i c j : Nat) (al so : Bool) : Prop := (al = true ↔ ∀ k, i ≤ k → k < j → rdy L B k c = true) ∧ (so = true ↔ ∃ k, i ≤ k ∧ k < j ∧ P k = (c : Int))

theorem Seen.start (L : Nat → Nat) (B : Nat → Nat → Bool) (P : Nat → Int) (i c : Nat) : Seen L B P i c i true false := by
  refine ⟨by simp; intro k h1 h2; omega, by simp; intro k h1 h2; omega⟩

theorem Seen.next {L : Nat → Nat} {B : Nat → Nat → Bool} {P : Nat → Int} {i c j : Nat} {al so : Bool} (h : Seen L B P i c j al so) (hij : i ≤ j) {al' so' : Bool} (ha : al' = (al && rdy L B j c)) (hs : so' = (so || decide (P j = (c : Int)))) : Seen L B P i c (j + 1) al' so' := by
  subst ha; subst hs
  constructor
  · rw [Bool.and_eq_true, h.1]
    constructor
    · rintro ⟨h1, h2⟩ k h3 h4
      by_cases e : k = j
      · subst e; exact h2
      · exact h1 k h3 (by omega)
    · intro h1
      exact ⟨fun k h3 h4 => h1 k h3 (by omega), h1 j hij (by omega)⟩
  · rw [Bool.or_eq_true, h.2, decide_eq_true_iff]
    constructor
    · rintro (⟨k, h1, h2, h3⟩ | h1)
      · exact ⟨k, h1, by omega, h3⟩
      · exact ⟨j, hij, by omega, h1⟩
    · rintro ⟨k, h1, h2, h3⟩
      by_cases e : k = j
      · subst e; exact Or.inr h3
      · exact Or.inl ⟨k, h1, by omega, h3⟩

theorem Seen.bad {L : Nat → Nat} {B : Nat → Nat → Bool} {P : Nat → Int} {i c m : Nat} {al so : Bool} (h : Seen L B P i c (i + m) al so) : (al && !so) = true ↔ ∀ j, i ≤ j → j < i + m → Bad L B P j c := by
  rw [Bool.and_eq_true, h.1, Bool.not_eq_true', ← Bool.not_eq_true, h.2]
  constructor
  · rintro ⟨h1, h2⟩ j h3 h4
    have := (rdy_iff L B j c).1 (h1 j h3 h4)
    exact ⟨this.1, this.2, fun e => h2 ⟨j, h3, h4, e⟩⟩
  · intro h1
    refine ⟨fun k h3 h4 => (rdy_iff L B k c).2 ⟨(h1 k h3 h4).1, (h1 k h3 h4).2.1⟩, ?_⟩
    rintro ⟨k, h3, h4, h5⟩
    exact (h1 k h3 h4).2.2 h5

end Go.Proofs.Ytehfmmmkhjjjfaa
