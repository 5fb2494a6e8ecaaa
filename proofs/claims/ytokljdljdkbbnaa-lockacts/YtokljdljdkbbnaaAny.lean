/-
  A call of package lock at whatever core and place, held against the law's own.
-/
import Derived.Test.YtokljdljdkbbnaaJoint
namespace Go.Proofs.Ytokljdljdkbbnaa
open Go.RowKit
set_option linter.unusedVariables false

/-- The arena of the law refuses this core or place. -/
def Bad (c k : Int) : Prop := (c < 0 ∨ 2 < c) ∨ (k < 0 ∨ 3 < k)

/-- What a call answers: refused, with nothing turned; or as plain does. -/
def Ans (n : Nat) (K c k V : Int) (A A' : Ar) (v : Int) (is : Bool) (f : Int) : Prop :=
  (Bad c k ∧ A' = A ∧ v = 0 ∧ is = false ∧ f = 500) ∨ (∃ i j : Nat, i < 3 ∧ j < 4 ∧ c = (i : Int) ∧ k = (j : Int) ∧ ∃ t, Do n K i j V A A' v is f t)

theorem bad_or (c k : Int) : Bad c k ∨ ∃ i j : Nat, i < 3 ∧ j < 4 ∧ c = (i : Int) ∧ k = (j : Int) := by
  by_cases h : Bad c k
  · exact Or.inl h
  · unfold Bad at h
    exact Or.inr ⟨c.toNat, k.toNat, by omega, by omega, by omega, by omega⟩

theorem Bad.of {n : Nat} {A : Ar} (ha : Ok n A) {c k : Int} (h : Bad c k) : (c < 0 ∨ (A.traces.length : Int) ≤ c) ∨ (k < 0 ∨ (A.words.length : Int) ≤ k) := by
  unfold Bad at h
  rw [ha.few.cores, ha.len]
  omega

theorem any0 {S : List (Nat × Obj)} {w0 w : World} {b : Nat} {A : Ar} (h : Hs S w0 w b A) {n : Nat} (ha : Ok n A) (hn : n ≤ 200) (hcl : Clean A) (c k V : Int) :
    Calls Try.prog 10 #[.pointer (some ⟨b, 0, none⟩), .int .i64 c, .int .i64 k] w fun e w' => ∃ is f A', e = .returned (.tuple #[.bool is, .int .i64 f]) ∧ Hs S w0 w' b A' ∧ Ans n 0 c k V A A' 0 is f := by
  rcases bad_or c k with hb | ⟨i, j, hi, hj, rfl, rfl⟩
  · refine (try_bad h c k (hb.of ha)).mono ?_
    rintro e w' ⟨rfl, hm⟩
    exact ⟨false, 500, A, rfl, hm, Or.inl ⟨hb, rfl, rfl, rfl, rfl⟩⟩
  · refine (do_try0 h ha hn hcl i j V hi hj).mono ?_
    rintro e w' ⟨is, A', t, rfl, hm, hD⟩
    exact ⟨is, 0, A', rfl, hm, Or.inr ⟨i, j, hi, hj, rfl, rfl, t, hD⟩⟩

theorem any1 {S : List (Nat × Obj)} {w0 w : World} {b : Nat} {A : Ar} (h : Hs S w0 w b A) {n : Nat} (ha : Ok n A) (hn : n ≤ 200) (hcl : Clean A) (c k V : Int) :
    Calls Try.prog 10 #[.pointer (some ⟨b, 0, none⟩), .int .i64 c, .int .i64 k] w fun e w' => ∃ is f A', e = .returned (.tuple #[.bool is, .int .i64 f]) ∧ Hs S w0 w' b A' ∧ Ans n 1 c k V A A' 0 is f := by
  rcases bad_or c k with hb | ⟨i, j, hi, hj, rfl, rfl⟩
  · refine (try_bad h c k (hb.of ha)).mono ?_
    rintro e w' ⟨rfl, hm⟩
    exact ⟨false, 500, A, rfl, hm, Or.inl ⟨hb, rfl, rfl, rfl, rfl⟩⟩
  · refine (do_try1 h ha hn hcl i j V hi hj).mono ?_
    rintro e w' ⟨is, A', t, rfl, hm, hD⟩
    exact ⟨is, 0, A', rfl, hm, Or.inr ⟨i, j, hi, hj, rfl, rfl, t, hD⟩⟩

theorem any2 {S : List (Nat × Obj)} {w0 w : World} {b : Nat} {A : Ar} (h : Hs S w0 w b A) {n : Nat} (ha : Ok n A) (hn : n ≤ 200) (hcl : Clean A) (c k V : Int) :
    Calls Try.prog 11 #[.pointer (some ⟨b, 0, none⟩), .int .i64 c, .int .i64 k] w fun e w' => ∃ f A', e = .returned (.int .i64 f) ∧ Hs S w0 w' b A' ∧ Ans n 2 c k V A A' 0 false f := by
  rcases bad_or c k with hb | ⟨i, j, hi, hj, rfl, rfl⟩
  · refine (unlock_bad h c k (hb.of ha)).mono ?_
    rintro e w' ⟨rfl, hm⟩
    exact ⟨500, A, rfl, hm, Or.inl ⟨hb, rfl, rfl, rfl, rfl⟩⟩
  · refine (do_unlock2 h ha hn hcl i j V hi hj).mono ?_
    rintro e w' ⟨f, A', t, rfl, hm, hD⟩
    exact ⟨f, A', rfl, hm, Or.inr ⟨i, j, hi, hj, rfl, rfl, t, hD⟩⟩

theorem any3 {S : List (Nat × Obj)} {w0 w : World} {b : Nat} {A : Ar} (h : Hs S w0 w b A) {n : Nat} (ha : Ok n A) (hn : n ≤ 200) (hcl : Clean A) (c k V : Int) :
    Calls Try.prog 11 #[.pointer (some ⟨b, 0, none⟩), .int .i64 c, .int .i64 k] w fun e w' => ∃ f A', e = .returned (.int .i64 f) ∧ Hs S w0 w' b A' ∧ Ans n 3 c k V A A' 0 false f := by
  rcases bad_or c k with hb | ⟨i, j, hi, hj, rfl, rfl⟩
  · refine (unlock_bad h c k (hb.of ha)).mono ?_
    rintro e w' ⟨rfl, hm⟩
    exact ⟨500, A, rfl, hm, Or.inl ⟨hb, rfl, rfl, rfl, rfl⟩⟩
  · refine (do_unlock3 h ha hn hcl i j V hi hj).mono ?_
    rintro e w' ⟨f, A', t, rfl, hm, hD⟩
    exact ⟨f, A', rfl, hm, Or.inr ⟨i, j, hi, hj, rfl, rfl, t, hD⟩⟩

theorem any4 {S : List (Nat × Obj)} {w0 w : World} {b : Nat} {A : Ar} (h : Hs S w0 w b A) {n : Nat} (ha : Ok n A) (hn : n ≤ 200) (hcl : Clean A) (c k V : Int) :
    Calls Try.prog 12 #[.pointer (some ⟨b, 0, none⟩), .int .i64 c, .int .i64 k] w fun e w' => ∃ v f A', e = .returned (.tuple #[.int .i64 v, .int .i64 f]) ∧ Hs S w0 w' b A' ∧ Ans n 4 c k V A A' v false f := by
  rcases bad_or c k with hb | ⟨i, j, hi, hj, rfl, rfl⟩
  · refine (holder_bad h c k (hb.of ha)).mono ?_
    rintro e w' ⟨rfl, hm⟩
    exact ⟨0, 500, A, rfl, hm, Or.inl ⟨hb, rfl, rfl, rfl, rfl⟩⟩
  · refine (do_holder h ha hn hcl i j V hi hj).mono ?_
    rintro e w' ⟨v, A', t, rfl, hm, hD⟩
    exact ⟨v, 0, A', rfl, hm, Or.inr ⟨i, j, hi, hj, rfl, rfl, t, hD⟩⟩

theorem any5 {S : List (Nat × Obj)} {w0 w : World} {b : Nat} {A : Ar} (h : Hs S w0 w b A) {n : Nat} (ha : Ok n A) (hn : n ≤ 200) (hcl : Clean A) (c k V : Int) :
    Calls Try.prog 13 #[.pointer (some ⟨b, 0, none⟩), .int .i64 c, .int .i64 k] w fun e w' => ∃ v is f A', e = .returned (.tuple #[.int .i64 v, .bool is, .int .i64 f]) ∧ Hs S w0 w' b A' ∧ Ans n 5 c k V A A' v is f := by
  rcases bad_or c k with hb | ⟨i, j, hi, hj, rfl, rfl⟩
  · refine (begin_bad h c k (hb.of ha)).mono ?_
    rintro e w' ⟨rfl, hm⟩
    exact ⟨0, false, 500, A, rfl, hm, Or.inl ⟨hb, rfl, rfl, rfl, rfl⟩⟩
  · refine (do_begin h ha hn hcl i j V hi hj).mono ?_
    rintro e w' ⟨v, is, A', t, rfl, hm, hD⟩
    exact ⟨v, is, 0, A', rfl, hm, Or.inr ⟨i, j, hi, hj, rfl, rfl, t, hD⟩⟩

theorem any6 {S : List (Nat × Obj)} {w0 w : World} {b : Nat} {A : Ar} (h : Hs S w0 w b A) {n : Nat} (ha : Ok n A) (hn : n ≤ 200) (hcl : Clean A) (c k V : Int) :
    Calls Try.prog 14 #[.pointer (some ⟨b, 0, none⟩), .int .i64 c, .int .i64 k, .int .i64 V] w fun e w' => ∃ is f A', e = .returned (.tuple #[.bool is, .int .i64 f]) ∧ Hs S w0 w' b A' ∧ Ans n 6 c k V A A' 0 is f := by
  rcases bad_or c k with hb | ⟨i, j, hi, hj, rfl, rfl⟩
  · refine (same_bad h c k V (hb.of ha)).mono ?_
    rintro e w' ⟨rfl, hm⟩
    exact ⟨false, 500, A, rfl, hm, Or.inl ⟨hb, rfl, rfl, rfl, rfl⟩⟩
  · refine (do_same h ha hn hcl i j V hi hj).mono ?_
    rintro e w' ⟨is, A', t, rfl, hm, hD⟩
    exact ⟨is, 0, A', rfl, hm, Or.inr ⟨i, j, hi, hj, rfl, rfl, t, hD⟩⟩

theorem any7 {S : List (Nat × Obj)} {w0 w : World} {b : Nat} {A : Ar} (h : Hs S w0 w b A) {n : Nat} (ha : Ok n A) (hn : n ≤ 200) (hcl : Clean A) (c k V : Int) (K : Int) (h0 : K ≠ 0) (h1 : K ≠ 1) (h2 : K ≠ 2) (h3 : K ≠ 3) (h4 : K ≠ 4) (h5 : K ≠ 5) (h6 : K ≠ 6) :
    Calls Try.prog 15 #[.pointer (some ⟨b, 0, none⟩), .int .i64 c, .int .i64 k] w fun e w' => ∃ f A', e = .returned (.int .i64 f) ∧ Hs S w0 w' b A' ∧ Ans n K c k V A A' 0 false f := by
  rcases bad_or c k with hb | ⟨i, j, hi, hj, rfl, rfl⟩
  · refine (turn_bad h c k (hb.of ha)).mono ?_
    rintro e w' ⟨rfl, hm⟩
    exact ⟨500, A, rfl, hm, Or.inl ⟨hb, rfl, rfl, rfl, rfl⟩⟩
  · refine (do_turn h ha hn hcl i j V hi hj K h0 h1 h2 h3 h4 h5 h6).mono ?_
    rintro e w' ⟨A', t, rfl, hm, hD⟩
    exact ⟨0, A', rfl, hm, Or.inr ⟨i, j, hi, hj, rfl, rfl, t, hD⟩⟩

end Go.Proofs.Ytokljdljdkbbnaa
