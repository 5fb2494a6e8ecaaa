/-
  What calls make of traces: how many accesses, at most.
-/
import Derived.Test.YtokljdljdkbbnaaAwake
namespace Go.Proofs.Ytokljdljdkbbnaa
open Go.RowKit
set_option linter.unusedVariables false

/-- As many cores; each trace at most d accesses longer. -/
structure Grew (d : Nat) (A A' : Ar) : Prop where
  cores : A'.traces.length = A.traces.length
  many : ∀ c, (A'.traces.getD c []).length ≤ (A.traces.getD c []).length + d

theorem Grew.touch (A : Ar) (c k : Nat) (ch : Option Int) (hc : c < A.traces.length) : Grew 1 A (A.touch c k ch) where
  cores := touch_cores ..
  many := fun d => by
    rw [touch_trace _ _ _ _ _ hc]
    by_cases e : d = c
    · subst e; rw [if_pos rfl, List.length_append]; exact Nat.le_refl _
    · rw [if_neg e]; omega

theorem Grew.trans {d e : Nat} {A B C : Ar} (h : Grew d A B) (k : Grew e B C) : Grew (d + e) A C where
  cores := k.cores.trans h.cores
  many := fun c => by
    have h1 := h.many c
    have h2 := k.many c
    omega

/-- m cores, and no trace longer than n. -/
structure Few (m n : Nat) (A : Ar) : Prop where
  cores : A.traces.length = m
  many : ∀ c, (A.traces.getD c []).length ≤ n

theorem Few.fresh (n m : Nat) : Few m 0 (fresh n m) where
  cores := by simp [Go.Proofs.Ytokljdljdkbbnaa.fresh]
  many := fun c => by
    show ((List.replicate m ([] : List (Int × Bool))).getD c []).length ≤ 0
    rw [List.getD, List.getElem?_replicate]
    by_cases h : c < m
    · rw [if_pos h]; exact Nat.le_refl _
    · rw [if_neg h]; exact Nat.le_refl _

theorem Few.grew {m n d : Nat} {A B : Ar} (h : Few m n A) (k : Grew d A B) : Few m (n + d) B where
  cores := k.cores.trans h.cores
  many := fun c => by
    have h1 := h.many c
    have h2 := k.many c
    omega

theorem Few.touch {m n : Nat} {A : Ar} (h : Few m n A) (c k : Nat) (ch : Option Int) (hc : c < m) : Few m (n + 1) (A.touch c k ch) :=
  h.grew (Grew.touch A c k ch (by rw [h.cores]; exact hc))

theorem Few.mono {m n n' : Nat} {A : Ar} (h : Few m n A) (hn : n ≤ n') : Few m n' A := ⟨h.cores, fun c => Nat.le_trans (h.many c) hn⟩

end Go.Proofs.Ytokljdljdkbbnaa
