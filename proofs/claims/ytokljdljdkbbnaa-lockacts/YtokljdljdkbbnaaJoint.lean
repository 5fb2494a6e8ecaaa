/-
  A call of package lock, and what the law LockActs holds it against, one beside the other.
-/
import Derived.Test.YtokljdljdkbbnaaPlain
namespace Go.Proofs.Ytokljdljdkbbnaa
open Go.RowKit
set_option linter.unusedVariables false

theorem word_put (xs : List Int) (k j : Nat) (v : Int) (hk : k < xs.length) : wordAt (xs.set k v) j = if j = k then v else wordAt xs j := by
  unfold wordAt
  rw [List.getD, List.getD, List.getElem?_set]
  by_cases h : k = j
  · subst h; simp [hk]
  · rw [if_neg h, if_neg (fun e => h e.symm)]

/-- The state behind n acts. -/
structure Ok (n : Nat) (A : Ar) : Prop where
  len : A.words.length = 4
  lo : ∀ j, j < 4 → 0 ≤ wordAt A.words j
  hi : ∀ j, j < 4 → wordAt A.words j ≤ (n : Int) + 3
  few : Few 3 2 A

theorem Ok.start : Ok 0 (fresh 4 3) where
  len := by simp [fresh]
  lo := fun j hj => by
    have : wordAt (fresh 4 3).words j = 0 := by
      simp only [fresh, wordAt]
      rw [List.getD, List.getElem?_replicate, if_pos (by omega)]
      rfl
    omega
  hi := fun j hj => by
    have : wordAt (fresh 4 3).words j = 0 := by
      simp only [fresh, wordAt]
      rw [List.getD, List.getElem?_replicate, if_pos (by omega)]
      rfl
    omega
  few := (Few.fresh 4 3).mono (by omega)

theorem Ok.next {n : Nat} {A : Ar} (h : Ok n A) : Ok (n + 1) A := ⟨h.len, h.lo, fun j hj => by have := h.hi j hj; omega, h.few⟩

theorem Ok.clear {n : Nat} {A : Ar} (h : Ok n A) (c : Nat) (hc : c < 3) : Ok n (A.clear c) where
  len := h.len
  lo := h.lo
  hi := h.hi
  few := ⟨by rw [clear_cores]; exact h.few.cores, fun d => by
    rw [clear_trace _ _ _ (by rw [h.few.cores]; exact hc)]
    by_cases e : d = c
    · rw [if_pos e]; simp
    · rw [if_neg e]; exact h.few.many d⟩

theorem Ok.same {n : Nat} {A A' : Ar} (h : Ok n A) (hw : A'.words = A.words) (hf : Few 3 2 A') : Ok (n + 1) A' :=
  ⟨by rw [hw]; exact h.len, by rw [hw]; exact h.lo, fun j hj => by rw [hw]; have := h.hi j hj; omega, hf⟩

theorem Ok.put {n k : Nat} {z : Int} {A A' : Ar} (h : Ok n A) (hk : k < 4) (hw : A'.words = A.words.set k z) (z0 : 0 ≤ z) (z1 : z ≤ (n : Int) + 4) (hf : Few 3 2 A') : Ok (n + 1) A' where
  len := by rw [hw, List.length_set]; exact h.len
  lo := fun j hj => by
    rw [hw, word_put _ _ _ _ (by rw [h.len]; exact hk)]
    by_cases e : j = k
    · rw [if_pos e]; exact z0
    · rw [if_neg e]; exact h.lo j hj
  hi := fun j hj => by
    rw [hw, word_put _ _ _ _ (by rw [h.len]; exact hk)]
    by_cases e : j = k
    · rw [if_pos e]; omega
    · rw [if_neg e]; have := h.hi j hj; omega
  few := hf

/-- No core has an access. -/
def Clean (A : Ar) : Prop := ∀ d, A.traces.getD d [] = []

theorem Clean.few {A : Ar} (h : Clean A) (hc : A.traces.length = 3) : Few 3 0 A := ⟨hc, fun d => by rw [h d]; simp⟩

/-- A call turns A to A' and answers v, is, f, with the accesses t; plain does so too. -/
structure Do (n : Nat) (K : Int) (c k : Nat) (V : Int) (A A' : Ar) (v : Int) (is : Bool) (f : Int) (t : List (Int × Bool)) : Prop where
  ok : Ok (n + 1) A'
  trace : A'.traces.getD c [] = t
  short : t.length < 1000000
  plain : ∀ w g, w.heap[g]? = some (.cells (i64s A.words) 3 (0, 0)) →
    Calls Try.prog 16 #[.slice (some ⟨g, 0, none⟩) 4 4, .agg #[.int .i64 K, .int .i64 (c : Int), .int .i64 (k : Int), .int .i64 V]] w fun e w' => ∃ u, e = .returned (.tuple #[.int .i64 v, .bool is, .int .i64 f, u]) ∧ Row w' u t ∧ Kept [g] w w' ∧ w'.heap[g]? = some (.cells (i64s A'.words) 3 (0, 0))

theorem trace_one {A : Ar} (h : Clean A) (c k : Nat) (ch : Option Int) (hc : c < A.traces.length) : (A.touch c k ch).traces.getD c [] = [((k : Int), ch.isSome)] := by
  rw [touch_trace _ _ _ _ _ hc, if_pos rfl, h c]; rfl

theorem do_try0 {S : List (Nat × Obj)} {w0 w : World} {b : Nat} {A : Ar} (h : Hs S w0 w b A) {n : Nat} (ha : Ok n A) (hn : n ≤ 200) (hcl : Clean A) (c k : Nat) (V : Int) (hc : c < 3) (hk : k < 4) :
    Calls Try.prog 10 #[.pointer (some ⟨b, 0, none⟩), .int .i64 (c : Int), .int .i64 (k : Int)] w fun e w' => ∃ is A' t, e = .returned (.tuple #[.bool is, .int .i64 0]) ∧ Hs S w0 w' b A' ∧ Do n 0 c k V A A' 0 is 0 t := by
  have q1 : c < A.traces.length := by rw [ha.few.cores]; exact hc
  have f0 := hcl.few ha.few.cores
  have z0 := ha.lo k hk
  have z1 := ha.hi k hk
  by_cases hy : wordAt A.words k = 0
  · refine (try_yes h (c : Int) (k : Int) (by omega) (by rw [ha.few.cores]; omega) (by omega) (by rw [ha.len]; omega) (by rw [hcl]; simp) hy).mono ?_
    rintro e w' ⟨rfl, hm⟩
    exact ⟨true, _, _, rfl, hm, ⟨ha.put hk rfl (by omega) (by omega) ((f0.touch c k (some ((c : Int) + 1)) hc).mono (by omega)), trace_one hcl c k _ q1, by simp, fun W g hg => p_try_yes0 V _ c k g A.words W hg ha.len hc hk rfl hy⟩⟩
  · refine (try_no h (c : Int) (k : Int) (by omega) (by rw [ha.few.cores]; omega) (by omega) (by rw [ha.len]; omega) (by rw [hcl]; simp) hy).mono ?_
    rintro e w' ⟨rfl, hm⟩
    exact ⟨false, _, _, rfl, hm, ⟨ha.same rfl ((f0.touch c k none hc).mono (by omega)), trace_one hcl c k _ q1, by simp, fun W g hg => p_try_no0 V _ c k g A.words W hg ha.len hc hk rfl hy⟩⟩

theorem do_try1 {S : List (Nat × Obj)} {w0 w : World} {b : Nat} {A : Ar} (h : Hs S w0 w b A) {n : Nat} (ha : Ok n A) (hn : n ≤ 200) (hcl : Clean A) (c k : Nat) (V : Int) (hc : c < 3) (hk : k < 4) :
    Calls Try.prog 10 #[.pointer (some ⟨b, 0, none⟩), .int .i64 (c : Int), .int .i64 (k : Int)] w fun e w' => ∃ is A' t, e = .returned (.tuple #[.bool is, .int .i64 0]) ∧ Hs S w0 w' b A' ∧ Do n 1 c k V A A' 0 is 0 t := by
  have q1 : c < A.traces.length := by rw [ha.few.cores]; exact hc
  have f0 := hcl.few ha.few.cores
  have z0 := ha.lo k hk
  have z1 := ha.hi k hk
  by_cases hy : wordAt A.words k = 0
  · refine (try_yes h (c : Int) (k : Int) (by omega) (by rw [ha.few.cores]; omega) (by omega) (by rw [ha.len]; omega) (by rw [hcl]; simp) hy).mono ?_
    rintro e w' ⟨rfl, hm⟩
    exact ⟨true, _, _, rfl, hm, ⟨ha.put hk rfl (by omega) (by omega) ((f0.touch c k (some ((c : Int) + 1)) hc).mono (by omega)), trace_one hcl c k _ q1, by simp, fun W g hg => p_try_yes1 V _ c k g A.words W hg ha.len hc hk rfl hy⟩⟩
  · refine (try_no h (c : Int) (k : Int) (by omega) (by rw [ha.few.cores]; omega) (by omega) (by rw [ha.len]; omega) (by rw [hcl]; simp) hy).mono ?_
    rintro e w' ⟨rfl, hm⟩
    exact ⟨false, _, _, rfl, hm, ⟨ha.same rfl ((f0.touch c k none hc).mono (by omega)), trace_one hcl c k _ q1, by simp, fun W g hg => p_try_no1 V _ c k g A.words W hg ha.len hc hk rfl hy⟩⟩

theorem do_unlock2 {S : List (Nat × Obj)} {w0 w : World} {b : Nat} {A : Ar} (h : Hs S w0 w b A) {n : Nat} (ha : Ok n A) (hn : n ≤ 200) (hcl : Clean A) (c k : Nat) (V : Int) (hc : c < 3) (hk : k < 4) :
    Calls Try.prog 11 #[.pointer (some ⟨b, 0, none⟩), .int .i64 (c : Int), .int .i64 (k : Int)] w fun e w' => ∃ f A' t, e = .returned (.int .i64 f) ∧ Hs S w0 w' b A' ∧ Do n 2 c k V A A' 0 false f t := by
  have q1 : c < A.traces.length := by rw [ha.few.cores]; exact hc
  have f0 := hcl.few ha.few.cores
  have z0 := ha.lo k hk
  have z1 := ha.hi k hk
  by_cases hy : wordAt A.words k = (c : Int) + 1
  · refine (unlock_yes h (c : Int) (k : Int) (by omega) (by rw [ha.few.cores]; omega) (by omega) (by rw [ha.len]; omega) (by rw [hcl]; simp) hy).mono ?_
    rintro e w' ⟨rfl, hm⟩
    exact ⟨0, _, _, rfl, hm, ⟨ha.put hk rfl (by omega) (by omega) ((f0.touch c k none hc).touch c k (some 0) hc), by show ((A.touch c k none).touch c k (some 0)).traces.getD c [] = _; rw [touch_trace _ _ _ _ _ (by rw [touch_cores]; exact q1), if_pos rfl, trace_one hcl c k none q1]; rfl, by simp, fun W g hg => p_unlock_yes2 V _ c k g A.words W hg ha.len hc hk rfl hy⟩⟩
  · refine (unlock_no h (c : Int) (k : Int) (by omega) (by rw [ha.few.cores]; omega) (by omega) (by rw [ha.len]; omega) (by rw [hcl]; simp) hy).mono ?_
    rintro e w' ⟨rfl, hm⟩
    exact ⟨501, _, _, rfl, hm, ⟨ha.same rfl ((f0.touch c k none hc).mono (by omega)), trace_one hcl c k _ q1, by simp, fun W g hg => p_unlock_no2 V _ c k g A.words W hg ha.len hc hk rfl hy⟩⟩

theorem do_unlock3 {S : List (Nat × Obj)} {w0 w : World} {b : Nat} {A : Ar} (h : Hs S w0 w b A) {n : Nat} (ha : Ok n A) (hn : n ≤ 200) (hcl : Clean A) (c k : Nat) (V : Int) (hc : c < 3) (hk : k < 4) :
    Calls Try.prog 11 #[.pointer (some ⟨b, 0, none⟩), .int .i64 (c : Int), .int .i64 (k : Int)] w fun e w' => ∃ f A' t, e = .returned (.int .i64 f) ∧ Hs S w0 w' b A' ∧ Do n 3 c k V A A' 0 false f t := by
  have q1 : c < A.traces.length := by rw [ha.few.cores]; exact hc
  have f0 := hcl.few ha.few.cores
  have z0 := ha.lo k hk
  have z1 := ha.hi k hk
  by_cases hy : wordAt A.words k = (c : Int) + 1
  · refine (unlock_yes h (c : Int) (k : Int) (by omega) (by rw [ha.few.cores]; omega) (by omega) (by rw [ha.len]; omega) (by rw [hcl]; simp) hy).mono ?_
    rintro e w' ⟨rfl, hm⟩
    exact ⟨0, _, _, rfl, hm, ⟨ha.put hk rfl (by omega) (by omega) ((f0.touch c k none hc).touch c k (some 0) hc), by show ((A.touch c k none).touch c k (some 0)).traces.getD c [] = _; rw [touch_trace _ _ _ _ _ (by rw [touch_cores]; exact q1), if_pos rfl, trace_one hcl c k none q1]; rfl, by simp, fun W g hg => p_unlock_yes3 V _ c k g A.words W hg ha.len hc hk rfl hy⟩⟩
  · refine (unlock_no h (c : Int) (k : Int) (by omega) (by rw [ha.few.cores]; omega) (by omega) (by rw [ha.len]; omega) (by rw [hcl]; simp) hy).mono ?_
    rintro e w' ⟨rfl, hm⟩
    exact ⟨501, _, _, rfl, hm, ⟨ha.same rfl ((f0.touch c k none hc).mono (by omega)), trace_one hcl c k _ q1, by simp, fun W g hg => p_unlock_no3 V _ c k g A.words W hg ha.len hc hk rfl hy⟩⟩

theorem do_holder {S : List (Nat × Obj)} {w0 w : World} {b : Nat} {A : Ar} (h : Hs S w0 w b A) {n : Nat} (ha : Ok n A) (hn : n ≤ 200) (hcl : Clean A) (c k : Nat) (V : Int) (hc : c < 3) (hk : k < 4) :
    Calls Try.prog 12 #[.pointer (some ⟨b, 0, none⟩), .int .i64 (c : Int), .int .i64 (k : Int)] w fun e w' => ∃ v A' t, e = .returned (.tuple #[.int .i64 v, .int .i64 0]) ∧ Hs S w0 w' b A' ∧ Do n 4 c k V A A' v false 0 t := by
  have q1 : c < A.traces.length := by rw [ha.few.cores]; exact hc
  have f0 := hcl.few ha.few.cores
  have z0 := ha.lo k hk
  have z1 := ha.hi k hk
  have hp : ∀ W g, W.heap[g]? = some (.cells (i64s A.words) 3 (0, 0)) → Calls Try.prog 16 #[.slice (some ⟨g, 0, none⟩) 4 4, .agg #[.int .i64 4, .int .i64 (c : Int), .int .i64 (k : Int), .int .i64 V]] W fun e w' => ∃ u, e = .returned (.tuple #[.int .i64 (holds A.traces.length (wordAt A.words k)), .bool false, .int .i64 0, u]) ∧ Row w' u [((k : Int), false)] ∧ Kept [g] W w' ∧ w'.heap[g]? = some (.cells (i64s A.words) 3 (0, 0)) := by
    intro W g hg
    rw [ha.few.cores]
    by_cases h1 : wordAt A.words k < 1
    · rw [show holds 3 (wordAt A.words k) = -1 from by unfold holds; rw [if_neg (by omega)]]
      exact p_holder_low V _ c k g A.words W hg ha.len hc hk rfl h1
    · by_cases h2 : 3 < wordAt A.words k
      · rw [show holds 3 (wordAt A.words k) = -1 from by unfold holds; rw [if_neg (by omega)]]
        exact p_holder_high V _ c k g A.words W hg ha.len hc hk rfl h2
      · rw [show holds 3 (wordAt A.words k) = wordAt A.words k - 1 from by unfold holds; rw [if_pos (by omega)]]
        exact p_holder_some V _ c k g A.words W hg ha.len hc hk rfl (by omega) (by omega)
  refine (holder_any h (c : Int) (k : Int) (by omega) (by rw [ha.few.cores]; omega) (by omega) (by rw [ha.len]; omega) (by rw [hcl]; simp)).mono ?_
  rintro e w' ⟨rfl, hm⟩
  exact ⟨_, _, _, rfl, hm, ⟨ha.same rfl ((f0.touch c k none hc).mono (by omega)), trace_one hcl c k _ q1, by simp, fun W g hg => hp W g hg⟩⟩

theorem do_begin {S : List (Nat × Obj)} {w0 w : World} {b : Nat} {A : Ar} (h : Hs S w0 w b A) {n : Nat} (ha : Ok n A) (hn : n ≤ 200) (hcl : Clean A) (c k : Nat) (V : Int) (hc : c < 3) (hk : k < 4) :
    Calls Try.prog 13 #[.pointer (some ⟨b, 0, none⟩), .int .i64 (c : Int), .int .i64 (k : Int)] w fun e w' => ∃ v is A' t, e = .returned (.tuple #[.int .i64 v, .bool is, .int .i64 0]) ∧ Hs S w0 w' b A' ∧ Do n 5 c k V A A' v is 0 t := by
  have q1 : c < A.traces.length := by rw [ha.few.cores]; exact hc
  have f0 := hcl.few ha.few.cores
  have z0 := ha.lo k hk
  have z1 := ha.hi k hk
  refine (begin_any h (c : Int) (k : Int) (by omega) (by rw [ha.few.cores]; omega) (by omega) (by rw [ha.len]; omega) (by rw [hcl]; simp)).mono ?_
  rintro e w' ⟨rfl, hm⟩
  exact ⟨_, _, _, _, rfl, hm, ⟨ha.same rfl ((f0.touch c k none hc).mono (by omega)), trace_one hcl c k _ q1, by simp, fun W g hg => p_begin V _ c k g A.words W hg ha.len hc hk rfl z0⟩⟩

theorem do_same {S : List (Nat × Obj)} {w0 w : World} {b : Nat} {A : Ar} (h : Hs S w0 w b A) {n : Nat} (ha : Ok n A) (hn : n ≤ 200) (hcl : Clean A) (c k : Nat) (V : Int) (hc : c < 3) (hk : k < 4) :
    Calls Try.prog 14 #[.pointer (some ⟨b, 0, none⟩), .int .i64 (c : Int), .int .i64 (k : Int), .int .i64 V] w fun e w' => ∃ is A' t, e = .returned (.tuple #[.bool is, .int .i64 0]) ∧ Hs S w0 w' b A' ∧ Do n 6 c k V A A' 0 is 0 t := by
  have q1 : c < A.traces.length := by rw [ha.few.cores]; exact hc
  have f0 := hcl.few ha.few.cores
  have z0 := ha.lo k hk
  have z1 := ha.hi k hk
  refine (same_word h (c : Int) (k : Int) V (by omega) (by rw [ha.few.cores]; omega) (by omega) (by rw [ha.len]; omega) (by rw [hcl]; simp)).mono ?_
  rintro e w' ⟨rfl, hm⟩
  exact ⟨_, _, _, rfl, hm, ⟨ha.same rfl ((f0.touch c k none hc).mono (by omega)), trace_one hcl c k _ q1, by simp, fun W g hg => p_same V _ c k g A.words W hg ha.len hc hk rfl⟩⟩

theorem do_turn {S : List (Nat × Obj)} {w0 w : World} {b : Nat} {A : Ar} (h : Hs S w0 w b A) {n : Nat} (ha : Ok n A) (hn : n ≤ 200) (hcl : Clean A) (c k : Nat) (V : Int) (hc : c < 3) (hk : k < 4) (K : Int) (h0 : K ≠ 0) (h1 : K ≠ 1) (h2 : K ≠ 2) (h3 : K ≠ 3) (h4 : K ≠ 4) (h5 : K ≠ 5) (h6 : K ≠ 6) :
    Calls Try.prog 15 #[.pointer (some ⟨b, 0, none⟩), .int .i64 (c : Int), .int .i64 (k : Int)] w fun e w' => ∃ A' t, e = .returned (.int .i64 0) ∧ Hs S w0 w' b A' ∧ Do n K c k V A A' 0 false 0 t := by
  have q1 : c < A.traces.length := by rw [ha.few.cores]; exact hc
  have f0 := hcl.few ha.few.cores
  have z0 := ha.lo k hk
  have z1 := ha.hi k hk
  have hw : wrap64 (wordAt A.words k + 1) = wordAt A.words k + 1 := wrap_small _ (by omega) (by omega)
  refine (turn_any h (c : Int) (k : Int) (by omega) (by rw [ha.few.cores]; omega) (by omega) (by rw [ha.len]; omega) (by rw [hcl]; simp)).mono ?_
  rintro e w' ⟨rfl, hm⟩
  exact ⟨_, _, rfl, hm, ⟨ha.put hk rfl (by rw [show (k : Int).toNat = k from rfl, hw]; omega) (by rw [show (k : Int).toNat = k from rfl, hw]; omega) ((f0.touch c k _ hc).mono (by omega)), trace_one hcl c k _ q1, by simp, fun W g hg => p_turn K V _ c k g A.words W hg ha.len hc hk rfl h0 h1 h2 h3 h4 h5 h6⟩⟩

end Go.Proofs.Ytokljdljdkbbnaa
