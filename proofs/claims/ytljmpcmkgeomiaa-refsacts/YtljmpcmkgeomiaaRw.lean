/-
  Counts of package refs: a word read, written, added to.
-/
import Derived.Test.YtljmpcmkgeomiaaRs
namespace Go.Proofs.Ytljmpcmkgeomiaa
open Go.RowKit
set_option linter.unusedVariables false

section
variable {P : Nat → Nat → Prop} {S : List (Nat × Obj)} {w0 w : World} {b g f n k L N : Nat} {W : Nat → Nat → Int}

theorem touch_many {A : Ar} {N : Nat} (h : ∀ c, (A.traces.getD c []).length ≤ N) {c : Nat} (hc : c < A.traces.length) (j : Nat) (ch : Option Int) : ∀ d, ((A.touch c j ch).traces.getD d []).length ≤ N + 1 := by
  intro d
  rw [touch_trace _ _ _ _ _ hc]
  by_cases e : d = c
  · subst e; rw [if_pos rfl, List.length_append]; have := h d; simp only [List.length_cons, List.length_nil]; omega
  · rw [if_neg e]; have := h d; omega

theorem touch_where {A : Ar} {P : Nat → Nat → Prop} {k : Nat} (h : ∀ c, c < k → ∀ x ∈ A.traces.getD c [], ∃ j : Nat, x.1 = (j : Int) ∧ P c j) {c : Nat} (hc : c < A.traces.length) {j : Nat} (ch : Option Int) (hP : P c j) : ∀ d, d < k → ∀ x ∈ (A.touch c j ch).traces.getD d [], ∃ j : Nat, x.1 = (j : Int) ∧ P d j := by
  intro d hd x hx
  rw [touch_trace _ _ _ _ _ hc] at hx
  by_cases e : d = c
  · subst e
    rw [if_pos rfl, List.mem_append] at hx
    rcases hx with hx | hx
    · exact h d hd x hx
    · rw [List.mem_singleton] at hx
      exact ⟨j, by rw [hx], hP⟩
  · rw [if_neg e] at hx
    exact h d hd x hx

theorem set_word {xs : List Int} {i j : Nat} {v : Int} (hi : i < xs.length) : wordAt (xs.set i v) j = if j = i then v else wordAt xs j := by
  unfold wordAt
  rw [List.getD, List.getD, List.getElem?_set]
  by_cases h : j = i
  · subst h; rw [if_pos rfl, if_pos rfl, if_pos hi]; rfl
  · rw [if_neg (Ne.symm h), if_neg h]

/-- A word of row r, place i is read by core c. -/
theorem a_load (h : Rs P S w0 w b g f n k L N W) (c r i : Nat) (hc : c < k) (hr : r < k + 2) (hi : i < n + 2) (hP : P c (pl f n r i)) (hN : N < 1000000) :
    Calls Try.prog 52 #[.pointer (some ⟨b, 0, none⟩), .int .i64 (c : Int), .int .i64 ((pl f n r i : Nat) : Int)] w fun e w' => e = .returned (.tuple #[.int .i64 (W r i), .int .i64 0]) ∧ Rs P S w0 w' b g f n k L (N + 1) W := by
  obtain ⟨F, hS, A, hH, h1, h2, h3, h4, h5⟩ := h
  have hl := pl_lt F hr hi
  refine (h_load hH (c : Int) ((pl f n r i : Nat) : Int) (by omega) (by omega) (by omega) (by omega) (by have := h3 c; simp only [Int.toNat_natCast]; omega)).mono ?_
  rintro e w' ⟨rfl, h6⟩
  simp only [Int.toNat_natCast] at h6 ⊢
  refine ⟨by rw [h5 r i hr hi], F, hS, _, h6, h1, by rw [touch_cores]; exact h2, touch_many h3 (by omega) _ _, touch_where h4 (by omega) _ hP, fun r' i' hr' hi' => by rw [touch_words0]; exact h5 r' i' hr' hi'⟩

theorem set_at {A : Ar} (F : Fx k f n L) (h1 : A.words.length = L) (h5 : ∀ r i, r < k + 2 → i < n + 2 → wordAt A.words (pl f n r i) = W r i) {r i : Nat} (hr : r < k + 2) (hi : i < n + 2) (v : Int) : ∀ r' i', r' < k + 2 → i' < n + 2 → wordAt (A.words.set (pl f n r i) v) (pl f n r' i') = upd W r i v r' i' := by
  intro r' i' hr' hi'
  have hl := pl_lt F hr hi
  rw [set_word (by omega)]
  unfold upd
  by_cases e : pl f n r' i' = pl f n r i
  · obtain ⟨rfl, rfl⟩ := pl_inj hi' hi e
    rw [if_pos rfl, if_pos ⟨rfl, rfl⟩]
  · rw [if_neg e, if_neg (by rintro ⟨rfl, rfl⟩; exact e rfl)]
    exact h5 r' i' hr' hi'

theorem a_store (h : Rs P S w0 w b g f n k L N W) (c r i : Nat) (v : Int) (hc : c < k) (hr : r < k + 2) (hi : i < n + 2) (hP : P c (pl f n r i)) (hN : N < 1000000) :
    Calls Try.prog 48 #[.pointer (some ⟨b, 0, none⟩), .int .i64 (c : Int), .int .i64 ((pl f n r i : Nat) : Int), .int .i64 v] w fun e w' => e = .returned (.int .i64 0) ∧ Rs P S w0 w' b g f n k L (N + 1) (upd W r i v) := by
  obtain ⟨F, hS, A, hH, h1, h2, h3, h4, h5⟩ := h
  have hl := pl_lt F hr hi
  refine (h_store hH (c : Int) ((pl f n r i : Nat) : Int) v (by omega) (by omega) (by omega) (by omega) (by have := h3 c; simp only [Int.toNat_natCast]; omega)).mono ?_
  rintro e w' ⟨rfl, h6⟩
  simp only [Int.toNat_natCast] at h6
  refine ⟨rfl, F, hS, _, h6, by rw [touch_words, List.length_set]; exact h1, by rw [touch_cores]; exact h2, touch_many h3 (by omega) _ _, touch_where h4 (by omega) _ hP, ?_⟩
  rw [touch_words]
  exact set_at F h1 h5 hr hi v

theorem a_add (h : Rs P S w0 w b g f n k L N W) (c r i : Nat) (v : Int) (hc : c < k) (hr : r < k + 2) (hi : i < n + 2) (hP : P c (pl f n r i)) (hN : N < 1000000) :
    Calls Try.prog 44 #[.pointer (some ⟨b, 0, none⟩), .int .i64 (c : Int), .int .i64 ((pl f n r i : Nat) : Int), .int .i64 v] w fun e w' => e = .returned (.tuple #[.int .i64 (wrap64 (W r i + v)), .int .i64 0]) ∧ Rs P S w0 w' b g f n k L (N + 1) (upd W r i (wrap64 (W r i + v))) := by
  obtain ⟨F, hS, A, hH, h1, h2, h3, h4, h5⟩ := h
  have hl := pl_lt F hr hi
  refine (h_add hH (c : Int) ((pl f n r i : Nat) : Int) v (by omega) (by omega) (by omega) (by omega) (by have := h3 c; simp only [Int.toNat_natCast]; omega)).mono ?_
  rintro e w' ⟨rfl, h6⟩
  simp only [Int.toNat_natCast] at h6 ⊢
  rw [h5 r i hr hi] at h6 ⊢
  refine ⟨rfl, F, hS, _, h6, by rw [touch_words, List.length_set]; exact h1, by rw [touch_cores]; exact h2, touch_many h3 (by omega) _ _, touch_where h4 (by omega) _ hP, ?_⟩
  rw [touch_words]
  exact set_at F h1 h5 hr hi _

set_option maxRecDepth 100000 in
theorem r_load (h : Rs P S w0 w b g f n k L N W) (c r i : Nat) (hc : c < k) (hr : r < k + 2) (hi : i < n + 2) (hP : P c (pl f n r i)) (hN : N < 1000000) :
    Calls Try.prog 35 #[.pointer (some ⟨g, 0, none⟩), .int .i64 (c : Int), .int .i64 ((pl f n r i : Nat) : Int)] w fun e w' => e = .returned (.int .i64 (W r i)) ∧ Rs P S w0 w' b g f n k L (N + 1) W := by
  obtain ⟨c0, c1, c2⟩ := h.cells
  go_enter Try.func35, Try.ntmps35
  go_wp2_with fail
  refine (a_load h c r i hc hr hi hP hN).mono ?_
  rintro e w' ⟨rfl, h1⟩
  have H1 : Hid (_) := h1
  clear h1
  go_wp2_with fail
  go_ret
  exact ⟨rfl, H1.out⟩

set_option maxRecDepth 100000 in
theorem r_store (h : Rs P S w0 w b g f n k L N W) (c r i : Nat) (v : Int) (hc : c < k) (hr : r < k + 2) (hi : i < n + 2) (hP : P c (pl f n r i)) (hN : N < 1000000) :
    Calls Try.prog 30 #[.pointer (some ⟨g, 0, none⟩), .int .i64 (c : Int), .int .i64 ((pl f n r i : Nat) : Int), .int .i64 v] w fun e w' => e = .returned (.tuple #[]) ∧ Rs P S w0 w' b g f n k L (N + 1) (upd W r i v) := by
  obtain ⟨c0, c1, c2⟩ := h.cells
  go_enter Try.func30, Try.ntmps30
  go_wp2_with fail
  refine (a_store h c r i v hc hr hi hP hN).mono ?_
  rintro e w' ⟨rfl, h1⟩
  have H1 : Hid (_) := h1
  clear h1
  go_wp2_with fail
  go_end0
  exact ⟨rfl, H1.out⟩

set_option maxRecDepth 100000 in
theorem r_epoch (h : Rs P S w0 w b g f n k L N W) (c : Nat) (hc : c < k) (hP : P c (pl f n k n)) (hN : N < 1000000) :
    Calls Try.prog 32 #[.pointer (some ⟨g, 0, none⟩), .int .i64 (c : Int)] w fun e w' => e = .returned (.int .i64 (W k n)) ∧ Rs P S w0 w' b g f n k L (N + 1) W := by
  go_enter Try.func32, Try.ntmps32
  go_wp2_with fail
  refine (r_epochAt h).mono ?_
  rintro e w' ⟨rfl, hk⟩
  have H0 : Hid (_) := h.still hk
  clear hk
  go_wp2_with fail
  refine (r_load H0.out c k n hc (by omega) (by omega) hP hN).mono ?_
  rintro e w' ⟨rfl, h1⟩
  have H1 : Hid (_) := h1
  clear h1
  go_wp2_with fail
  go_ret
  exact ⟨rfl, H1.out⟩

/-- What a core is told that is none. -/
theorem r_core_yes (h : Rs P S w0 w b g f n k L N W) (c : Nat) (hc : c < k) :
    Calls Try.prog 28 #[.pointer (some ⟨g, 0, none⟩), .int .i64 (c : Int)] w fun e w' => e = .returned (.int .i64 0) ∧ w' = w := by
  obtain ⟨c0, c1, c2⟩ := h.cells
  have d1 : decide ((c : Int) < 0) = false := by simp
  have d2 : decide ((k : Int) ≤ (c : Int)) = false := by simp; omega
  have i1 : (c : Int) < (k : Int) := by omega
  go_enter Try.func28, Try.ntmps28
  go_wp2_with fail
  refine (r_cores h).mono ?_
  rintro e w' ⟨rfl, rfl⟩
  go_wp2_with fail
  go_ret
  exact ⟨rfl, rfl⟩

theorem r_core_no (h : Rs P S w0 w b g f n k L N W) (c : Int) (hc : c < 0 ∨ (k : Int) ≤ c) :
    Calls Try.prog 28 #[.pointer (some ⟨g, 0, none⟩), .int .i64 c] w fun e w' => e = .returned (.int .i64 600) ∧ w' = w := by
  obtain ⟨c0, c1, c2⟩ := h.cells
  by_cases h0 : c < 0
  · have d1 : decide (c < 0) = true := by simp; omega
    go_enter Try.func28, Try.ntmps28
    go_wp2_with fail
    go_ret
    exact ⟨rfl, rfl⟩
  · have d1 : decide (c < 0) = false := by simp; omega
    have d2 : decide ((k : Int) ≤ c) = true := by simp; omega
    have i1 : ¬ c < (k : Int) := by omega
    go_enter Try.func28, Try.ntmps28
    go_wp2_with fail
    refine (r_cores h).mono ?_
    rintro e w' ⟨rfl, rfl⟩
    go_wp2_with fail
    go_ret
    exact ⟨rfl, rfl⟩

theorem r_obj_yes (h : Rs P S w0 w b g f n k L N W) (o : Nat) (ho : o < n) :
    Calls Try.prog 43 #[.pointer (some ⟨g, 0, none⟩), .int .i64 (o : Int)] w fun e w' => e = .returned (.int .i64 0) ∧ w' = w := by
  obtain ⟨c0, c1, c2⟩ := h.cells
  have d1 : decide ((o : Int) < 0) = false := by simp
  have d2 : decide ((n : Int) ≤ (o : Int)) = false := by simp; omega
  have i1 : (o : Int) < (n : Int) := by omega
  go_enter Try.func43, Try.ntmps43
  go_wp2_with fail
  go_ret
  exact ⟨rfl, rfl⟩

theorem r_obj_no (h : Rs P S w0 w b g f n k L N W) (o : Int) (ho : o < 0 ∨ (n : Int) ≤ o) :
    Calls Try.prog 43 #[.pointer (some ⟨g, 0, none⟩), .int .i64 o] w fun e w' => e = .returned (.int .i64 601) ∧ w' = w := by
  obtain ⟨c0, c1, c2⟩ := h.cells
  by_cases h0 : o < 0
  · have d1 : decide (o < 0) = true := by simp; omega
    go_enter Try.func43, Try.ntmps43
    go_wp2_with fail
    go_ret
    exact ⟨rfl, rfl⟩
  · have d1 : decide (o < 0) = false := by simp; omega
    have d2 : decide ((n : Int) ≤ o) = true := by simp; omega
    have i1 : ¬ o < (n : Int) := by omega
    go_enter Try.func43, Try.ntmps43
    go_wp2_with fail
    go_ret
    exact ⟨rfl, rfl⟩

end
end Go.Proofs.Ytljmpcmkgeomiaa
