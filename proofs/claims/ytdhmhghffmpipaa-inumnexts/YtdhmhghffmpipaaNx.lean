/-
  Counters of package inum in an arena's words: the state, and a contract for each function of the package.
-/
import Derived.Test.YtdhmhghffmpipaaHs
import Derived.Deep.RegionHeld3
namespace Go.Proofs.Ytdhmhghffmpipaa
open Go.RowKit
set_option linter.unusedVariables false

theorem ret_int {k : IntKind} {x y : Int} (h : x = y) : Ending.returned (.int k x) = .returned (.int k y) := by rw [h]

theorem wrap_small (c : Int) (h0 : -1000000 ≤ c) (h1 : c ≤ 1000000) : wrap64 c = c := by
  unfold wrap64
  omega

theorem i64_small (c : Int) (h0 : -1000000 ≤ c) (h1 : c ≤ 1000000) : IntKind.i64.wrap c = c := by
  rw [IntKind.wrap_i64]
  omega

/-- What lies in the block of the counters. -/
def box (b f : Nat) : Obj := .cells #[.pointer (some ⟨b, 0, none⟩), .int .i64 (f : Int)] 50 (0, 0)

/-- Traces by core. -/
abbrev Trc := Nat → List (Int × Bool)

/-- An access more of core c. -/
def tput (t : Trc) (c : Nat) (x : Int × Bool) : Trc := fun d => if d = c then t c ++ [x] else t d

/-- A core's trace forgotten. -/
def tclr (t : Trc) (c : Nat) : Trc := fun d => if d = c then [] else t d

/-- A word turned. -/
def upd (W : Nat → Int) (q : Nat) (v : Int) : Nat → Int := fun r => if r = q then v else W r

/-- Counters made since w0: I tells what the traces may be; N bounds the accesses of a core; W are the counts by core. -/
structure Nb (I : Trc → Prop) (S : List (Nat × Obj)) (w0 w : World) (b g f k L N : Nat) (W : Nat → Int) : Prop where
  klo : 1 ≤ k
  khi : k ≤ 8
  fit : f + k ≤ L
  lhi : L ≤ 65536
  mem : (g, box b f) ∈ S
  ar : ∃ A, Hs S w0 w b A ∧ A.words.length = L ∧ A.traces.length = k ∧ (∀ c, (A.traces.getD c []).length ≤ N) ∧ I (fun c => A.traces.getD c []) ∧ ∀ q, q < k → wordAt A.words (f + q) = W q

theorem words_any {w : World} {p : Ap} {A : Ar} (h : ArIs 47 w p A) :
    Calls Try.prog 17 #[.pointer (some ⟨p.b, 0, none⟩)] w fun e w' => e = .returned (.int .i64 (A.words.length : Int)) ∧ w' = w := by
  obtain ⟨c0, c1⟩ := h.cell
  go_enter Try.func17, Try.ntmps17
  go_wp2
  go_ret
  exact ⟨rfl, rfl⟩

theorem h_words {S : List (Nat × Obj)} {w0 w : World} {b : Nat} {A : Ar} (h : Hs S w0 w b A) : Calls Try.prog 17 #[.pointer (some ⟨b, 0, none⟩)] w fun e w' => e = .returned (.int .i64 (A.words.length : Int)) ∧ w' = w := by
  obtain ⟨hK, p, rfl, hf, hm, hs⟩ := h
  exact words_any hm

section
variable {I : Trc → Prop} {S : List (Nat × Obj)} {w0 w : World} {b g f k L N : Nat} {W V : Nat → Int}

theorem Nb.still (h : Nb I S w0 w b g f k L N W) {w' : World} (hk : Kept [] w w') : Nb I S w0 w' b g f k L N W := by
  obtain ⟨a1, a2, a3, a4, hS, A, hH, h1⟩ := h
  exact ⟨a1, a2, a3, a4, hS, A, hH.still hk, h1⟩

theorem Nb.mono (h : Nb I S w0 w b g f k L N W) {N' : Nat} (hN : N ≤ N') : Nb I S w0 w b g f k L N' W := by
  obtain ⟨a1, a2, a3, a4, hS, A, hH, h1, h2, h3, h4⟩ := h
  exact ⟨a1, a2, a3, a4, hS, A, hH, h1, h2, fun c => Nat.le_trans (h3 c) hN, h4⟩

theorem Nb.as (h : Nb I S w0 w b g f k L N W) {W' : Nat → Int} (hW : ∀ q, q < k → W q = W' q) : Nb I S w0 w b g f k L N W' := by
  obtain ⟨a1, a2, a3, a4, hS, A, hH, h1, h2, h3, h4, h5⟩ := h
  exact ⟨a1, a2, a3, a4, hS, A, hH, h1, h2, h3, h4, fun q hq => (h5 q hq).trans (hW q hq)⟩

theorem Nb.weak (h : Nb I S w0 w b g f k L N W) {I' : Trc → Prop} (hI : ∀ t, I t → I' t) : Nb I' S w0 w b g f k L N W := by
  obtain ⟨a1, a2, a3, a4, hS, A, hH, h1, h2, h3, h4, h5⟩ := h
  exact ⟨a1, a2, a3, a4, hS, A, hH, h1, h2, h3, hI _ h4, h5⟩

theorem Nb.push (h : Nb I S w0 w b g f k L N W) (o : Obj) : Nb I ((w.heap.size, o) :: S) w0 (w.alloc o) b g f k L N W := by
  obtain ⟨a1, a2, a3, a4, hS, A, hH, h1⟩ := h
  exact ⟨a1, a2, a3, a4, List.mem_cons_of_mem _ hS, A, hH.push o, h1⟩

theorem Nb.cells (h : Nb I S w0 w b g f k L N W) : w.cell? ⟨g, 0, none⟩ = some (.pointer (some ⟨b, 0, none⟩)) ∧ w.cell? ⟨g, 1, none⟩ = some (.int .i64 (f : Int)) := by
  obtain ⟨a1, a2, a3, a4, hS, A, hH, -⟩ := h
  exact ⟨hH.cell hS rfl, hH.cell hS rfl⟩

theorem Nb.cell (h : Nb I S w0 w b g f k L N W) {m : Nat} {cs : Array Value} {t : TypeId} (hg : (m, .cells cs t (0, 0)) ∈ S) {i : Nat} {v : Value} (hi : cs[i]? = some v) : w.cell? ⟨m, i, none⟩ = some v := by
  obtain ⟨a1, a2, a3, a4, hS, A, hH, -⟩ := h
  exact hH.cell hg hi

theorem Nb.frozen (h : Nb I S w0 w b g f k L N W) {m : Nat} {cs : Array Value} {t : TypeId} (hg : (m, .cells cs t (0, 0)) ∈ S) (i : Nat) : w.frozen? ⟨m, i, none⟩ = false := by
  obtain ⟨a1, a2, a3, a4, hS, A, hH, -⟩ := h
  exact hH.frozen hg i

/-- A cell of the block that came up last is turned. -/
theorem Nb.put {m : Nat} {cs : Array Value} {t : TypeId} (h : Nb I ((m, .cells cs t (0, 0)) :: S) w0 w b g f k L N W) (hm : ∀ x ∈ S, x.1 ≠ m) (hg : (g, box b f) ∈ S) (i : Nat) (v : Value) : Nb I ((m, .cells (cs.setIfInBounds i v) t (0, 0)) :: S) w0 (w.setCell ⟨m, i, none⟩ v) b g f k L N W := by
  obtain ⟨a1, a2, a3, a4, hS, A, hH, h1⟩ := h
  exact ⟨a1, a2, a3, a4, List.mem_cons_of_mem _ hg, A, hH.put hm i v, h1⟩

theorem Nb.old (h : Nb I S w0 w b g f k L N W) : Kept [] w0 w := by
  obtain ⟨a1, a2, a3, a4, hS, A, hH, -⟩ := h
  exact hH.old

theorem Nb.lt (h : Nb I S w0 w b g f k L N W) : ∀ x ∈ S, x.1 < w.heap.size := by
  obtain ⟨a1, a2, a3, a4, hS, A, hH, -⟩ := h
  obtain ⟨hK, p, hb, hf, hm, hs⟩ := hH
  exact fun x hx => lt_of_heap (hs x hx).2.2

theorem n_cores (h : Nb I S w0 w b g f k L N W) : Calls Try.prog 16 #[.pointer (some ⟨b, 0, none⟩)] w fun e w' => e = .returned (.int .i64 (k : Int)) ∧ w' = w := by
  obtain ⟨a1, a2, a3, a4, hS, A, hH, h1, rfl, -⟩ := h
  exact h_cores hH

theorem touch_many {A : Ar} {N : Nat} (h : ∀ c, (A.traces.getD c []).length ≤ N) {c : Nat} (hc : c < A.traces.length) (j : Nat) (ch : Option Int) : ∀ d, ((A.touch c j ch).traces.getD d []).length ≤ N + 1 := by
  intro d
  rw [touch_trace _ _ _ _ _ hc]
  by_cases e : d = c
  · subst e; rw [if_pos rfl, List.length_append]; have := h d; simp only [List.length_cons, List.length_nil]; omega
  · rw [if_neg e]; have := h d; omega

theorem touch_put (A : Ar) {c : Nat} (hc : c < A.traces.length) (j : Nat) (ch : Option Int) : (fun d => (A.touch c j ch).traces.getD d []) = tput (fun d => A.traces.getD d []) c ((j : Int), ch.isSome) := by
  funext d
  rw [touch_trace _ _ _ _ _ hc]
  rfl

theorem set_word {xs : List Int} {i j : Nat} {v : Int} (hi : i < xs.length) : wordAt (xs.set i v) j = if j = i then v else wordAt xs j := by
  unfold wordAt
  rw [List.getD, List.getD, List.getElem?_set]
  by_cases h : j = i
  · subst h; rw [if_pos rfl, if_pos rfl, if_pos hi]; rfl
  · rw [if_neg (Ne.symm h), if_neg h]

theorem a_load (h : Nb I S w0 w b g f k L N W) {I' : Trc → Prop} (c : Nat) (x : Int) (hx : x = ((f + c : Nat) : Int)) (hc : c < k) (hI : ∀ t, I t → I' (tput t c (((f + c : Nat) : Int), false))) (hN : N < 1000000) :
    Calls Try.prog 24 #[.pointer (some ⟨b, 0, none⟩), .int .i64 (c : Int), .int .i64 x] w fun e w' => e = .returned (.tuple #[.int .i64 (W c), .int .i64 0]) ∧ Nb I' S w0 w' b g f k L (N + 1) W := by
  subst hx
  obtain ⟨a1, a2, a3, a4, hS, A, hH, h1, h2, h3, h4, h5⟩ := h
  refine (h_load hH (c : Int) ((f + c : Nat) : Int) (by omega) (by omega) (by omega) (by omega) (by have := h3 c; simp only [Int.toNat_natCast]; omega)).mono ?_
  rintro e w' ⟨rfl, h6⟩
  simp only [Int.toNat_natCast] at h6 ⊢
  refine ⟨by rw [h5 c hc], a1, a2, a3, a4, hS, _, h6, h1, by rw [touch_cores]; exact h2, touch_many h3 (by omega) _ _, ?_, fun r hr => by rw [touch_words0]; exact h5 r hr⟩
  rw [touch_put _ (by omega)]
  exact hI _ h4

theorem a_store (h : Nb I S w0 w b g f k L N W) {I' : Trc → Prop} (c : Nat) (x : Int) (hx : x = ((f + c : Nat) : Int)) (v : Int) (hc : c < k) (hI : ∀ t, I t → I' (tput t c (((f + c : Nat) : Int), true))) (hN : N < 1000000) :
    Calls Try.prog 23 #[.pointer (some ⟨b, 0, none⟩), .int .i64 (c : Int), .int .i64 x, .int .i64 v] w fun e w' => e = .returned (.int .i64 0) ∧ Nb I' S w0 w' b g f k L (N + 1) (upd W c v) := by
  subst hx
  obtain ⟨a1, a2, a3, a4, hS, A, hH, h1, h2, h3, h4, h5⟩ := h
  refine (h_store hH (c : Int) ((f + c : Nat) : Int) v (by omega) (by omega) (by omega) (by omega) (by have := h3 c; simp only [Int.toNat_natCast]; omega)).mono ?_
  rintro e w' ⟨rfl, h6⟩
  simp only [Int.toNat_natCast] at h6
  refine ⟨rfl, a1, a2, a3, a4, hS, _, h6, by rw [touch_words, List.length_set]; exact h1, by rw [touch_cores]; exact h2, touch_many h3 (by omega) _ _, ?_, fun r hr => ?_⟩
  · rw [touch_put _ (by omega)]
    exact hI _ h4
  · rw [touch_words, set_word (by omega)]
    unfold upd
    by_cases e : r = c
    · rw [if_pos (by omega), if_pos e]
    · rw [if_neg (by omega), if_neg e]; exact h5 r hr

set_option maxRecDepth 100000 in
set_option maxHeartbeats 1000000 in
theorem n_given (h : Nb I S w0 w b g f k L N W) {I' : Trc → Prop} (c : Nat) (hc : c < k) (hI : ∀ t, I t → I' (tput t c (((f + c : Nat) : Int), false))) (hN : N < 1000000) :
    Calls Try.prog 20 #[.pointer (some ⟨g, 0, none⟩), .int .i64 (c : Int)] w fun e w' => e = .returned (.int .i64 (W c)) ∧ Nb I' S w0 w' b g f k L (N + 1) W := by
  have hD := h.still (Kept.refl [] w).drew
  have hf := h.fit
  have hl := h.lhi
  have HX : Hid (_ ∧ _ ∧ _) := ⟨hD, hD.cells, hI⟩
  clear hD h hI
  go_enter Try.func20, Try.ntmps20
  go_wp2_with fail
  go_region_held3 (fun w' => w'.cell? ⟨g, 0, none⟩ = some (.pointer (some ⟨b, 0, none⟩)) ∧ w'.cell? ⟨g, 1, none⟩ = some (.int .i64 (f : Int))) (first | exact HX.out.2.1 | exact z1 | go_keep)
    (first
      | (go_at_call 24; refine (a_load HX.out.1 c _ (by rw [i64_small _ (by omega) (by omega)]; omega) hc HX.out.2.2 hN).mono ?_; rintro e w1 ⟨rfl, hk1⟩; have z1 := hk1.cells))
  have HN : Hid (_) := hk1
  clear hk1 z1 HX
  go_wp2_with fail
  go_ret
  exact ⟨rfl, HN.out⟩

set_option maxRecDepth 100000 in
set_option maxHeartbeats 1000000 in
theorem n_set (h : Nb I S w0 w b g f k L N W) {I' : Trc → Prop} (c : Nat) (v : Int) (hc : c < k) (hI : ∀ t, I t → I' (tput t c (((f + c : Nat) : Int), true))) (hN : N < 1000000) :
    Calls Try.prog 18 #[.pointer (some ⟨g, 0, none⟩), .int .i64 (c : Int), .int .i64 v] w fun e w' => e = .returned (.tuple #[]) ∧ Nb I' S w0 w' b g f k L (N + 1) (upd W c v) := by
  have hD := h.still (Kept.refl [] w).drew
  have hf := h.fit
  have hl := h.lhi
  have HX : Hid (_ ∧ _ ∧ _) := ⟨hD, hD.cells, hI⟩
  clear hD h hI
  go_enter Try.func18, Try.ntmps18
  go_wp2_with fail
  go_region_held3 (fun w' => w'.cell? ⟨g, 0, none⟩ = some (.pointer (some ⟨b, 0, none⟩)) ∧ w'.cell? ⟨g, 1, none⟩ = some (.int .i64 (f : Int))) (first | exact HX.out.2.1 | exact z1 | go_keep)
    (first
      | (go_at_call 23; refine (a_store HX.out.1 c _ (by rw [i64_small _ (by omega) (by omega)]; omega) v hc HX.out.2.2 hN).mono ?_; rintro e w1 ⟨rfl, hk1⟩; have z1 := hk1.cells))
  have HN : Hid (_) := hk1
  clear hk1 z1 HX
  go_wp2_with fail
  go_end0
  exact ⟨rfl, HN.out⟩

/-- Whose number it is. -/
theorem n_core (w : World) (x : Int) (h0 : 2 ≤ x) (h1 : x ≤ 9223372036854775807) :
    Calls Try.prog 12 #[.int .i64 x] w fun e w' => e = .returned (.int .i64 ((x - 2) % 8)) ∧ w' = w := by
  have i0 : ¬ x < 2 := by omega
  have e0 : wrap64 (x - 2) = x - 2 := by unfold wrap64; omega
  have e1 : (x - 2).tmod 8 = (x - 2) % 8 := Int.tmod_eq_emod_of_nonneg (by omega)
  have e2 : wrap64 ((x - 2) % 8) = (x - 2) % 8 := by unfold wrap64; omega
  have HE : Hid (_ ∧ _ ∧ _) := ⟨e0, e1, e2⟩
  clear e0 e1 e2
  go_enter Try.func12, Try.ntmps12
  go_wp2_with fail
  go_ret
  exact ⟨ret_int (by first | rw [HE.out.1, HE.out.2.1, HE.out.2.2] | (have := HE.out; omega)), rfl⟩

theorem n_core_no (w : World) (x : Int) (h0 : x < 2) :
    Calls Try.prog 12 #[.int .i64 x] w fun e w' => e = .returned (.int .i64 (-1)) ∧ w' = w := by
  go_enter Try.func12, Try.ntmps12
  go_wp2_with fail
  go_ret
  exact ⟨rfl, rfl⟩

theorem n_next_bad (h : Nb I S w0 w b g f k L N W) (c : Int) (hc : c < 0 ∨ (k : Int) ≤ c) :
    Calls Try.prog 11 #[.pointer (some ⟨g, 0, none⟩), .int .i64 c] w fun e w' => e = .returned (.tuple #[.int .i64 0, .int .i64 1000]) ∧ w' = w := by
  obtain ⟨c0, c1⟩ := h.cells
  by_cases h0 : c < 0
  · have d1 : decide (c < 0) = true := by simp; omega
    go_enter Try.func11, Try.ntmps11
    go_wp2_with fail
    go_ret2
    exact ⟨rfl, rfl⟩
  · have d1 : decide (c < 0) = false := by simp; omega
    have d2 : decide ((k : Int) ≤ c) = true := by simp; omega
    have i1 : ¬ c < (k : Int) := by omega
    go_enter Try.func11, Try.ntmps11
    go_wp2_with fail
    refine (n_cores h).mono ?_
    rintro e w' ⟨rfl, rfl⟩
    go_wp2_with fail
    go_ret2
    exact ⟨rfl, rfl⟩

set_option maxRecDepth 100000 in
set_option maxHeartbeats 1000000 in
theorem n_next_full (h : Nb I S w0 w b g f k L N W) {I' : Trc → Prop} (c : Nat) (hc : c < k) (hW : 32 ≤ W c) (hI : ∀ t, I t → I' (tput t c (((f + c : Nat) : Int), false))) (hN : N < 1000000) :
    Calls Try.prog 11 #[.pointer (some ⟨g, 0, none⟩), .int .i64 (c : Int)] w fun e w' => e = .returned (.tuple #[.int .i64 0, .int .i64 1001]) ∧ Nb I' S w0 w' b g f k L (N + 1) W := by
  obtain ⟨c0, c1⟩ := h.cells
  have d1 : decide ((c : Int) < 0) = false := by simp
  have d2 : decide ((k : Int) ≤ (c : Int)) = false := by simp; omega
  have i1 : (c : Int) < (k : Int) := by omega
  have HX : Hid (_ ∧ _) := ⟨h, hI⟩
  clear h hI
  go_enter Try.func11, Try.ntmps11
  go_wp2_with fail
  refine (n_cores HX.out.1).mono ?_
  rintro e w' ⟨rfl, rfl⟩
  go_wp2_with fail
  refine (n_given HX.out.1 c hc HX.out.2 hN).mono ?_
  rintro e w' ⟨rfl, h1⟩
  have H1 : Hid (_) := h1
  clear h1 HX
  go_wp2_with fail
  go_ret2
  exact ⟨rfl, H1.out⟩

set_option maxRecDepth 100000 in
set_option maxHeartbeats 1000000 in
theorem n_next (h : Nb I S w0 w b g f k L N W) {I1 I2 : Trc → Prop} (c : Nat) (hc : c < k) (n : Nat) (hW : W c = (n : Int)) (hn : n < 32) (hI : ∀ t, I t → I1 (tput t c (((f + c : Nat) : Int), false))) (hI2 : ∀ t, I1 t → I2 (tput t c (((f + c : Nat) : Int), true))) (hN : N < 999999) :
    Calls Try.prog 11 #[.pointer (some ⟨g, 0, none⟩), .int .i64 (c : Int)] w fun e w' => e = .returned (.tuple #[.int .i64 ((2 + c + 8 * n : Nat) : Int), .int .i64 0]) ∧ Nb I2 S w0 w' b g f k L (N + 2) (upd W c ((n + 1 : Nat) : Int)) := by
  obtain ⟨c0, c1⟩ := h.cells
  have hk := h.khi
  have d1 : decide ((c : Int) < 0) = false := by simp
  have d2 : decide ((k : Int) ≤ (c : Int)) = false := by simp; omega
  have i1 : (c : Int) < (k : Int) := by omega
  have i2 : (n : Int) < 32 := by omega
  have i3 : ¬ 32 ≤ (n : Int) := by omega
  have HX : Hid (_ ∧ _ ∧ _ ∧ _) := ⟨h, hI, hI2, hW⟩
  clear h hI hI2 hW
  go_enter Try.func11, Try.ntmps11
  go_wp2_with fail
  refine (n_cores HX.out.1).mono ?_
  rintro e w' ⟨rfl, rfl⟩
  go_wp2_with fail
  refine (n_given HX.out.1 c hc HX.out.2.1 (by omega)).mono ?_
  rintro e w' ⟨rfl, h1⟩
  rw [HX.out.2.2.2]
  have H1 : Hid (_) := h1
  clear h1
  go_wp2_with fail
  refine (n_set H1.out c _ hc HX.out.2.2.1 (by omega)).mono ?_
  rintro e w' ⟨rfl, h1⟩
  have H2 : Hid (_) := h1
  clear h1 H1 HX
  go_wp2_with fail
  go_ret2
  refine ⟨?_, ?_⟩
  · congr 4
  · exact H2.out

theorem Nb.made {A : Ar} (h : Hs S w0 w b A) (hg : (g, box b f) ∈ S) (hf : f + A.traces.length ≤ A.words.length) (hN : ∀ c, (A.traces.getD c []).length ≤ N) (hI : I fun c => A.traces.getD c []) :
    Nb I S w0 w b g f A.traces.length A.words.length N (fun q => wordAt A.words (f + q)) :=
  ⟨h.size.1, h.size.2, hf, by obtain ⟨hK, p, rfl, hf, hm, hs⟩ := h; exact hm.hi, hg, A, h, rfl, rfl, hN, hI, fun _ _ => rfl⟩

/-- The words, those ahead of place n as New leaves them. -/
def gw (W : Nat → Int) (n : Nat) : Nat → Int := fun q => if q < n then 0 else W q

theorem gw_next (W : Nat → Int) (n : Nat) : upd (gw W n) n 0 = gw W (n + 1) := by
  funext q
  unfold upd gw
  by_cases e : q = n
  · rw [if_pos e, if_pos (by omega)]
  · rw [if_neg e]
    by_cases e2 : q < n
    · rw [if_pos e2, if_pos (by omega)]
    · rw [if_neg e2, if_neg (by omega)]

set_option maxRecDepth 100000 in
set_option maxHeartbeats 2000000 in
theorem n_new {A : Ar} (h : Hs S w0 w b A) (f : Nat) (x : Int) (hx : x = (f : Int)) (k L : Nat) (hk : A.traces.length = k) (hL : A.words.length = L) (hf : f + k ≤ L) (hN : ∀ c, (A.traces.getD c []).length ≤ N) (hN2 : N < 990000) (hI : ∀ c t, I t → I (tput t c (((f + c : Nat) : Int), true))) (hI0 : I fun c => A.traces.getD c []) :
    Calls Try.prog 8 #[.pointer (some ⟨b, 0, none⟩), .int .i64 x] w fun e w' => ∃ g, e = .returned (.tuple #[.pointer (some ⟨g, 0, none⟩), .int .i64 0]) ∧ Nb I ((g, box b f) :: S) w0 w' b g f k L (N + k) (fun _ => 0) := by
  subst hx
  have H0 : Hid (_) := Nb.made (I := I) (h.push (box b f)) (List.mem_cons_self ..) (show f + A.traces.length ≤ A.words.length by omega) hN hI0
  have hL2 : L ≤ 65536 := by rw [← hL]; exact H0.out.lhi
  have hk2 : k ≤ 8 := by rw [← hk]; exact H0.out.khi
  rw [hk, hL] at H0
  obtain ⟨W0, hW0⟩ : ∃ W0, W0 = w.alloc (box b f) := ⟨_, rfl⟩
  rw [← hW0] at H0
  have HW : Hid (w.alloc (.cells #[.pointer (some ⟨b, 0, none⟩), .int .i64 (f : Int)] 50 (0, 0)) = W0) := hW0.symm
  clear hW0 hI0
  have HA : Hid (_ ∧ _ ∧ _ ∧ _) := ⟨h, hL, hk, hI⟩
  clear h hk hL hN hI
  have d1 : decide ((f : Int) < 0) = false := by simp
  have i2 : ¬ (L : Int) - (f : Int) < (k : Int) := by omega
  have d3 : decide ((L : Int) - (f : Int) < (k : Int)) = false := by simp; omega
  go_enter Try.func8, Try.ntmps8
  go_wp2_with fail
  refine (h_cores HA.out.1).mono ?_
  rintro e w1 ⟨rfl, hw⟩
  have hw2 := hw.symm
  subst hw2
  clear hw
  rw [HA.out.2.2.1]
  go_wp2_with fail
  refine (h_words HA.out.1).mono ?_
  rintro e w1 ⟨rfl, hw⟩
  have hw2 := hw.symm
  subst hw2
  clear hw
  rw [HA.out.2.1]
  go_wp2_with fail
  rw [HW.out]
  refine (n_cores H0.out).mono ?_
  rintro e w1 ⟨rfl, hw⟩
  have hw2 := hw.symm
  subst hw2
  clear hw
  go_wp2_with fail
  go_loopw [27] (fun i wr => ∃ n : Nat, i = .int .i64 (n : Int) ∧ n ≤ k ∧ Hid (∃ W, Nb I ((w.heap.size, box b f) :: S) w0 wr b w.heap.size f k L (N + n) (gw W n))) (fun i _ => (k - intOf i).toNat)
  case atStart => exact ⟨0, rfl, by omega, _, H0.out.as (W' := gw _ 0) (fun q _ => by unfold gw; rw [if_neg (by omega)])⟩
  case round =>
    obtain ⟨n, rfl, hn, HJ⟩ := hrel
    clear H0
    by_cases hlt : n < k
    · have i0 : (n : Int) < (k : Int) := by omega
      go_wp2_with fail
      obtain ⟨W, hW⟩ := HJ.out
      refine (n_set hW n 0 hlt (HA.out.2.2.2 n) (by omega)).mono ?_
      rintro e w1 ⟨rfl, h1⟩
      rw [gw_next] at h1
      have H1 : Hid (_) := h1
      clear h1 HJ hW
      go_wp2_with fail
      go_roundw
      case rel => exact ⟨n + 1, by go_num, by omega, _, H1.out⟩
      case measure => simp [intOf]; omega
    · have e : n = k := by omega
      subst e
      obtain ⟨W, hW⟩ := HJ.out
      have H1 : Hid (_) := hW.as (W' := fun _ => 0) fun q hq => by unfold gw; rw [if_pos (by omega)]
      clear HJ HW HA hW
      go_wp2_with fail
      go_ret2
      exact ⟨_, rfl, H1.out⟩

set_option maxRecDepth 100000 in
theorem n_new_bad {A : Ar} (h : Hs S w0 w b A) (x : Int) (hx : 0 ≤ x) (hx2 : x ≤ 1000000) (k L : Nat) (hk : A.traces.length = k) (hL : A.words.length = L) (hL2 : L ≤ 65536) (hf : (L : Int) < x + (k : Int)) :
    Calls Try.prog 8 #[.pointer (some ⟨b, 0, none⟩), .int .i64 x] w fun e w' => e = .returned (.tuple #[.pointer none, .int .i64 1000]) ∧ w' = w := by
  have HA : Hid (_ ∧ _ ∧ _) := ⟨h, hL, hk⟩
  clear h hk hL
  have d1 : decide (x < 0) = false := by simp; omega
  have i2 : (L : Int) - x < (k : Int) := by omega
  have d3 : decide ((L : Int) - x < (k : Int)) = true := by simp; omega
  go_enter Try.func8, Try.ntmps8
  go_wp2_with fail
  refine (h_cores HA.out.1).mono ?_
  rintro e w1 ⟨rfl, rfl⟩
  rw [HA.out.2.2]
  go_wp2_with fail
  refine (h_words HA.out.1).mono ?_
  rintro e w1 ⟨rfl, rfl⟩
  rw [HA.out.2.1]
  go_wp2_with fail
  go_ret2
  exact ⟨rfl, rfl⟩

theorem n_new_nil (w : World) (x : Int) : Calls Try.prog 8 #[.pointer none, .int .i64 x] w fun e w' => e = .returned (.tuple #[.pointer none, .int .i64 1]) ∧ w' = w := by
  go_enter Try.func8, Try.ntmps8
  go_wp2_with fail
  go_ret2
  exact ⟨rfl, rfl⟩

theorem n_clear (h : Nb I S w0 w b g f k L N W) {I' : Trc → Prop} (c : Nat) (hc : c < k) (hI : ∀ t, I t → I' (tclr t c)) :
    Calls Try.prog 10 #[.pointer (some ⟨b, 0, none⟩), .int .i64 (c : Int)] w fun e w' => e = .returned (.int .i64 0) ∧ Nb I' S w0 w' b g f k L N W := by
  obtain ⟨a1, a2, a3, a4, hS, A, hH, h1, h2, h3, h4, h5⟩ := h
  refine (h_clear hH (c : Int) (by omega) (by omega)).mono ?_
  rintro e w' ⟨rfl, h6⟩
  simp only [Int.toNat_natCast] at h6
  refine ⟨rfl, a1, a2, a3, a4, hS, _, h6, h1, by rw [clear_cores]; exact h2, fun d => ?_, ?_, h5⟩
  · rw [clear_trace _ _ _ (by omega)]
    by_cases e : d = c
    · rw [if_pos e]; exact Nat.zero_le _
    · rw [if_neg e]; exact h3 d
  · have e : (fun d => (A.clear c).traces.getD d []) = tclr (fun d => A.traces.getD d []) c := by
      funext d
      rw [clear_trace _ _ _ (by omega)]
      rfl
    rw [e]
    exact hI _ h4

theorem n_trace (h : Nb I S w0 w b g f k L N W) (c : Nat) (hc : c < k) (hN : N < 100000) :
    Calls Try.prog 14 #[.pointer (some ⟨b, 0, none⟩), .int .i64 (c : Int)] w fun e w' => ∃ u t, e = .returned u ∧ I t ∧ Row w' u (t c) ∧ (t c).length ≤ N ∧ Kept [] w w' := by
  obtain ⟨a1, a2, a3, a4, hS, A, hH, h1, h2, h3, h4, h5⟩ := h
  refine (h_trace hH (c : Int) (by omega) (by omega) (by have := h3 c; simp only [Int.toNat_natCast]; omega)).mono ?_
  rintro e w' ⟨u, he, hr, -, hk⟩
  exact ⟨u, _, he, h4, hr, h3 c, hk⟩

end

theorem fresh_traces (n c d : Nat) : (fresh n c).traces.getD d [] = [] := by
  simp only [fresh, List.getD, List.getElem?_replicate]
  split <;> rfl

theorem fresh_few (n c : Nat) (N : Nat) : ∀ d, ((fresh n c).traces.getD d []).length ≤ N := fun d => by rw [fresh_traces]; exact Nat.zero_le _

theorem fresh_len (n c : Nat) : (fresh n c).words.length = n ∧ (fresh n c).traces.length = c := by simp [fresh]

/-- New, of an arena that was just made. -/
theorem f_new {I : Trc → Prop} {S : List (Nat × Obj)} {w0 w : World} {b L k : Nat} (h : Hs S w0 w b (fresh L k)) (f : Nat) (x : Int) (hx : x = (f : Int)) (hf : f + k ≤ L) (hI : ∀ c t, I t → I (tput t c (((f + c : Nat) : Int), true))) (hI0 : I fun _ => []) :
    Calls Try.prog 8 #[.pointer (some ⟨b, 0, none⟩), .int .i64 x] w fun e w' => ∃ g, e = .returned (.tuple #[.pointer (some ⟨g, 0, none⟩), .int .i64 0]) ∧ Nb I ((g, box b f) :: S) w0 w' b g f k L (0 + k) (fun _ => 0) :=
  n_new (I := I) (N := 0) h f x hx k L (fresh_len L k).2 (fresh_len L k).1 hf (fresh_few L k 0) (by omega) hI (by rw [show (fun c => (fresh L k).traces.getD c []) = (fun _ => []) from funext (fresh_traces L k)]; exact hI0)

/-- New, of an arena in which counters lie, where they do not fit. -/
theorem b_new {I : Trc → Prop} {S : List (Nat × Obj)} {w0 w : World} {b g f k L N : Nat} {W : Nat → Int} (h : Nb I S w0 w b g f k L N W) (x : Int) (hx : 0 ≤ x) (hx2 : x ≤ 1000000) (hf : (L : Int) < x + (k : Int)) :
    Calls Try.prog 8 #[.pointer (some ⟨b, 0, none⟩), .int .i64 x] w fun e w' => e = .returned (.tuple #[.pointer none, .int .i64 1000]) ∧ w' = w := by
  obtain ⟨a1, a2, a3, a4, hS, A, hH, h1, h2, -⟩ := h
  exact n_new_bad hH x hx hx2 k L h2 h1 a4 hf

/-- Whatever the traces are. -/
def AnyT : Trc → Prop := fun _ => True

set_option maxRecDepth 100000 in
set_option maxHeartbeats 4000000 in
theorem awake_any (w : World) : Calls Try.prog 15 #[] w fun e w' => e = .returned (.bool true) ∧ Kept [] w w' := by
  go_enter Try.func15, Try.ntmps15
  go_wp2_with fail
  refine (h_new w 8 2 (by omega) (by omega) (by omega) (by omega)).mono ?_
  rintro e w1 ⟨b, rfl, hm⟩
  have H1 : Hid (_) := hm
  clear hm
  go_wp2_with fail
  refine (f_new (I := AnyT) (k := 2) (L := 8) H1.out 0 _ rfl (by omega) (fun _ _ _ => trivial) trivial).mono ?_
  rintro e w2 ⟨g, rfl, h2⟩
  have H2 : Hid (_) := h2
  clear h2 H1
  go_wp2_with fail
  refine (n_next (I1 := AnyT) (I2 := AnyT) H2.out 1 (by omega) 0 rfl (by omega) (fun _ _ => trivial) (fun _ _ => trivial) (by omega)).mono ?_
  rintro e w3 ⟨rfl, h3⟩
  have H3 : Hid (_) := h3
  clear h3 H2
  go_wp2_with fail
  refine (n_next (I1 := AnyT) (I2 := AnyT) H3.out 1 (by omega) 1 rfl (by omega) (fun _ _ => trivial) (fun _ _ => trivial) (by omega)).mono ?_
  rintro e w4 ⟨rfl, h4⟩
  have H4 : Hid (_) := h4
  clear h4 H3
  go_wp2_with fail
  refine (n_next_bad H4.out 2 (by omega)).mono ?_
  rintro e w5 ⟨rfl, rfl⟩
  go_wp2_with fail
  refine (b_new H4.out 7 (by omega) (by omega) (by omega)).mono ?_
  rintro e w5 ⟨rfl, rfl⟩
  have H5 : Hid (_) := H4.out.old
  clear H4
  go_wp2_with (first
    | (go_at_call 9; refine (num _ _).mono ?_; rintro e w' ⟨rfl, rfl⟩))
  refine (n_core _ 11 (by omega) (by omega)).mono ?_
  rintro e w' ⟨rfl, rfl⟩
  go_wp2_with fail
  refine (n_core_no _ 1 (by omega)).mono ?_
  rintro e w' ⟨rfl, rfl⟩
  go_wp2_with fail
  go_ret
  exact ⟨rfl, H5.out⟩

end Go.Proofs.Ytdhmhghffmpipaa
