/-
  A directory of package dir in an arena's words: the state, a word read and written, and where a slot lies.
-/
import Derived.Test.YtnbbcbjfejdceaaDoorHs
import Derived.Test.YtnbbcbjfejdceaaDoorNm
namespace Go.Proofs.YtnbbcbjfejdceaaDoor
open Go.RowKit
set_option linter.unusedVariables false

theorem wrap_small (c : Int) (h0 : -1000000 ≤ c) (h1 : c ≤ 1000000) : wrap64 c = c := by
  unfold wrap64
  omega

/-- What lies in the block of a directory. -/
def box (b f : Nat) : Obj := .cells #[.pointer (some ⟨b, 0, none⟩), .int .i64 (f : Int)] 98 (0, 0)

/-- Traces by core. -/
abbrev Trc := Nat → List (Int × Bool)

/-- An access more of core c. -/
def tput (t : Trc) (c : Nat) (x : Int × Bool) : Trc := fun d => if d = c then t c ++ [x] else t d

/-- A word turned. -/
def upd (W : Nat → Int) (q : Nat) (v : Int) : Nat → Int := fun r => if r = q then v else W r

/-- A directory made since w0: I tells what the traces may be; N bounds the accesses of a core; W are the words. -/
structure Db (I : Trc → Prop) (S : List (Nat × Obj)) (w0 w : World) (b g f k L N : Nat) (W : Nat → Int) : Prop where
  klo : 1 ≤ k
  khi : k ≤ 8
  fit : f + 96 ≤ L
  lhi : L ≤ 65536
  tab : Tab w0
  mem : (g, box b f) ∈ S
  ar : ∃ A, Hs S w0 w b A ∧ A.words.length = L ∧ A.traces.length = k ∧ (∀ c, (A.traces.getD c []).length ≤ N) ∧ I (fun c => A.traces.getD c []) ∧ ∀ q, q < 96 → wordAt A.words (f + q) = W q

section
variable {I : Trc → Prop} {S : List (Nat × Obj)} {w0 w : World} {b g f k L N : Nat} {W V : Nat → Int}

theorem Db.still (h : Db I S w0 w b g f k L N W) {w' : World} (hk : Kept [] w w') : Db I S w0 w' b g f k L N W := by
  obtain ⟨a1, a2, a3, a4, a5, hS, A, hH, h1⟩ := h
  exact ⟨a1, a2, a3, a4, a5, hS, A, hH.still hk, h1⟩

theorem Db.mono (h : Db I S w0 w b g f k L N W) {N' : Nat} (hN : N ≤ N') : Db I S w0 w b g f k L N' W := by
  obtain ⟨a1, a2, a3, a4, a5, hS, A, hH, h1, h2, h3, h4⟩ := h
  exact ⟨a1, a2, a3, a4, a5, hS, A, hH, h1, h2, fun c => Nat.le_trans (h3 c) hN, h4⟩

theorem Db.as (h : Db I S w0 w b g f k L N W) {W' : Nat → Int} (hW : ∀ q, q < 96 → W q = W' q) : Db I S w0 w b g f k L N W' := by
  obtain ⟨a1, a2, a3, a4, a5, hS, A, hH, h1, h2, h3, h4, h5⟩ := h
  exact ⟨a1, a2, a3, a4, a5, hS, A, hH, h1, h2, h3, h4, fun q hq => (h5 q hq).trans (hW q hq)⟩

theorem Db.weak (h : Db I S w0 w b g f k L N W) {I' : Trc → Prop} (hI : ∀ t, I t → I' t) : Db I' S w0 w b g f k L N W := by
  obtain ⟨a1, a2, a3, a4, a5, hS, A, hH, h1, h2, h3, h4, h5⟩ := h
  exact ⟨a1, a2, a3, a4, a5, hS, A, hH, h1, h2, h3, hI _ h4, h5⟩

theorem Db.cells (h : Db I S w0 w b g f k L N W) : w.cell? ⟨g, 0, none⟩ = some (.pointer (some ⟨b, 0, none⟩)) ∧ w.cell? ⟨g, 1, none⟩ = some (.int .i64 (f : Int)) := by
  obtain ⟨a1, a2, a3, a4, a5, hS, A, hH, -⟩ := h
  exact ⟨hH.cell hS rfl, hH.cell hS rfl⟩

theorem Db.old (h : Db I S w0 w b g f k L N W) : Kept [] w0 w := by
  obtain ⟨a1, a2, a3, a4, a5, hS, A, hH, -⟩ := h
  exact hH.old

theorem Db.tabs (h : Db I S w0 w b g f k L N W) : Tab w := h.tab.kept h.old

theorem Db.push (h : Db I S w0 w b g f k L N W) (o : Obj) : Db I ((w.heap.size, o) :: S) w0 (w.alloc o) b g f k L N W := by
  obtain ⟨a1, a2, a3, a4, a5, hS, A, hH, h1⟩ := h
  exact ⟨a1, a2, a3, a4, a5, List.mem_cons_of_mem _ hS, A, hH.push o, h1⟩

theorem Db.drop {x : Nat × Obj} (h : Db I (x :: S) w0 w b g f k L N W) (hS : (g, box b f) ∈ S) : Db I S w0 w b g f k L N W := by
  obtain ⟨a1, a2, a3, a4, a5, -, A, hH, h1⟩ := h
  exact ⟨a1, a2, a3, a4, a5, hS, A, hH.drop, h1⟩

theorem Db.at_ (h : Db I S w0 w b g f k L N W) {x : Nat × Obj} (hx : x ∈ S) : w.heap[x.1]? = some x.2 := by
  obtain ⟨a1, a2, a3, a4, a5, hS, A, ⟨hK, p, hb, hf, hm, hs⟩, h1⟩ := h
  exact (hs x hx).2.2

theorem Db.ne_new (h : Db I S w0 w b g f k L N W) : ∀ x ∈ S, x.1 ≠ w.heap.size := fun x hx e => by
  have := lt_of_heap (h.at_ hx)
  omega

theorem Db.put {g' : Nat} {cs : Array Value} {t : TypeId} (h : Db I ((g', .cells cs t (0, 0)) :: S) w0 w b g f k L N W) (hg : ∀ x ∈ S, x.1 ≠ g') (hS : (g, box b f) ∈ S) (i : Nat) (v : Value) : Db I ((g', .cells (cs.setIfInBounds i v) t (0, 0)) :: S) w0 (w.setCell ⟨g', i, none⟩ v) b g f k L N W := by
  obtain ⟨a1, a2, a3, a4, a5, -, A, hH, h1⟩ := h
  exact ⟨a1, a2, a3, a4, a5, List.mem_cons_of_mem _ hS, A, hH.put hg i v, h1⟩

theorem d_cores (h : Db I S w0 w b g f k L N W) : Calls Tryd.prog 49 #[.pointer (some ⟨b, 0, none⟩)] w fun e w' => e = .returned (.int .i64 (k : Int)) ∧ w' = w := by
  obtain ⟨a1, a2, a3, a4, a5, hS, A, hH, h1, rfl, -⟩ := h
  exact h_cores hH

theorem touch_many {A : Ar} {N : Nat} (h : ∀ c, (A.traces.getD c []).length ≤ N) {c : Nat} (hc : c < A.traces.length) (j : Nat) (ch : Option Int) : ∀ d, ((A.touch c j ch).traces.getD d []).length ≤ N + 1 := by
  intro d
  rw [touch_trace _ _ _ _ _ hc]
  by_cases e : d = c
  · subst e; rw [if_pos rfl, List.length_append]; have := h d; simp only [List.length_cons, List.length_nil]; omega
  · rw [if_neg e]; have := h d; omega

theorem touch_put (A : Ar) {c : Nat} (hc : c < A.traces.length) (j : Nat) (ch : Option Int) : (fun d => (A.touch c j ch).traces.getD d []) = tput (fun d => A.traces.getD d []) c ((j : Int), ch.isSome) := by
  funext d
  rw [touch_trace _ _ _ _ _ hc]
  rfl

theorem set_word {xs : List Int} {i j : Nat} {v : Int} (hi : i < xs.length) : wordAt (xs.set i v) j = if j = i then v else wordAt xs j := by
  unfold wordAt
  rw [List.getD, List.getD, List.getElem?_set]
  by_cases h : j = i
  · subst h; rw [if_pos rfl, if_pos rfl, if_pos hi]; rfl
  · rw [if_neg (Ne.symm h), if_neg h]

theorem a_load (h : Db I S w0 w b g f k L N W) {I' : Trc → Prop} (c q : Nat) (hc : c < k) (hq : q < 96) (hI : ∀ t, I t → I' (tput t c (((f + q : Nat) : Int), false))) (hN : N < 1000000) :
    Calls Tryd.prog 64 #[.pointer (some ⟨b, 0, none⟩), .int .i64 (c : Int), .int .i64 ((f + q : Nat) : Int)] w fun e w' => e = .returned (.tuple #[.int .i64 (W q), .int .i64 0]) ∧ Db I' S w0 w' b g f k L (N + 1) W := by
  obtain ⟨a1, a2, a3, a4, a5, hS, A, hH, h1, h2, h3, h4, h5⟩ := h
  refine (h_load hH (c : Int) ((f + q : Nat) : Int) (by omega) (by omega) (by omega) (by omega) (by have := h3 c; simp only [Int.toNat_natCast]; omega)).mono ?_
  rintro e w' ⟨rfl, h6⟩
  simp only [Int.toNat_natCast] at h6 ⊢
  refine ⟨by rw [h5 q hq], a1, a2, a3, a4, a5, hS, _, h6, h1, by rw [touch_cores]; exact h2, touch_many h3 (by omega) _ _, ?_, fun r hr => by rw [touch_words0]; exact h5 r hr⟩
  rw [touch_put _ (by omega)]
  exact hI _ h4

theorem a_store (h : Db I S w0 w b g f k L N W) {I' : Trc → Prop} (c q : Nat) (v : Int) (hc : c < k) (hq : q < 96) (hI : ∀ t, I t → I' (tput t c (((f + q : Nat) : Int), true))) (hN : N < 1000000) :
    Calls Tryd.prog 63 #[.pointer (some ⟨b, 0, none⟩), .int .i64 (c : Int), .int .i64 ((f + q : Nat) : Int), .int .i64 v] w fun e w' => e = .returned (.int .i64 0) ∧ Db I' S w0 w' b g f k L (N + 1) (upd W q v) := by
  obtain ⟨a1, a2, a3, a4, a5, hS, A, hH, h1, h2, h3, h4, h5⟩ := h
  refine (h_store hH (c : Int) ((f + q : Nat) : Int) v (by omega) (by omega) (by omega) (by omega) (by have := h3 c; simp only [Int.toNat_natCast]; omega)).mono ?_
  rintro e w' ⟨rfl, h6⟩
  simp only [Int.toNat_natCast] at h6
  refine ⟨rfl, a1, a2, a3, a4, a5, hS, _, h6, by rw [touch_words, List.length_set]; exact h1, by rw [touch_cores]; exact h2, touch_many h3 (by omega) _ _, ?_, fun r hr => ?_⟩
  · rw [touch_put _ (by omega)]
    exact hI _ h4
  · rw [touch_words, set_word (by omega)]
    unfold upd
    by_cases e : r = q
    · rw [if_pos (by omega), if_pos e]
    · rw [if_neg (by omega), if_neg e]; exact h5 r hr

set_option maxRecDepth 100000 in
theorem d_load (h : Db I S w0 w b g f k L N W) {I' : Trc → Prop} (c q : Nat) (x : Int) (hx : x = ((f + q : Nat) : Int)) (hc : c < k) (hq : q < 96) (hI : ∀ t, I t → I' (tput t c (((f + q : Nat) : Int), false))) (hN : N < 1000000) :
    Calls Tryd.prog 55 #[.pointer (some ⟨g, 0, none⟩), .int .i64 (c : Int), .int .i64 x] w fun e w' => e = .returned (.int .i64 (W q)) ∧ Db I' S w0 w' b g f k L (N + 1) W := by
  subst hx
  obtain ⟨c0, c1⟩ := h.cells
  have HI : Hid (_) := hI
  clear hI
  go_enter Tryd.func55, Tryd.ntmps55
  go_wp2_with fail
  refine (a_load h c q hc hq HI.out hN).mono ?_
  rintro e w' ⟨rfl, h1⟩
  have H1 : Hid (_) := h1
  clear h1
  go_wp2_with fail
  go_ret
  exact ⟨rfl, H1.out⟩

set_option maxRecDepth 100000 in
theorem d_store (h : Db I S w0 w b g f k L N W) {I' : Trc → Prop} (c q : Nat) (x : Int) (hx : x = ((f + q : Nat) : Int)) (v : Int) (hc : c < k) (hq : q < 96) (hI : ∀ t, I t → I' (tput t c (((f + q : Nat) : Int), true))) (hN : N < 1000000) :
    Calls Tryd.prog 54 #[.pointer (some ⟨g, 0, none⟩), .int .i64 (c : Int), .int .i64 x, .int .i64 v] w fun e w' => e = .returned (.tuple #[]) ∧ Db I' S w0 w' b g f k L (N + 1) (upd W q v) := by
  subst hx
  obtain ⟨c0, c1⟩ := h.cells
  have HI : Hid (_) := hI
  clear hI
  go_enter Tryd.func54, Tryd.ntmps54
  go_wp2_with fail
  refine (a_store h c q v hc hq HI.out hN).mono ?_
  rintro e w' ⟨rfl, h1⟩
  have H1 : Hid (_) := h1
  clear h1
  go_wp2_with fail
  go_end0
  exact ⟨rfl, H1.out⟩

set_option maxRecDepth 100000 in
theorem d_slotAt (h : Db I S w0 w b g f k L N W) (n i : Nat) (x y : Int) (hx : x = (n : Int)) (hy : y = (i : Int)) (hn : n < 8) (hi : i < 4) :
    Calls Tryd.prog 53 #[.pointer (some ⟨g, 0, none⟩), .int .i64 x, .int .i64 y] w fun e w' => e = .returned (.int .i64 ((f + (n * 12 + i * 3) : Nat) : Int)) ∧ w' = w := by
  subst hx hy
  obtain ⟨c0, c1⟩ := h.cells
  have hf := h.fit
  have hL := h.lhi
  go_enter Tryd.func53, Tryd.ntmps53
  go_wp2_with fail
  go_ret
  refine ⟨ret_int ?_, rfl⟩
  omega

/-! ### A bucket read whole -/

/-- A bucket's cells, of the words of which m were read. -/
def rdc (n : Nat) (W : Nat → Int) (m : Nat) : Array Value := #[.int .i64 (n : Int)] ++ ((List.range 12).map fun j => Value.int .i64 (if j < m then W (n * 12 + j) else 0)).toArray

theorem rdc_get (n : Nat) (W : Nat → Int) (m j : Nat) (hj : j < 12) : (rdc n W m)[1 + j]? = some (.int .i64 (if j < m then W (n * 12 + j) else 0)) := by
  unfold rdc
  rw [Array.getElem?_append_right (by simp)]
  simp [hj]

theorem rdc_zero (n : Nat) (W : Nat → Int) (m : Nat) : (rdc n W m)[0]? = some (.int .i64 (n : Int)) := by
  unfold rdc
  rw [Array.getElem?_append_left (by simp)]
  rfl

theorem rdc_size (n : Nat) (W : Nat → Int) (m : Nat) : (rdc n W m).size = 13 := by unfold rdc; simp

theorem rdc_set (n : Nat) (W : Nat → Int) (m : Nat) (hm : m < 12) : (rdc n W m).setIfInBounds (1 + m) (.int .i64 (W (n * 12 + m))) = rdc n W (m + 1) := by
  apply Array.ext_getElem?
  intro i
  rw [Array.getElem?_setIfInBounds, rdc_size]
  by_cases h0 : i = 0
  · subst h0
    rw [if_neg (by omega), rdc_zero, rdc_zero]
  by_cases h1 : i < 13
  · obtain ⟨j, rfl⟩ : ∃ j, i = 1 + j := ⟨i - 1, by omega⟩
    rw [rdc_get _ _ _ j (by omega), rdc_get _ _ _ j (by omega)]
    by_cases e : j = m
    · subst e; rw [if_pos rfl, if_pos (by omega), if_pos (by omega)]
    · rw [if_neg (by omega)]
      by_cases e2 : j < m
      · rw [if_pos e2, if_pos (by omega)]
      · rw [if_neg e2, if_neg (by omega)]
  · rw [if_neg (by omega), Array.getElem?_eq_none (by rw [rdc_size]; omega), Array.getElem?_eq_none (by rw [rdc_size]; omega)]

end
end Go.Proofs.YtnbbcbjfejdceaaDoor
