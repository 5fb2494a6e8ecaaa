/-
  A tree of package radix in an arena's words: the state, a word read and written, and where a page's word lies.
-/
import Derived.Test.YthndjlcibiaoiaaHs
namespace Go.Proofs.Ythndjlcibiaoiaa
open Go.RowKit
set_option linter.unusedVariables false

theorem ret_int {k : IntKind} {x y : Int} (h : x = y) : Ending.returned (.int k x) = .returned (.int k y) := by rw [h]

theorem wrap_small (c : Int) (h0 : -1000000 ≤ c) (h1 : c ≤ 1000000) : wrap64 c = c := by
  unfold wrap64
  omega

/-- What lies in the block of a tree. -/
def box (b f : Nat) : Obj := .cells #[.pointer (some ⟨b, 0, none⟩), .int .i64 (f : Int)] 56 (0, 0)

/-- Traces by core. -/
abbrev Trc := Nat → List (Int × Bool)

/-- An access more of core c. -/
def tput (t : Trc) (c : Nat) (x : Int × Bool) : Trc := fun d => if d = c then t c ++ [x] else t d

/-- A word turned. -/
def upd (W : Nat → Int) (q : Nat) (v : Int) : Nat → Int := fun r => if r = q then v else W r

/-- The words of a tree: those of the root, and behind them the pages'. -/
def wd (V : Nat → Int) : Nat → Int := fun q => if q < 4 then (q : Int) + 1 else V (q - 4)

theorem wd_upd (V : Nat → Int) (p : Nat) (v : Int) : upd (wd V) (4 + p) v = wd (upd V p v) := by
  funext q
  unfold upd wd
  by_cases h : q < 4
  · rw [if_neg (by omega), if_pos h, if_pos h]
  · rw [if_neg h, if_neg h]
    by_cases e : q = 4 + p
    · rw [if_pos e]; show v = if q - 4 = p then v else V (q - 4); rw [if_pos (by omega)]
    · rw [if_neg e]; show V (q - 4) = if q - 4 = p then v else V (q - 4); rw [if_neg (by omega)]

theorem wd_root (V : Nat → Int) {q : Nat} (h : q < 4) : wd V q = (q : Int) + 1 := by unfold wd; rw [if_pos h]
theorem wd_leaf (V : Nat → Int) (p : Nat) : wd V (4 + p) = V p := by unfold wd; rw [if_neg (by omega)]; congr 1; omega

/-- A tree made since w0: I tells what the traces may be; N bounds the accesses of a core; W are the words. -/
structure Rb (I : Trc → Prop) (S : List (Nat × Obj)) (w0 w : World) (b g f k L N : Nat) (W : Nat → Int) : Prop where
  klo : 1 ≤ k
  khi : k ≤ 8
  fit : f + 20 ≤ L
  lhi : L ≤ 65536
  mem : (g, box b f) ∈ S
  ar : ∃ A, Hs S w0 w b A ∧ A.words.length = L ∧ A.traces.length = k ∧ (∀ c, (A.traces.getD c []).length ≤ N) ∧ I (fun c => A.traces.getD c []) ∧ ∀ q, q < 20 → wordAt A.words (f + q) = W q

section
variable {I : Trc → Prop} {S : List (Nat × Obj)} {w0 w : World} {b g f k L N : Nat} {W V : Nat → Int}

theorem Rb.still (h : Rb I S w0 w b g f k L N W) {w' : World} (hk : Kept [] w w') : Rb I S w0 w' b g f k L N W := by
  obtain ⟨a1, a2, a3, a4, hS, A, hH, h1⟩ := h
  exact ⟨a1, a2, a3, a4, hS, A, hH.still hk, h1⟩

theorem Rb.mono (h : Rb I S w0 w b g f k L N W) {N' : Nat} (hN : N ≤ N') : Rb I S w0 w b g f k L N' W := by
  obtain ⟨a1, a2, a3, a4, hS, A, hH, h1, h2, h3, h4⟩ := h
  exact ⟨a1, a2, a3, a4, hS, A, hH, h1, h2, fun c => Nat.le_trans (h3 c) hN, h4⟩

theorem Rb.as (h : Rb I S w0 w b g f k L N W) {W' : Nat → Int} (hW : ∀ q, q < 20 → W q = W' q) : Rb I S w0 w b g f k L N W' := by
  obtain ⟨a1, a2, a3, a4, hS, A, hH, h1, h2, h3, h4, h5⟩ := h
  exact ⟨a1, a2, a3, a4, hS, A, hH, h1, h2, h3, h4, fun q hq => (h5 q hq).trans (hW q hq)⟩

theorem Rb.weak (h : Rb I S w0 w b g f k L N W) {I' : Trc → Prop} (hI : ∀ t, I t → I' t) : Rb I' S w0 w b g f k L N W := by
  obtain ⟨a1, a2, a3, a4, hS, A, hH, h1, h2, h3, h4, h5⟩ := h
  exact ⟨a1, a2, a3, a4, hS, A, hH, h1, h2, h3, hI _ h4, h5⟩

theorem Rb.cells (h : Rb I S w0 w b g f k L N W) : w.cell? ⟨g, 0, none⟩ = some (.pointer (some ⟨b, 0, none⟩)) ∧ w.cell? ⟨g, 1, none⟩ = some (.int .i64 (f : Int)) := by
  obtain ⟨a1, a2, a3, a4, hS, A, hH, -⟩ := h
  exact ⟨hH.cell hS rfl, hH.cell hS rfl⟩

theorem Rb.old (h : Rb I S w0 w b g f k L N W) : Kept [] w0 w := by
  obtain ⟨a1, a2, a3, a4, hS, A, hH, -⟩ := h
  exact hH.old

theorem r_cores (h : Rb I S w0 w b g f k L N W) : Calls Try.prog 31 #[.pointer (some ⟨b, 0, none⟩)] w fun e w' => e = .returned (.int .i64 (k : Int)) ∧ w' = w := by
  obtain ⟨a1, a2, a3, a4, hS, A, hH, h1, rfl, -⟩ := h
  exact h_cores hH

theorem touch_many {A : Ar} {N : Nat} (h : ∀ c, (A.traces.getD c []).length ≤ N) {c : Nat} (hc : c < A.traces.length) (j : Nat) (ch : Option Int) : ∀ d, ((A.touch c j ch).traces.getD d []).length ≤ N + 1 := by
  intro d
  rw [touch_trace _ _ _ _ _ hc]
  by_cases e : d = c
  · subst e; rw [if_pos rfl, List.length_append]; have := h d; simp only [List.length_cons, List.length_nil]; omega
  · rw [if_neg e]; have := h d; omega

theorem touch_put (A : Ar) {c : Nat} (hc : c < A.traces.length) (j : Nat) (ch : Option Int) : (fun d => (A.touch c j ch).traces.getD d []) = tput (fun d => A.traces.getD d []) c ((j : Int), ch.isSome) := by
  funext d
  rw [touch_trace _ _ _ _ _ hc]
  rfl

theorem set_word {xs : List Int} {i j : Nat} {v : Int} (hi : i < xs.length) : wordAt (xs.set i v) j = if j = i then v else wordAt xs j := by
  unfold wordAt
  rw [List.getD, List.getD, List.getElem?_set]
  by_cases h : j = i
  · subst h; rw [if_pos rfl, if_pos rfl, if_pos hi]; rfl
  · rw [if_neg (Ne.symm h), if_neg h]

theorem a_load (h : Rb I S w0 w b g f k L N W) {I' : Trc → Prop} (c q : Nat) (hc : c < k) (hq : q < 20) (hI : ∀ t, I t → I' (tput t c (((f + q : Nat) : Int), false))) (hN : N < 1000000) :
    Calls Try.prog 33 #[.pointer (some ⟨b, 0, none⟩), .int .i64 (c : Int), .int .i64 ((f + q : Nat) : Int)] w fun e w' => e = .returned (.tuple #[.int .i64 (W q), .int .i64 0]) ∧ Rb I' S w0 w' b g f k L (N + 1) W := by
  obtain ⟨a1, a2, a3, a4, hS, A, hH, h1, h2, h3, h4, h5⟩ := h
  refine (h_load hH (c : Int) ((f + q : Nat) : Int) (by omega) (by omega) (by omega) (by omega) (by have := h3 c; simp only [Int.toNat_natCast]; omega)).mono ?_
  rintro e w' ⟨rfl, h6⟩
  simp only [Int.toNat_natCast] at h6 ⊢
  refine ⟨by rw [h5 q hq], a1, a2, a3, a4, hS, _, h6, h1, by rw [touch_cores]; exact h2, touch_many h3 (by omega) _ _, ?_, fun r hr => by rw [touch_words0]; exact h5 r hr⟩
  rw [touch_put _ (by omega)]
  exact hI _ h4

theorem a_store (h : Rb I S w0 w b g f k L N W) {I' : Trc → Prop} (c q : Nat) (v : Int) (hc : c < k) (hq : q < 20) (hI : ∀ t, I t → I' (tput t c (((f + q : Nat) : Int), true))) (hN : N < 1000000) :
    Calls Try.prog 32 #[.pointer (some ⟨b, 0, none⟩), .int .i64 (c : Int), .int .i64 ((f + q : Nat) : Int), .int .i64 v] w fun e w' => e = .returned (.int .i64 0) ∧ Rb I' S w0 w' b g f k L (N + 1) (upd W q v) := by
  obtain ⟨a1, a2, a3, a4, hS, A, hH, h1, h2, h3, h4, h5⟩ := h
  refine (h_store hH (c : Int) ((f + q : Nat) : Int) v (by omega) (by omega) (by omega) (by omega) (by have := h3 c; simp only [Int.toNat_natCast]; omega)).mono ?_
  rintro e w' ⟨rfl, h6⟩
  simp only [Int.toNat_natCast] at h6
  refine ⟨rfl, a1, a2, a3, a4, hS, _, h6, by rw [touch_words, List.length_set]; exact h1, by rw [touch_cores]; exact h2, touch_many h3 (by omega) _ _, ?_, fun r hr => ?_⟩
  · rw [touch_put _ (by omega)]
    exact hI _ h4
  · rw [touch_words, set_word (by omega)]
    unfold upd
    by_cases e : r = q
    · rw [if_pos (by omega), if_pos e]
    · rw [if_neg (by omega), if_neg e]; exact h5 r hr

set_option maxRecDepth 100000 in
theorem r_load (h : Rb I S w0 w b g f k L N W) {I' : Trc → Prop} (c q : Nat) (x : Int) (hx : x = ((f + q : Nat) : Int)) (hc : c < k) (hq : q < 20) (hI : ∀ t, I t → I' (tput t c (((f + q : Nat) : Int), false))) (hN : N < 1000000) :
    Calls Try.prog 25 #[.pointer (some ⟨g, 0, none⟩), .int .i64 (c : Int), .int .i64 x] w fun e w' => e = .returned (.int .i64 (W q)) ∧ Rb I' S w0 w' b g f k L (N + 1) W := by
  subst hx
  obtain ⟨c0, c1⟩ := h.cells
  have HI : Hid (_) := hI
  clear hI
  go_enter Try.func25, Try.ntmps25
  go_wp2_with fail
  refine (a_load h c q hc hq HI.out hN).mono ?_
  rintro e w' ⟨rfl, h1⟩
  have H1 : Hid (_) := h1
  clear h1
  go_wp2_with fail
  go_ret
  exact ⟨rfl, H1.out⟩

set_option maxRecDepth 100000 in
theorem r_store (h : Rb I S w0 w b g f k L N W) {I' : Trc → Prop} (c q : Nat) (x : Int) (hx : x = ((f + q : Nat) : Int)) (v : Int) (hc : c < k) (hq : q < 20) (hI : ∀ t, I t → I' (tput t c (((f + q : Nat) : Int), true))) (hN : N < 1000000) :
    Calls Try.prog 23 #[.pointer (some ⟨g, 0, none⟩), .int .i64 (c : Int), .int .i64 x, .int .i64 v] w fun e w' => e = .returned (.tuple #[]) ∧ Rb I' S w0 w' b g f k L (N + 1) (upd W q v) := by
  subst hx
  obtain ⟨c0, c1⟩ := h.cells
  have HI : Hid (_) := hI
  clear hI
  go_enter Try.func23, Try.ntmps23
  go_wp2_with fail
  refine (a_store h c q v hc hq HI.out hN).mono ?_
  rintro e w' ⟨rfl, h1⟩
  have H1 : Hid (_) := h1
  clear h1
  go_wp2_with fail
  go_end0
  exact ⟨rfl, H1.out⟩

set_option maxRecDepth 100000 in
theorem r_placeAt (h : Rb I S w0 w b g f k L N W) (n d : Nat) (x y : Int) (hx : x = (n : Int)) (hy : y = (d : Int)) (hn : n < 5) (hd : d < 4) :
    Calls Try.prog 30 #[.pointer (some ⟨g, 0, none⟩), .int .i64 x, .int .i64 y] w fun e w' => e = .returned (.int .i64 ((f + (n * 4 + d) : Nat) : Int)) ∧ w' = w := by
  subst hx hy
  obtain ⟨c0, c1⟩ := h.cells
  have hf := h.fit
  have hL := h.lhi
  go_enter Try.func30, Try.ntmps30
  go_wp2_with fail
  go_ret
  refine ⟨ret_int ?_, rfl⟩
  omega

set_option maxRecDepth 100000 in
set_option maxHeartbeats 1000000 in
/-- Where a page's word lies. -/
theorem r_find (h : Rb I S w0 w b g f k L N (wd V)) {I' : Trc → Prop} (c p : Nat) (hc : c < k) (hp : p < 16) (hI : ∀ t, I t → I' (tput t c (((f + p / 4 : Nat) : Int), false))) (hN : N < 1000000) :
    Calls Try.prog 24 #[.pointer (some ⟨g, 0, none⟩), .int .i64 (c : Int), .int .i64 (p : Int)] w fun e w' => e = .returned (.int .i64 ((f + (4 + p) : Nat) : Int)) ∧ Rb I' S w0 w' b g f k L (N + 1) (wd V) := by
  have HI : Hid (_ ∧ _) := ⟨hI, h⟩
  clear hI h
  go_enter Try.func24, Try.ntmps24
  go_wp2_with fail
  go_loopw [8, 7] (fun u n wr => (u = .int .i64 4 ∧ n = .int .i64 0 ∧ Hid (wr = w)) ∨ (u = .int .i64 1 ∧ n = .int .i64 ((p / 4 + 1 : Nat) : Int) ∧ Hid (Rb I' S w0 wr b g f k L (N + 1) (wd V)))) (fun u _ _ => (intOf u).toNat)
  case atStart => exact Or.inl ⟨rfl, rfl, rfl⟩
  case round =>
    rcases hrel with ⟨rfl, rfl, HW⟩ | ⟨rfl, rfl, HR⟩
    · have hw := HW.out
      subst hw
      go_wp2_with fail
      refine (r_placeAt HI.out.2 0 (p / 4) _ _ rfl (by omega) (by omega) (by omega)).mono ?_
      rintro e w' ⟨rfl, rfl⟩
      go_wp2_with fail
      refine (r_load HI.out.2 c (p / 4) _ (by omega) hc (by omega) HI.out.1 hN).mono ?_
      rintro e w' ⟨rfl, h1⟩
      rw [wd_root V (by omega)]
      have H1 : Hid (_) := h1
      clear h1 HI
      go_wp2_with fail
      go_roundw
      case rel => exact Or.inr ⟨rfl, by congr 1, H1.out⟩
      case measure => simp [intOf]
    · have hf := Rb.fit HR.out
      have hL := Rb.lhi HR.out
      go_wp2_with fail
      refine (r_placeAt HR.out (p / 4 + 1) (p % 4) _ _ (by omega) (by omega) (by omega) (by omega)).mono ?_
      rintro e w' ⟨rfl, rfl⟩
      go_wp2_with fail
      go_ret
      exact ⟨ret_int (by omega), HR.out⟩

/-- What a core is told that is none. -/
theorem r_core_yes (h : Rb I S w0 w b g f k L N W) (c : Nat) (hc : c < k) :
    Calls Try.prog 22 #[.pointer (some ⟨g, 0, none⟩), .int .i64 (c : Int)] w fun e w' => e = .returned (.int .i64 0) ∧ w' = w := by
  obtain ⟨c0, c1⟩ := h.cells
  have d1 : decide ((c : Int) < 0) = false := by simp
  have d2 : decide ((k : Int) ≤ (c : Int)) = false := by simp; omega
  have i1 : (c : Int) < (k : Int) := by omega
  go_enter Try.func22, Try.ntmps22
  go_wp2_with fail
  refine (r_cores h).mono ?_
  rintro e w' ⟨rfl, rfl⟩
  go_wp2_with fail
  go_ret
  exact ⟨rfl, rfl⟩

theorem r_core_no (h : Rb I S w0 w b g f k L N W) (c : Int) (hc : c < 0 ∨ (k : Int) ≤ c) :
    Calls Try.prog 22 #[.pointer (some ⟨g, 0, none⟩), .int .i64 c] w fun e w' => e = .returned (.int .i64 701) ∧ w' = w := by
  obtain ⟨c0, c1⟩ := h.cells
  by_cases h0 : c < 0
  · have d1 : decide (c < 0) = true := by simp; omega
    go_enter Try.func22, Try.ntmps22
    go_wp2_with fail
    go_ret
    exact ⟨rfl, rfl⟩
  · have d1 : decide (c < 0) = false := by simp; omega
    have d2 : decide ((k : Int) ≤ c) = true := by simp; omega
    have i1 : ¬ c < (k : Int) := by omega
    go_enter Try.func22, Try.ntmps22
    go_wp2_with fail
    refine (r_cores h).mono ?_
    rintro e w' ⟨rfl, rfl⟩
    go_wp2_with fail
    go_ret
    exact ⟨rfl, rfl⟩

end
end Go.Proofs.Ythndjlcibiaoiaa
