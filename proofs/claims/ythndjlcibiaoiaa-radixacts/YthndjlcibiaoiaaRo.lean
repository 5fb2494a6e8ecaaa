/-
  A tree of package radix: Set, Get, Cut and Pages.
-/
import Derived.Test.YthndjlcibiaoiaaOwn
namespace Go.Proofs.Ythndjlcibiaoiaa
open Go.RowKit
set_option linter.unusedVariables false

/-- The traces stay what they may be, if core c reads a word of the tree .. -/
def Rd (I : Trc → Prop) (c f : Nat) : Prop := ∀ q, q < 20 → ∀ t, I t → I (tput t c (((f + q : Nat) : Int), false))
/-- .. or writes one of a page. -/
def Wr (I : Trc → Prop) (c f : Nat) : Prop := ∀ q, 4 ≤ q → q < 20 → ∀ t, I t → I (tput t c (((f + q : Nat) : Int), true))

/-- The pages from p to j have 0. -/
def cutV (V : Nat → Int) (p j : Nat) : Nat → Int := fun i => if p ≤ i ∧ i < j then 0 else V i

theorem cutV_self (V : Nat → Int) (p : Nat) : cutV V p p = V := by funext i; unfold cutV; rw [if_neg (by omega)]
theorem cutV_at (V : Nat → Int) (p j : Nat) : cutV V p j j = V j := by unfold cutV; rw [if_neg (by omega)]
theorem cutV_next {V : Nat → Int} {p j : Nat} (h : p ≤ j) : upd (cutV V p j) j 0 = cutV V p (j + 1) := by
  funext i
  unfold upd cutV
  by_cases e : i = j
  · rw [if_pos e, if_pos (by omega)]
  · rw [if_neg e]
    by_cases e2 : p ≤ i ∧ i < j
    · rw [if_pos e2, if_pos (by omega)]
    · rw [if_neg e2, if_neg (by omega)]
theorem cutV_same {V : Nat → Int} {p j : Nat} (h : V j = 0) : cutV V p j = cutV V p (j + 1) := by
  funext i
  unfold cutV
  by_cases e2 : p ≤ i ∧ i < j
  · rw [if_pos e2, if_pos (by omega)]
  · rw [if_neg e2]
    by_cases e3 : p ≤ i ∧ i < j + 1
    · rw [if_pos e3]
      have : i = j := by omega
      rw [this, h]
    · rw [if_neg e3]

/-- Which of the pages below j have not 0. -/
def pg (V : Nat → Int) (j : Nat) : List Int := ((List.range j).filter (fun i => V i != 0)).map (fun (i : Nat) => (i : Int))

theorem pg_zero (V : Nat → Int) : pg V 0 = [] := rfl
theorem pg_yes {V : Nat → Int} {j : Nat} (h : V j ≠ 0) : pg V (j + 1) = pg V j ++ [(j : Int)] := by
  unfold pg
  rw [List.range_succ, List.filter_append, List.map_append]
  simp [h]
theorem pg_no {V : Nat → Int} {j : Nat} (h : V j = 0) : pg V (j + 1) = pg V j := by
  unfold pg
  rw [List.range_succ, List.filter_append, List.map_append]
  simp [h]
theorem pg_len (V : Nat → Int) (j : Nat) : (pg V j).length ≤ j := by
  unfold pg
  rw [List.length_map]
  exact Nat.le_trans (List.length_filter_le _ _) (by simp)

section
variable {I : Trc → Prop} {S : List (Nat × Obj)} {w0 w : World} {b g f k L N : Nat} {W V : Nat → Int}

set_option maxRecDepth 100000 in
set_option maxHeartbeats 1000000 in
theorem r_set (h : Rb I S w0 w b g f k L N (wd V)) {I1 I2 : Trc → Prop} (c p : Nat) (v : Int) (hc : c < k) (hp : p < 16) (hv : 0 ≤ v) (h1 : ∀ t, I t → I1 (tput t c (((f + p / 4 : Nat) : Int), false))) (h2 : ∀ t, I1 t → I2 (tput t c (((f + (4 + p) : Nat) : Int), true))) (hN : N < 990000) :
    Calls Try.prog 10 #[.pointer (some ⟨g, 0, none⟩), .int .i64 (c : Int), .int .i64 (p : Int), .int .i64 v] w fun e w' => e = .returned (.int .i64 0) ∧ Rb I2 S w0 w' b g f k L (N + 2) (wd (upd V p v)) := by
  have HI : Hid (_ ∧ _ ∧ _) := ⟨h1, h2, h⟩
  clear h1 h2 h
  have d1 : decide (v < 0) = false := by simp; omega
  have d2 : decide ((p : Int) < 0) = false := by simp
  have d3 : decide (16 ≤ (p : Int)) = false := by simp; omega
  have i1 : ¬ v < 0 := by omega
  have i2 : ¬ 16 ≤ (p : Int) := by omega
  go_enter Try.func10, Try.ntmps10
  go_wp2_with fail
  refine (r_core_yes HI.out.2.2 c hc).mono ?_
  rintro e w' ⟨rfl, rfl⟩
  go_wp2_with fail
  refine (r_find HI.out.2.2 c p hc hp HI.out.1 (by omega)).mono ?_
  rintro e w1 ⟨rfl, h1⟩
  have H1 : Hid (_) := h1
  clear h1
  go_wp2_with fail
  refine (r_store H1.out c (4 + p) _ (by omega) v hc (by omega) HI.out.2.1 (by omega)).mono ?_
  rintro e w1 ⟨rfl, h1⟩
  rw [wd_upd] at h1
  have H2 : Hid (_) := h1
  clear h1
  go_wp2_with fail
  go_ret
  exact ⟨rfl, H2.out⟩

set_option maxRecDepth 100000 in
set_option maxHeartbeats 1000000 in
theorem r_get (h : Rb I S w0 w b g f k L N (wd V)) {I1 I2 : Trc → Prop} (c p : Nat) (hc : c < k) (hp : p < 16) (h1 : ∀ t, I t → I1 (tput t c (((f + p / 4 : Nat) : Int), false))) (h2 : ∀ t, I1 t → I2 (tput t c (((f + (4 + p) : Nat) : Int), false))) (hN : N < 990000) :
    Calls Try.prog 11 #[.pointer (some ⟨g, 0, none⟩), .int .i64 (c : Int), .int .i64 (p : Int)] w fun e w' => e = .returned (.tuple #[.int .i64 (V p), .int .i64 0]) ∧ Rb I2 S w0 w' b g f k L (N + 2) (wd V) := by
  have HI : Hid (_ ∧ _ ∧ _) := ⟨h1, h2, h⟩
  clear h1 h2 h
  have d2 : decide ((p : Int) < 0) = false := by simp
  have d3 : decide (16 ≤ (p : Int)) = false := by simp; omega
  have i2 : ¬ 16 ≤ (p : Int) := by omega
  go_enter Try.func11, Try.ntmps11
  go_wp2_with fail
  refine (r_core_yes HI.out.2.2 c hc).mono ?_
  rintro e w' ⟨rfl, rfl⟩
  go_wp2_with fail
  refine (r_find HI.out.2.2 c p hc hp HI.out.1 (by omega)).mono ?_
  rintro e w1 ⟨rfl, h1⟩
  have H1 : Hid (_) := h1
  clear h1
  go_wp2_with fail
  refine (r_load H1.out c (4 + p) _ (by omega) hc (by omega) HI.out.2.1 (by omega)).mono ?_
  rintro e w1 ⟨rfl, h1⟩
  rw [wd_leaf]
  have H2 : Hid (_) := h1
  clear h1
  go_wp2_with fail
  go_ret2
  exact ⟨rfl, H2.out⟩

set_option maxRecDepth 100000 in
set_option maxHeartbeats 1000000 in
theorem r_cut (h : Rb I S w0 w b g f k L N (wd V)) (c p : Nat) (hc : c < k) (hp : p ≤ 16) (h1 : Rd I c f) (h2 : Wr I c f) (hN : N < 990000) :
    Calls Try.prog 12 #[.pointer (some ⟨g, 0, none⟩), .int .i64 (c : Int), .int .i64 (p : Int)] w fun e w' => e = .returned (.int .i64 0) ∧ Rb I S w0 w' b g f k L (N + 48) (wd (cutV V p 16)) := by
  have HI : Hid (_ ∧ _ ∧ _) := ⟨h1, h2, h⟩
  clear h1 h2 h
  have d2 : decide ((p : Int) < 0) = false := by simp
  have d3 : decide (16 < (p : Int)) = false := by simp; omega
  have i2 : ¬ 16 < (p : Int) := by omega
  go_enter Try.func12, Try.ntmps12
  go_wp2_with fail
  refine (r_core_yes HI.out.2.2 c hc).mono ?_
  rintro e w' ⟨rfl, rfl⟩
  go_wp2_with fail
  go_loopw [2] (fun i wr => ∃ j : Nat, i = .int .i64 (j : Int) ∧ p ≤ j ∧ j ≤ 16 ∧ Hid (Rb I S w0 wr b g f k L (N + 3 * j) (wd (cutV V p j)))) (fun i _ => (16 - intOf i).toNat)
  case atStart => exact ⟨p, rfl, by omega, by omega, by rw [cutV_self]; exact Rb.mono HI.out.2.2 (by omega)⟩
  case round =>
    obtain ⟨j, rfl, hpj, hj, HJ⟩ := hrel
    by_cases hlt : j < 16
    · have i3 : (j : Int) < 16 := by omega
      go_wp2_with fail
      refine (r_find HJ.out c j hc hlt (HI.out.1 (j / 4) (by omega)) (by omega)).mono ?_
      rintro e w1 ⟨rfl, h1⟩
      have H1 : Hid (_) := h1
      clear h1 HJ
      go_wp2_with fail
      refine (r_load H1.out c (4 + j) _ (by omega) hc (by omega) (HI.out.1 (4 + j) (by omega)) (by omega)).mono ?_
      rintro e w2 ⟨rfl, h1⟩
      rw [wd_leaf, cutV_at]
      have H2 : Hid (_) := h1
      clear h1 H1
      obtain ⟨y, hy⟩ : ∃ y, V j = y := ⟨_, rfl⟩
      rw [hy]
      by_cases h0 : y = 0
      · have H3 : Hid (Rb I S w0 w2 b g f k L (N + 3 * (j + 1)) (wd (cutV V p (j + 1)))) := by
          have := H2.out
          rw [cutV_same (by rw [hy, h0])] at this
          exact Rb.mono this (by omega)
        clear H2
        subst h0
        clear hy
        go_wp2_with fail
        go_roundw
        case rel => exact ⟨j + 1, by go_num, by omega, by omega, H3.out⟩
        case measure => simp [intOf]; omega
      · have t0 : (y != 0) = true := by simpa using h0
        clear h0
        go_wp2_with fail
        refine (r_store H2.out c (4 + j) _ (by omega) 0 hc (by omega) (HI.out.2.1 (4 + j) (by omega) (by omega)) (by omega)).mono ?_
        rintro e w3 ⟨rfl, h1⟩
        rw [wd_upd, cutV_next hpj] at h1
        have H3 : Hid (_) := h1.mono (show _ ≤ N + 3 * (j + 1) by omega)
        clear h1 H2
        go_wp2_with fail
        go_roundw
        case rel => exact ⟨j + 1, by go_num, by omega, by omega, H3.out⟩
        case measure => simp [intOf]; omega
    · have e : j = 16 := by omega
      subst e
      have H3 : Hid (_) := Rb.mono HJ.out (show _ ≤ N + 48 by omega)
      clear HJ
      go_wp2_with fail
      go_ret
      exact ⟨rfl, H3.out⟩

set_option maxRecDepth 100000 in
set_option maxHeartbeats 1000000 in
/-- Pages: a row of its own, beside the blocks that there were. -/
theorem r_pages (h : Rb I S w0 w b g f k L N (wd V)) (c : Nat) (hc : c < k) (h1 : Rd I c f) (hN : N < 990000) :
    Calls Try.prog 18 #[.pointer (some ⟨g, 0, none⟩), .int .i64 (c : Int)] w fun e w' => ∃ u D, e = .returned u ∧ Od u (pg V 16) D ∧ Rb I (D ++ S) w0 w' b g f k L (N + 32) (wd V) ∧ ∀ x ∈ D, ∀ y ∈ S, y.1 ≠ x.1 := by
  have HI : Hid (_ ∧ _ ∧ _) := ⟨h1, h, h.mem⟩
  clear h1 h
  go_enter Try.func18, Try.ntmps18
  go_wp2_with fail
  refine (r_core_yes HI.out.2.1 c hc).mono ?_
  rintro e w' ⟨rfl, rfl⟩
  go_wp2_with fail
  go_loopw [11, 5] (fun i u wr => ∃ (j : Nat) (ua : Option Addr) (un uc : Nat), i = .int .i64 (j : Int) ∧ u = .slice ua un uc ∧ j ≤ 16 ∧ Hid (∃ D, Od (.slice ua un uc) (pg V j) D ∧ Rb I (D ++ S) w0 wr b g f k L (N + 2 * j) (wd V) ∧ ∀ x ∈ D, ∀ y ∈ S, y.1 ≠ x.1)) (fun i _ _ => (16 - intOf i).toNat)
  case atStart => exact ⟨0, _, _, _, rfl, rfl, by omega, [], Or.inl ⟨rfl, rfl, rfl⟩, HI.out.2.1, by simp⟩
  case round =>
    obtain ⟨j, ua, un, uc, rfl, rfl, hj, HJ⟩ := hrel
    obtain ⟨D, hu, hR, hd⟩ := HJ.out
    have HD : Hid (_ ∧ _) := ⟨hu, hd⟩
    have HR : Hid (_) := hR
    clear hu hd hR HJ
    by_cases hlt : j < 16
    · have i3 : (j : Int) < 16 := by omega
      go_wp2_with fail
      refine (r_find HR.out c j hc hlt (HI.out.1 (j / 4) (by omega)) (by omega)).mono ?_
      rintro e w1 ⟨rfl, h1⟩
      have H1 : Hid (_) := h1
      clear h1 HR
      go_wp2_with fail
      refine (r_load H1.out c (4 + j) _ (by omega) hc (by omega) (HI.out.1 (4 + j) (by omega)) (by omega)).mono ?_
      rintro e w2 ⟨rfl, h1⟩
      rw [wd_leaf]
      have H2 : Hid (_) := h1
      clear h1 H1
      obtain ⟨y, hy⟩ : ∃ y, V j = y := ⟨_, rfl⟩
      rw [hy]
      by_cases h0 : y = 0
      · have H3 : Hid (_ ∧ _ ∧ _) := ⟨HD.out.1, Rb.mono H2.out (show _ ≤ N + 2 * (j + 1) by omega), HD.out.2⟩
        rw [← pg_no (by rw [hy, h0])] at H3
        clear H2 HD
        subst h0
        clear hy
        go_wp2_with fail
        go_roundw
        case rel => exact ⟨j + 1, _, _, _, by go_num, rfl, by omega, D, H3.out⟩
        case measure => simp [intOf]; omega
      · have t0 : (y != 0) = true := by simpa using h0
        obtain ⟨v', w', D', hr, hu', hR', hd'⟩ := Rb.append H2.out HD.out.1 HI.out.2.2 HD.out.2 (j : Int) (by have := pg_len V j; omega) 31
        have hu2 : Od v' (pg V (j + 1)) D' := by rw [pg_yes (by rw [hy]; exact h0)]; exact hu'
        have H3 : Hid (_ ∧ _ ∧ _) := ⟨hu2, Rb.mono hR' (show _ ≤ N + 2 * (j + 1) by omega), hd'⟩
        have HA : Hid (_) := hr
        obtain ⟨va, vn, vc, rfl⟩ : ∃ a n c, v' = .slice a n c := by
          rcases hu' with ⟨h1, -⟩ | ⟨_, _, _, h1, -⟩
          · exact ⟨_, _, _, h1⟩
          · exact ⟨_, _, _, h1⟩
        clear h0 hy hr hu' hR' hd' hu2 H2 HD
        go_wp2_with (at_builtin; refine wpList_append_run _ rfl _ _ 31 31 rfl _ _ rfl rfl _ _ HA.out ?_)
        go_roundw
        case rel => exact ⟨j + 1, _, _, _, by go_num, rfl, by omega, D', H3.out⟩
        case measure => simp [intOf]; omega
    · have e : j = 16 := by omega
      subst e
      have H3 : Hid (_ ∧ _ ∧ _) := ⟨HD.out.1, Rb.mono HR.out (show _ ≤ N + 32 by omega), HD.out.2⟩
      clear HR HD
      go_wp2_with fail
      go_ret
      exact ⟨_, D, rfl, H3.out⟩

theorem r_pages_no (h : Rb I S w0 w b g f k L N W) (c : Int) (hc : c < 0 ∨ (k : Int) ≤ c) :
    Calls Try.prog 18 #[.pointer (some ⟨g, 0, none⟩), .int .i64 c] w fun e w' => e = .returned (.slice none 0 0) ∧ w' = w := by
  go_enter Try.func18, Try.ntmps18
  go_wp2_with fail
  refine (r_core_no h c hc).mono ?_
  rintro e w' ⟨rfl, rfl⟩
  go_wp2_with fail
  go_ret
  exact ⟨rfl, rfl⟩

theorem r_set_form (h : Rb I S w0 w b g f k L N W) (c p v : Int) (hc : (c < 0 ∨ (k : Int) ≤ c) ∨ v < 0) :
    Calls Try.prog 10 #[.pointer (some ⟨g, 0, none⟩), .int .i64 c, .int .i64 p, .int .i64 v] w fun e w' => e = .returned (.int .i64 701) ∧ w' = w := by
  by_cases hb : c < 0 ∨ (k : Int) ≤ c
  · go_enter Try.func10, Try.ntmps10
    go_wp2_with fail
    refine (r_core_no h c hb).mono ?_
    rintro e w' ⟨rfl, rfl⟩
    go_wp2_with fail
    go_ret
    exact ⟨rfl, rfl⟩
  · have hv : v < 0 := by rcases hc with h1 | h1; exact absurd h1 hb; exact h1
    obtain ⟨i, rfl⟩ := Int.eq_ofNat_of_zero_le (show 0 ≤ c by omega)
    have hi : i < k := by omega
    clear hb hc
    go_enter Try.func10, Try.ntmps10
    go_wp2_with fail
    refine (r_core_yes h i hi).mono ?_
    rintro e w' ⟨rfl, rfl⟩
    go_wp2_with fail
    go_ret
    exact ⟨rfl, rfl⟩

theorem r_set_page (h : Rb I S w0 w b g f k L N W) (c : Nat) (p v : Int) (hc : c < k) (hv : 0 ≤ v) (hp : p < 0 ∨ 16 ≤ p) :
    Calls Try.prog 10 #[.pointer (some ⟨g, 0, none⟩), .int .i64 (c : Int), .int .i64 p, .int .i64 v] w fun e w' => e = .returned (.int .i64 700) ∧ w' = w := by
  have i1 : ¬ v < 0 := by omega
  have d1 : decide (v < 0) = false := by simp; omega
  by_cases h0 : p < 0
  · have d2 : decide (p < 0) = true := by simp; omega
    clear hp
    go_enter Try.func10, Try.ntmps10
    go_wp2_with fail
    refine (r_core_yes h c hc).mono ?_
    rintro e w' ⟨rfl, rfl⟩
    go_wp2_with fail
    go_ret
    exact ⟨rfl, rfl⟩
  · have d2 : decide (p < 0) = false := by simp; omega
    have i2 : 16 ≤ p := by omega
    have d3 : decide (16 ≤ p) = true := by simp; omega
    clear hp
    go_enter Try.func10, Try.ntmps10
    go_wp2_with fail
    refine (r_core_yes h c hc).mono ?_
    rintro e w' ⟨rfl, rfl⟩
    go_wp2_with fail
    go_ret
    exact ⟨rfl, rfl⟩

theorem r_get_form (h : Rb I S w0 w b g f k L N W) (c p : Int) (hc : c < 0 ∨ (k : Int) ≤ c) :
    Calls Try.prog 11 #[.pointer (some ⟨g, 0, none⟩), .int .i64 c, .int .i64 p] w fun e w' => e = .returned (.tuple #[.int .i64 0, .int .i64 701]) ∧ w' = w := by
  go_enter Try.func11, Try.ntmps11
  go_wp2_with fail
  refine (r_core_no h c hc).mono ?_
  rintro e w' ⟨rfl, rfl⟩
  go_wp2_with fail
  go_ret2
  exact ⟨rfl, rfl⟩

theorem r_get_page (h : Rb I S w0 w b g f k L N W) (c : Nat) (p : Int) (hc : c < k) (hp : p < 0 ∨ 16 ≤ p) :
    Calls Try.prog 11 #[.pointer (some ⟨g, 0, none⟩), .int .i64 (c : Int), .int .i64 p] w fun e w' => e = .returned (.tuple #[.int .i64 0, .int .i64 700]) ∧ w' = w := by
  by_cases h0 : p < 0
  · have d2 : decide (p < 0) = true := by simp; omega
    clear hp
    go_enter Try.func11, Try.ntmps11
    go_wp2_with fail
    refine (r_core_yes h c hc).mono ?_
    rintro e w' ⟨rfl, rfl⟩
    go_wp2_with fail
    go_ret2
    exact ⟨rfl, rfl⟩
  · have d2 : decide (p < 0) = false := by simp; omega
    have i2 : 16 ≤ p := by omega
    have d3 : decide (16 ≤ p) = true := by simp; omega
    clear hp
    go_enter Try.func11, Try.ntmps11
    go_wp2_with fail
    refine (r_core_yes h c hc).mono ?_
    rintro e w' ⟨rfl, rfl⟩
    go_wp2_with fail
    go_ret2
    exact ⟨rfl, rfl⟩

theorem r_cut_form (h : Rb I S w0 w b g f k L N W) (c p : Int) (hc : c < 0 ∨ (k : Int) ≤ c) :
    Calls Try.prog 12 #[.pointer (some ⟨g, 0, none⟩), .int .i64 c, .int .i64 p] w fun e w' => e = .returned (.int .i64 701) ∧ w' = w := by
  go_enter Try.func12, Try.ntmps12
  go_wp2_with fail
  refine (r_core_no h c hc).mono ?_
  rintro e w' ⟨rfl, rfl⟩
  go_wp2_with fail
  go_ret
  exact ⟨rfl, rfl⟩

theorem r_cut_page (h : Rb I S w0 w b g f k L N W) (c : Nat) (p : Int) (hc : c < k) (hp : p < 0 ∨ 16 < p) :
    Calls Try.prog 12 #[.pointer (some ⟨g, 0, none⟩), .int .i64 (c : Int), .int .i64 p] w fun e w' => e = .returned (.int .i64 700) ∧ w' = w := by
  by_cases h0 : p < 0
  · have d2 : decide (p < 0) = true := by simp; omega
    clear hp
    go_enter Try.func12, Try.ntmps12
    go_wp2_with fail
    refine (r_core_yes h c hc).mono ?_
    rintro e w' ⟨rfl, rfl⟩
    go_wp2_with fail
    go_ret
    exact ⟨rfl, rfl⟩
  · have d2 : decide (p < 0) = false := by simp; omega
    have i2 : 16 < p := by omega
    have d3 : decide (16 < p) = true := by simp; omega
    clear hp
    go_enter Try.func12, Try.ntmps12
    go_wp2_with fail
    refine (r_core_yes h c hc).mono ?_
    rintro e w' ⟨rfl, rfl⟩
    go_wp2_with fail
    go_ret
    exact ⟨rfl, rfl⟩

end
end Go.Proofs.Ythndjlcibiaoiaa
