/-
  Descriptors of package fds: Open, Get, Close, New, and what every program answers.
-/
import Derived.Test.YtolbjmckebicfaaFx
namespace Go.Proofs.Ytolbjmckebicfaa
open Go.RowKit
set_option linter.unusedVariables false

section
variable {I : Trc → Prop} {S : List (Nat × Obj)} {w0 w : World} {b g f k L N : Nat} {W V : Nat → Nat → Int}

set_option maxRecDepth 100000 in
set_option maxHeartbeats 1000000 in
theorem d_num (h : Fb I S w0 w b g f k L N W) (c d : Nat) (y : Int) (hy : y = (d : Int)) (hc : c < k) (hd : d < 4) (hN : N < 1000000) :
    Calls Try.prog 24 #[.pointer (some ⟨g, 0, none⟩), .int .i64 (c : Int), .int .i64 y] w fun e w' => e = .returned (.int .i64 (W c d)) ∧ Fb I S w0 w' b g f k L (N + 1) W := by
  subst hy
  have hD := h.still (Kept.refl [] w).drew
  have HX : Hid (_ ∧ _) := ⟨hD, hD.cells⟩
  clear hD h
  go_enter Try.func24, Try.ntmps24
  go_wp2_with fail
  go_region_held3 (fun w' => w'.cell? ⟨g, 0, none⟩ = some (.pointer (some ⟨b, 0, none⟩)) ∧ w'.cell? ⟨g, 1, none⟩ = some (.int .i64 (f : Int))) (first | exact HX.out.2 | exact z1 | go_keep)
    (first
      | (go_at_call 29; refine (p_at HX.out.1 c d _ rfl hc hd).mono ?_; rintro e w1 ⟨rfl, rfl⟩)
      | (go_at_call 30; refine (a_load HX.out.1 c d _ rfl hc hd hN).mono ?_; rintro e w1 ⟨rfl, hk1⟩; have z1 := hk1.cells))
  have HN : Hid (_) := hk1
  clear hk1 z1 HX
  go_wp2_with fail
  go_ret
  exact ⟨rfl, HN.out⟩

set_option maxRecDepth 100000 in
set_option maxHeartbeats 1000000 in
theorem d_set (h : Fb I S w0 w b g f k L N W) (c d : Nat) (y : Int) (hy : y = (d : Int)) (v : Int) (hc : c < k) (hd : d < 4) (hN : N < 1000000) :
    Calls Try.prog 21 #[.pointer (some ⟨g, 0, none⟩), .int .i64 (c : Int), .int .i64 y, .int .i64 v] w fun e w' => e = .returned (.tuple #[]) ∧ Fb I S w0 w' b g f k L (N + 1) (upd W c d v) := by
  subst hy
  have hD := h.still (Kept.refl [] w).drew
  have HX : Hid (_ ∧ _) := ⟨hD, hD.cells⟩
  clear hD h
  go_enter Try.func21, Try.ntmps21
  go_wp2_with fail
  go_region_held3 (fun w' => w'.cell? ⟨g, 0, none⟩ = some (.pointer (some ⟨b, 0, none⟩)) ∧ w'.cell? ⟨g, 1, none⟩ = some (.int .i64 (f : Int))) (first | exact HX.out.2 | exact z1 | go_keep)
    (first
      | (go_at_call 29; refine (p_at HX.out.1 c d _ rfl hc hd).mono ?_; rintro e w1 ⟨rfl, rfl⟩)
      | (go_at_call 28; refine (a_store HX.out.1 c d _ rfl v hc hd hN).mono ?_; rintro e w1 ⟨rfl, hk1⟩; have z1 := hk1.cells))
  have HN : Hid (_) := hk1
  clear hk1 z1 HX
  go_wp2_with fail
  go_end0
  exact ⟨rfl, HN.out⟩

theorem d_wrong (h : Fb I S w0 w b g f k L N W) (c : Nat) (hc : c < k) :
    Calls Try.prog 23 #[.pointer (some ⟨g, 0, none⟩), .int .i64 (c : Int)] w fun e w' => e = .returned (.int .i64 0) ∧ w' = w := by
  obtain ⟨c0, c1⟩ := h.cells
  have d1 : decide ((c : Int) < 0) = false := by simp
  have d2 : decide ((k : Int) ≤ (c : Int)) = false := by simp; omega
  have i1 : (c : Int) < (k : Int) := by omega
  have HX : Hid (_) := h
  clear h
  go_enter Try.func23, Try.ntmps23
  go_wp2_with fail
  refine (n_cores HX.out).mono ?_
  rintro e w' ⟨rfl, rfl⟩
  go_wp2_with fail
  go_ret
  exact ⟨rfl, rfl⟩

theorem d_wrong_bad (h : Fb I S w0 w b g f k L N W) (c : Int) (hc : c < 0 ∨ (k : Int) ≤ c) :
    Calls Try.prog 23 #[.pointer (some ⟨g, 0, none⟩), .int .i64 c] w fun e w' => e = .returned (.int .i64 1200) ∧ w' = w := by
  obtain ⟨c0, c1⟩ := h.cells
  by_cases h0 : c < 0
  · have d1 : decide (c < 0) = true := by simp; omega
    go_enter Try.func23, Try.ntmps23
    go_wp2_with fail
    go_ret
    exact ⟨rfl, rfl⟩
  · have d1 : decide (c < 0) = false := by simp; omega
    have d2 : decide ((k : Int) ≤ c) = true := by simp; omega
    have i1 : ¬ c < (k : Int) := by omega
    go_enter Try.func23, Try.ntmps23
    go_wp2_with fail
    refine (n_cores h).mono ?_
    rintro e w' ⟨rfl, rfl⟩
    go_wp2_with fail
    go_ret
    exact ⟨rfl, rfl⟩

/-! ### Open -/

theorem d_open_bad (h : Fb I S w0 w b g f k L N W) (c x : Int) (hc : c < 0 ∨ (k : Int) ≤ c) :
    Calls Try.prog 10 #[.pointer (some ⟨g, 0, none⟩), .int .i64 c, .int .i64 x] w fun e w' => e = .returned (.tuple #[.int .i64 0, .int .i64 1200]) ∧ w' = w := by
  go_enter Try.func10, Try.ntmps10
  go_wp2_with fail
  refine (d_wrong_bad h c hc).mono ?_
  rintro e w' ⟨rfl, rfl⟩
  go_wp2_with fail
  go_ret2
  exact ⟨rfl, rfl⟩

theorem d_open_form (h : Fb I S w0 w b g f k L N W) (c : Nat) (x : Int) (hc : c < k) (hx : x < 1) :
    Calls Try.prog 10 #[.pointer (some ⟨g, 0, none⟩), .int .i64 (c : Int), .int .i64 x] w fun e w' => e = .returned (.tuple #[.int .i64 0, .int .i64 1200]) ∧ w' = w := by
  have i0 : x ≤ 0 := by omega
  go_enter Try.func10, Try.ntmps10
  go_wp2_with fail
  refine (d_wrong h c hc).mono ?_
  rintro e w' ⟨rfl, rfl⟩
  go_wp2_with fail
  go_ret2
  exact ⟨rfl, rfl⟩

set_option maxRecDepth 100000 in
set_option maxHeartbeats 2000000 in
theorem d_open_full (h : Fb I S w0 w b g f k L N W) (c : Nat) (x : Int) (hc : c < k) (hx : 1 ≤ x) (hW : ∀ d, d < 4 → W c d ≠ 0) (hN : N < 999990) :
    Calls Try.prog 10 #[.pointer (some ⟨g, 0, none⟩), .int .i64 (c : Int), .int .i64 x] w fun e w' => e = .returned (.tuple #[.int .i64 0, .int .i64 1201]) ∧ Fb I S w0 w' b g f k L (N + 4) W := by
  have i0 : ¬ x ≤ 0 := by omega
  have HX : Hid (_ ∧ _) := ⟨h, hW⟩
  clear h hW
  go_enter Try.func10, Try.ntmps10
  go_wp2_with fail
  refine (d_wrong HX.out.1 c hc).mono ?_
  rintro e w' ⟨rfl, hw⟩
  have hw2 := hw.symm
  subst hw2
  clear hw
  go_wp2_with fail
  go_loopw [18] (fun i wr => ∃ n : Nat, i = .int .i64 (n : Int) ∧ n ≤ 4 ∧ Hid (Fb I S w0 wr b g f k L (N + n) W)) (fun i _ => (4 - intOf i).toNat)
  case atStart => exact ⟨0, rfl, by omega, HX.out.1⟩
  case round =>
    obtain ⟨n, rfl, hn, HJ⟩ := hrel
    by_cases hlt : n < 4
    · have i1 : (n : Int) < 4 := by omega
      have HZ : Hid (W c n ≠ 0) := HX.out.2 n hlt
      go_wp2_with fail
      refine (d_num HJ.out c n _ rfl hc hlt (by omega)).mono ?_
      rintro e w1 ⟨rfl, h1⟩
      have H1 : Hid (_) := h1
      clear h1 HJ
      have i2 : ¬ W c n = 0 := HZ.out
      have i3 : (W c n == 0) = false := by simpa using HZ.out
      go_wp2_with fail
      go_roundw
      case rel => exact ⟨n + 1, by go_num, by omega, H1.out⟩
      case measure => simp [intOf]; omega
    · have e : n = 4 := by omega
      subst e
      go_wp2_with fail
      go_ret2
      exact ⟨rfl, HJ.out⟩

set_option maxRecDepth 100000 in
set_option maxHeartbeats 2000000 in
theorem d_open (h : Fb I S w0 w b g f k L N W) (c : Nat) (x : Int) (hc : c < k) (hx : 1 ≤ x) (d : Nat) (hd : d < 4) (hW0 : W c d = 0) (hW : ∀ j, j < d → W c j ≠ 0) (hN : N < 999990) :
    Calls Try.prog 10 #[.pointer (some ⟨g, 0, none⟩), .int .i64 (c : Int), .int .i64 x] w fun e w' => e = .returned (.tuple #[.int .i64 (d : Int), .int .i64 0]) ∧ Fb I S w0 w' b g f k L (N + 5) (upd W c d x) := by
  have i0 : ¬ x ≤ 0 := by omega
  have HX : Hid (_ ∧ _ ∧ _) := ⟨h, hW, hW0⟩
  clear h hW hW0
  go_enter Try.func10, Try.ntmps10
  go_wp2_with fail
  refine (d_wrong HX.out.1 c hc).mono ?_
  rintro e w' ⟨rfl, hw⟩
  have hw2 := hw.symm
  subst hw2
  clear hw
  go_wp2_with fail
  go_loopw [18] (fun i wr => ∃ n : Nat, i = .int .i64 (n : Int) ∧ n ≤ d ∧ Hid (Fb I S w0 wr b g f k L (N + n) W)) (fun i _ => (4 - intOf i).toNat)
  case atStart => exact ⟨0, rfl, by omega, HX.out.1⟩
  case round =>
    obtain ⟨n, rfl, hn, HJ⟩ := hrel
    have i1 : (n : Int) < 4 := by omega
    by_cases hlt : n < d
    · have HZ : Hid (W c n ≠ 0) := HX.out.2.1 n hlt
      go_wp2_with fail
      refine (d_num HJ.out c n _ rfl hc (by omega) (by omega)).mono ?_
      rintro e w1 ⟨rfl, h1⟩
      have H1 : Hid (_) := h1
      clear h1 HJ
      have i2 : ¬ W c n = 0 := HZ.out
      have i3 : (W c n == 0) = false := by simpa using HZ.out
      go_wp2_with fail
      go_roundw
      case rel => exact ⟨n + 1, by go_num, by omega, H1.out⟩
      case measure => simp [intOf]; omega
    · have e : n = d := by omega
      subst e
      have HZ : Hid (W c n = 0) := HX.out.2.2
      go_wp2_with fail
      refine (d_num HJ.out c n _ rfl hc hd (by omega)).mono ?_
      rintro e w1 ⟨rfl, h1⟩
      rw [HZ.out]
      have H1 : Hid (_) := h1
      clear h1 HJ
      go_wp2_with fail
      refine (d_set H1.out c n _ rfl x hc hd (by omega)).mono ?_
      rintro e w2 ⟨rfl, h2⟩
      have H2 : Hid (_) := h2.mono (show _ ≤ N + 5 by omega)
      clear h2 H1
      go_wp2_with fail
      go_ret2
      exact ⟨rfl, H2.out⟩

/-! ### Get, Close -/

/-- What a core's descriptor is for: 0, if it has it not. -/
def val (W : Nat → Nat → Int) (c : Nat) (x : Int) : Int := if 0 ≤ x ∧ x < 4 then W c x.toNat else 0

theorem val_nat (W : Nat → Nat → Int) (c d : Nat) (hd : d < 4) : val W c (d : Int) = W c d := by
  unfold val
  rw [if_pos (by omega), Int.toNat_natCast]

theorem d_get_bad (h : Fb I S w0 w b g f k L N W) (c x : Int) (hc : c < 0 ∨ (k : Int) ≤ c) :
    Calls Try.prog 18 #[.pointer (some ⟨g, 0, none⟩), .int .i64 c, .int .i64 x] w fun e w' => e = .returned (.tuple #[.int .i64 0, .int .i64 1200]) ∧ w' = w := by
  go_enter Try.func18, Try.ntmps18
  go_wp2_with fail
  refine (d_wrong_bad h c hc).mono ?_
  rintro e w' ⟨rfl, rfl⟩
  go_wp2_with fail
  go_ret2
  exact ⟨rfl, rfl⟩

set_option maxRecDepth 100000 in
set_option maxHeartbeats 1000000 in
theorem d_get (h : Fb I S w0 w b g f k L N W) (c : Nat) (x : Int) (hc : c < k) (hx : val W c x ≠ 0) (hN : N < 999990) :
    Calls Try.prog 18 #[.pointer (some ⟨g, 0, none⟩), .int .i64 (c : Int), .int .i64 x] w fun e w' => e = .returned (.tuple #[.int .i64 (val W c x), .int .i64 0]) ∧ Fb I S w0 w' b g f k L (N + 1) W := by
  have hx4 : 0 ≤ x ∧ x < 4 := by
    refine Decidable.byContradiction fun h => hx ?_
    unfold val
    rw [if_neg h]
  obtain ⟨d, rfl⟩ := Int.eq_ofNat_of_zero_le hx4.1
  have hd : d < 4 := by omega
  rw [val_nat W c d hd] at hx ⊢
  have d1 : decide ((d : Int) < 0) = false := by simp
  have d2 : decide ((4 : Int) ≤ (d : Int)) = false := by simp; omega
  have i1 : (d : Int) < 4 := by omega
  have HX : Hid (_ ∧ _) := ⟨h, hx⟩
  clear h hx
  go_enter Try.func18, Try.ntmps18
  go_wp2_with fail
  refine (d_wrong HX.out.1 c hc).mono ?_
  rintro e w' ⟨rfl, hw⟩
  have hw2 := hw.symm
  subst hw2
  clear hw
  go_wp2_with fail
  refine (d_num HX.out.1 c d _ rfl hc hd (by omega)).mono ?_
  rintro e w1 ⟨rfl, h1⟩
  have H1 : Hid (_) := h1
  have i2 : ¬ W c d = 0 := HX.out.2
  have i3 : (W c d == 0) = false := by simpa using HX.out.2
  clear h1 HX
  go_wp2_with fail
  go_ret2
  exact ⟨rfl, H1.out⟩

set_option maxRecDepth 100000 in
set_option maxHeartbeats 1000000 in
theorem d_get_none (h : Fb I S w0 w b g f k L N W) (c : Nat) (x : Int) (hc : c < k) (hx : val W c x = 0) (hN : N < 999990) :
    Calls Try.prog 18 #[.pointer (some ⟨g, 0, none⟩), .int .i64 (c : Int), .int .i64 x] w fun e w' => e = .returned (.tuple #[.int .i64 0, .int .i64 1202]) ∧ Fb I S w0 w' b g f k L (N + 1) W := by
  by_cases h0 : x < 0
  · have d1 : decide (x < 0) = true := by simp; omega
    have HX : Hid (_) := h
    clear h
    go_enter Try.func18, Try.ntmps18
    go_wp2_with fail
    refine (d_wrong HX.out c hc).mono ?_
    rintro e w' ⟨rfl, hw⟩
    have hw2 := hw.symm
    subst hw2
    clear hw
    go_wp2_with fail
    go_ret2
    exact ⟨rfl, HX.out.mono (by omega)⟩
  · have d1 : decide (x < 0) = false := by simp; omega
    by_cases h4 : x < 4
    · obtain ⟨d, rfl⟩ := Int.eq_ofNat_of_zero_le (show 0 ≤ x by omega)
      have hd : d < 4 := by omega
      rw [val_nat W c d hd] at hx
      have d2 : decide ((4 : Int) ≤ (d : Int)) = false := by simp; omega
      have i1 : (d : Int) < 4 := by omega
      have HX : Hid (_ ∧ _) := ⟨h, hx⟩
      clear h hx
      go_enter Try.func18, Try.ntmps18
      go_wp2_with fail
      refine (d_wrong HX.out.1 c hc).mono ?_
      rintro e w' ⟨rfl, hw⟩
      have hw2 := hw.symm
      subst hw2
      clear hw
      go_wp2_with fail
      refine (d_num HX.out.1 c d _ rfl hc hd (by omega)).mono ?_
      rintro e w1 ⟨rfl, h1⟩
      rw [HX.out.2]
      have H1 : Hid (_) := h1
      clear h1 HX
      go_wp2_with fail
      go_ret2
      exact ⟨rfl, H1.out⟩
    · have d2 : decide ((4 : Int) ≤ x) = true := by simp; omega
      have i1 : ¬ x < 4 := by omega
      have HX : Hid (_) := h
      clear h
      go_enter Try.func18, Try.ntmps18
      go_wp2_with fail
      refine (d_wrong HX.out c hc).mono ?_
      rintro e w' ⟨rfl, hw⟩
      have hw2 := hw.symm
      subst hw2
      clear hw
      go_wp2_with fail
      go_ret2
      exact ⟨rfl, HX.out.mono (by omega)⟩

theorem d_close_bad (h : Fb I S w0 w b g f k L N W) (c x : Int) (hc : c < 0 ∨ (k : Int) ≤ c) :
    Calls Try.prog 11 #[.pointer (some ⟨g, 0, none⟩), .int .i64 c, .int .i64 x] w fun e w' => e = .returned (.int .i64 1200) ∧ w' = w := by
  go_enter Try.func11, Try.ntmps11
  go_wp2_with fail
  refine (d_get_bad h c x hc).mono ?_
  rintro e w' ⟨rfl, rfl⟩
  go_wp2_with fail
  go_ret
  exact ⟨rfl, rfl⟩

theorem d_close_none (h : Fb I S w0 w b g f k L N W) (c : Nat) (x : Int) (hc : c < k) (hx : val W c x = 0) (hN : N < 999990) :
    Calls Try.prog 11 #[.pointer (some ⟨g, 0, none⟩), .int .i64 (c : Int), .int .i64 x] w fun e w' => e = .returned (.int .i64 1202) ∧ Fb I S w0 w' b g f k L (N + 2) W := by
  have HX : Hid (_ ∧ _) := ⟨h, hx⟩
  clear h hx
  go_enter Try.func11, Try.ntmps11
  go_wp2_with fail
  refine (d_get_none HX.out.1 c x hc HX.out.2 hN).mono ?_
  rintro e w1 ⟨rfl, h1⟩
  have H1 : Hid (_) := h1
  clear h1 HX
  go_wp2_with fail
  go_ret
  exact ⟨rfl, H1.out.mono (by omega)⟩

set_option maxRecDepth 100000 in
set_option maxHeartbeats 1000000 in
theorem d_close (h : Fb I S w0 w b g f k L N W) (c d : Nat) (x : Int) (hx : x = (d : Int)) (hc : c < k) (hd : d < 4) (hW : W c d ≠ 0) (hN : N < 999990) :
    Calls Try.prog 11 #[.pointer (some ⟨g, 0, none⟩), .int .i64 (c : Int), .int .i64 x] w fun e w' => e = .returned (.int .i64 0) ∧ Fb I S w0 w' b g f k L (N + 2) (upd W c d 0) := by
  subst hx
  have HX : Hid (_ ∧ _) := ⟨h, hW⟩
  clear h hW
  go_enter Try.func11, Try.ntmps11
  go_wp2_with fail
  refine (d_get HX.out.1 c (d : Int) hc (by rw [val_nat W c d hd]; exact HX.out.2) hN).mono ?_
  rintro e w1 ⟨rfl, h1⟩
  have H1 : Hid (_) := h1
  clear h1 HX
  go_wp2_with fail
  refine (d_set H1.out c d _ rfl 0 hc hd (by omega)).mono ?_
  rintro e w2 ⟨rfl, h2⟩
  have H2 : Hid (_) := h2
  clear h2 H1
  go_wp2_with fail
  go_ret
  exact ⟨rfl, H2.out⟩

/-! ### New -/

theorem Fb.made {A : Ar} (h : Hs S w0 w b A) (hg : (g, box b f) ∈ S) (hf : f + 4 * A.traces.length ≤ A.words.length) (hN : ∀ c, (A.traces.getD c []).length ≤ N) (hI : ∀ t c d bw, c < A.traces.length → d < 4 → I t → I (tput t c ((pl f c d : Int), bw))) (hI0 : I fun c => A.traces.getD c []) :
    Fb I S w0 w b g f A.traces.length A.words.length N (fun c d => wordAt A.words (pl f c d)) :=
  ⟨h.size.1, h.size.2, hf, by obtain ⟨hK, p, rfl, hf, hm, hs⟩ := h; exact hm.hi, hg, hI, A, h, rfl, rfl, hN, hI0, fun _ _ _ _ => rfl⟩

/-- The words, those ahead of place n of core c as New leaves them. -/
def gw (W : Nat → Nat → Int) (c n : Nat) : Nat → Nat → Int := fun c' d => if c' < c ∨ (c' = c ∧ d < n) then 0 else W c' d

theorem gw_next (W : Nat → Nat → Int) (c n : Nat) : upd (gw W c n) c n 0 = gw W c (n + 1) := by
  funext c' d
  unfold upd gw
  by_cases e : c' = c ∧ d = n
  · rw [if_pos e, if_pos (by omega)]
  · rw [if_neg e]
    by_cases e2 : c' < c ∨ (c' = c ∧ d < n)
    · rw [if_pos e2, if_pos (by omega)]
    · rw [if_neg e2, if_neg (by omega)]

set_option maxRecDepth 100000 in
set_option maxHeartbeats 2000000 in
theorem n_new {A : Ar} (h : Hs S w0 w b A) (f : Nat) (x : Int) (hx : x = (f : Int)) (k L : Nat) (hk : A.traces.length = k) (hL : A.words.length = L) (hf : f + 4 * k ≤ L) (hN : ∀ c, (A.traces.getD c []).length ≤ N) (hN2 : N < 990000) (hI : ∀ t c d bw, c < k → d < 4 → I t → I (tput t c ((pl f c d : Int), bw))) (hI0 : I fun c => A.traces.getD c []) :
    Calls Try.prog 7 #[.pointer (some ⟨b, 0, none⟩), .int .i64 x] w fun e w' => ∃ g, e = .returned (.tuple #[.pointer (some ⟨g, 0, none⟩), .int .i64 0]) ∧ Fb I ((g, box b f) :: S) w0 w' b g f k L (N + 4 * k) (fun _ _ => 0) := by
  subst hx
  have H0 : Hid (_) := Fb.made (I := I) (h.push (box b f)) (List.mem_cons_self ..) (show f + 4 * A.traces.length ≤ A.words.length by omega) hN (by rw [hk]; exact hI) hI0
  have hL2 : L ≤ 65536 := by rw [← hL]; exact H0.out.lhi
  have hk2 : k ≤ 8 := by rw [← hk]; exact H0.out.khi
  rw [hk, hL] at H0
  obtain ⟨W0, hW0⟩ : ∃ W0, W0 = w.alloc (box b f) := ⟨_, rfl⟩
  rw [← hW0] at H0
  have HW : Hid (w.alloc (.cells #[.pointer (some ⟨b, 0, none⟩), .int .i64 (f : Int)] 55 (0, 0)) = W0) := hW0.symm
  clear hW0 hI0
  have HA : Hid (_ ∧ _ ∧ _ ∧ _) := ⟨h, hL, hk, hI⟩
  clear h hk hL hN hI
  have d1 : decide ((f : Int) < 0) = false := by simp
  have i2 : ¬ (L : Int) - (f : Int) < 4 * (k : Int) := by omega
  have d3 : decide ((L : Int) - (f : Int) < 4 * (k : Int)) = false := by simp; omega
  go_enter Try.func7, Try.ntmps7
  go_wp2_with fail
  refine (h_cores HA.out.1).mono ?_
  rintro e w1 ⟨rfl, hw⟩
  have hw2 := hw.symm
  subst hw2
  clear hw
  rw [HA.out.2.2.1]
  go_wp2_with fail
  refine (h_words HA.out.1).mono ?_
  rintro e w1 ⟨rfl, hw⟩
  have hw2 := hw.symm
  subst hw2
  clear hw
  rw [HA.out.2.1]
  go_wp2_with fail
  rw [HW.out]
  refine (n_cores H0.out).mono ?_
  rintro e w1 ⟨rfl, hw⟩
  have hw2 := hw.symm
  subst hw2
  clear hw
  go_wp2_with fail
  go_loopw [29] (fun i wr => ∃ c : Nat, i = .int .i64 (c : Int) ∧ c ≤ k ∧ Hid (∃ W, Fb I ((w.heap.size, box b f) :: S) w0 wr b w.heap.size f k L (N + 4 * c) (gw W c 0))) (fun i _ => (k - intOf i).toNat)
  case atStart => exact ⟨0, rfl, by omega, _, H0.out.as (W' := gw _ 0 0) (fun c d _ _ => by unfold gw; rw [if_neg (by omega)])⟩
  case round =>
    obtain ⟨c, rfl, hn, HJ⟩ := hrel
    clear H0
    by_cases hlt : c < k
    · have i0 : (c : Int) < (k : Int) := by omega
      go_wp2_with fail
      go_loopw [32] (fun i wr => ∃ n : Nat, i = .int .i64 (n : Int) ∧ n ≤ 4 ∧ Hid (∃ W, Fb I ((w.heap.size, box b f) :: S) w0 wr b w.heap.size f k L (N + 4 * c + n) (gw W c n))) (fun i _ => (4 - intOf i).toNat)
      case atStart => exact ⟨0, rfl, by omega, HJ.out⟩
      case round =>
        obtain ⟨n, rfl, hn4, HQ⟩ := hrel
        clear HJ
        by_cases hlt4 : n < 4
        · have i1 : (n : Int) < 4 := by omega
          go_wp2_with fail
          obtain ⟨W, hW⟩ := HQ.out
          refine (d_set hW c n _ rfl 0 hlt hlt4 (by omega)).mono ?_
          rintro e w1 ⟨rfl, h1⟩
          rw [gw_next] at h1
          have H1 : Hid (_) := h1
          clear h1 HQ hW
          go_wp2_with fail
          go_roundw
          case rel => exact ⟨n + 1, by go_num, by omega, _, H1.out⟩
          case measure => simp [intOf]; omega
        · have e4 : n = 4 := by omega
          subst e4
          obtain ⟨W, hW⟩ := HQ.out
          have H1 : Hid (_) := (hW.mono (show _ ≤ N + 4 * (c + 1) by omega)).as (W' := gw W (c + 1) 0) fun c' d _ hd => by
            unfold gw
            by_cases e : c' < c + 1
            · rw [if_pos (by omega), if_pos (by omega)]
            · rw [if_neg (by omega), if_neg (by omega)]
          clear HQ hW
          go_wp2_with fail
          go_roundw
          case rel => exact ⟨c + 1, by go_num, by omega, _, H1.out⟩
          case measure => simp [intOf]; omega
    · have e : c = k := by omega
      subst e
      obtain ⟨W, hW⟩ := HJ.out
      have H1 : Hid (_) := hW.as (W' := fun _ _ => 0) fun c' d hc' _ => by unfold gw; rw [if_pos (by omega)]
      clear HJ HW HA hW
      go_wp2_with fail
      go_ret2
      exact ⟨_, rfl, H1.out⟩

theorem n_clear (h : Fb I S w0 w b g f k L N W) (c : Nat) (hc : c < k) (hI : ∀ t, I t → I (tclr t c)) :
    Calls Try.prog 9 #[.pointer (some ⟨b, 0, none⟩), .int .i64 (c : Int)] w fun e w' => e = .returned (.int .i64 0) ∧ Fb I S w0 w' b g f k L N W := by
  obtain ⟨a1, a2, a3, a4, hS, hst, A, hH, h1, h2, h3, h4, h5⟩ := h
  refine (h_clear hH (c : Int) (by omega) (by omega)).mono ?_
  rintro e w' ⟨rfl, h6⟩
  simp only [Int.toNat_natCast] at h6
  refine ⟨rfl, a1, a2, a3, a4, hS, hst, _, h6, h1, by rw [clear_cores]; exact h2, fun d => ?_, ?_, h5⟩
  · rw [clear_trace _ _ _ (by omega)]
    by_cases e : d = c
    · rw [if_pos e]; exact Nat.zero_le _
    · rw [if_neg e]; exact h3 d
  · have e : (fun d => (A.clear c).traces.getD d []) = tclr (fun d => A.traces.getD d []) c := by
      funext d
      rw [clear_trace _ _ _ (by omega)]
      rfl
    rw [e]
    exact hI _ h4

theorem n_trace (h : Fb I S w0 w b g f k L N W) (c : Nat) (hc : c < k) (hN : N < 100000) :
    Calls Try.prog 16 #[.pointer (some ⟨b, 0, none⟩), .int .i64 (c : Int)] w fun e w' => ∃ u t, e = .returned u ∧ I t ∧ Row w' u (t c) ∧ (t c).length ≤ N ∧ Kept [] w w' := by
  obtain ⟨a1, a2, a3, a4, hS, hst, A, hH, h1, h2, h3, h4, h5⟩ := h
  refine (h_trace hH (c : Int) (by omega) (by omega) (by have := h3 c; simp only [Int.toNat_natCast]; omega)).mono ?_
  rintro e w' ⟨u, he, hr, -, hk⟩
  exact ⟨u, _, he, h4, hr, h3 c, hk⟩

end

theorem fresh_traces (n c d : Nat) : (fresh n c).traces.getD d [] = [] := by
  simp only [fresh, List.getD, List.getElem?_replicate]
  split <;> rfl

theorem fresh_few (n c : Nat) (N : Nat) : ∀ d, ((fresh n c).traces.getD d []).length ≤ N := fun d => by rw [fresh_traces]; exact Nat.zero_le _

theorem fresh_len (n c : Nat) : (fresh n c).words.length = n ∧ (fresh n c).traces.length = c := by simp [fresh]

/-- New, of an arena that was just made. -/
theorem f_new {I : Trc → Prop} {S : List (Nat × Obj)} {w0 w : World} {b L k : Nat} (h : Hs S w0 w b (fresh L k)) (f : Nat) (x : Int) (hx : x = (f : Int)) (hf : f + 4 * k ≤ L) (hI : ∀ t c d bw, c < k → d < 4 → I t → I (tput t c ((pl f c d : Int), bw))) (hI0 : I fun _ => []) :
    Calls Try.prog 7 #[.pointer (some ⟨b, 0, none⟩), .int .i64 x] w fun e w' => ∃ g, e = .returned (.tuple #[.pointer (some ⟨g, 0, none⟩), .int .i64 0]) ∧ Fb I ((g, box b f) :: S) w0 w' b g f k L (0 + 4 * k) (fun _ _ => 0) :=
  n_new (I := I) (N := 0) h f x hx k L (fresh_len L k).2 (fresh_len L k).1 hf (fresh_few L k 0) (by omega) hI (by rw [show (fun c => (fresh L k).traces.getD c []) = (fun _ => []) from funext (fresh_traces L k)]; exact hI0)

/-- Whatever the traces are. -/
def AnyT : Trc → Prop := fun _ => True

set_option maxRecDepth 100000 in
set_option maxHeartbeats 4000000 in
theorem awake_any (w : World) : Calls Try.prog 17 #[] w fun e w' => e = .returned (.bool true) ∧ Kept [] w w' := by
  go_enter Try.func17, Try.ntmps17
  go_wp2_with fail
  refine (h_new w 8 2 (by omega) (by omega) (by omega) (by omega)).mono ?_
  rintro e w1 ⟨b, rfl, hm⟩
  have H1 : Hid (_) := hm
  clear hm
  go_wp2_with fail
  refine (f_new (I := AnyT) (k := 2) (L := 8) H1.out 0 _ rfl (by omega) (fun _ _ _ _ _ _ _ => trivial) trivial).mono ?_
  rintro e w2 ⟨g, rfl, h2⟩
  have H2 : Hid (_) := h2
  clear h2 H1
  go_wp2_with fail
  refine (d_open H2.out 1 9 (by omega) (by omega) 0 (by omega) rfl (fun j hj => by omega) (by omega)).mono ?_
  rintro e w3 ⟨rfl, h3⟩
  have H3 : Hid (_) := h3
  clear h3 H2
  go_wp2_with fail
  refine (d_get H3.out 1 0 (by omega) (by show (9 : Int) ≠ 0; omega) (by omega)).mono ?_
  rintro e w4 ⟨rfl, h4⟩
  have H4 : Hid (_) := h4
  rw [show val (upd (fun _ _ => 0) 1 0 9) 1 0 = 9 from rfl]
  clear h4 H3
  go_wp2_with fail
  refine (d_get_none H4.out 0 0 (by omega) rfl (by omega)).mono ?_
  rintro e w5 ⟨rfl, h5⟩
  have H5 : Hid (_) := h5
  clear h5 H4
  go_wp2_with fail
  refine (d_close H5.out 1 0 _ rfl (by omega) (by omega) (by show (9 : Int) ≠ 0; omega) (by omega)).mono ?_
  rintro e w6 ⟨rfl, h6⟩
  have H6 : Hid (_) := h6
  clear h6 H5
  go_wp2_with fail
  refine (d_close_none H6.out 1 0 (by omega) rfl (by omega)).mono ?_
  rintro e w7 ⟨rfl, h7⟩
  have H7 : Hid (_) := h7
  clear h7 H6
  go_wp2_with fail
  refine (d_open_bad H7.out 2 1 (by omega)).mono ?_
  rintro e w8 ⟨rfl, hw⟩
  have hw2 := hw.symm
  subst hw2
  have H8 : Hid (_) := H7.out.old
  clear H7 hw
  go_wp2_with (first
    | (go_at_call 8; refine (num _ _).mono ?_; rintro e w' ⟨rfl, rfl⟩))
  go_ret
  exact ⟨rfl, H8.out⟩

end Go.Proofs.Ytolbjmckebicfaa
