/-
  A tree of package radix: how it is made.
-/
import Derived.Test.YthndjlcibiaoiaaRo
namespace Go.Proofs.Ythndjlcibiaoiaa
open Go.RowKit
set_option linter.unusedVariables false

/-- The words, those ahead of place n as New leaves them. -/
def gw (W : Nat → Int) (n : Nat) : Nat → Int := fun q => if q < n then wd (fun _ => 0) q else W q

theorem gw_next (W : Nat → Int) (n : Nat) (v : Int) (hv : v = wd (fun _ => 0) n) : upd (gw W n) n v = gw W (n + 1) := by
  funext q
  unfold upd gw
  by_cases e : q = n
  · rw [if_pos e, if_pos (by omega), e]; exact hv
  · rw [if_neg e]
    by_cases e2 : q < n
    · rw [if_pos e2, if_pos (by omega)]
    · rw [if_neg e2, if_neg (by omega)]

theorem words_any {w : World} {p : Ap} {A : Ar} (h : ArIs 53 w p A) :
    Calls Try.prog 20 #[.pointer (some ⟨p.b, 0, none⟩)] w fun e w' => e = .returned (.int .i64 (A.words.length : Int)) ∧ w' = w := by
  obtain ⟨c0, c1⟩ := h.cell
  go_enter Try.func20, Try.ntmps20
  go_wp2
  go_ret
  exact ⟨rfl, rfl⟩

theorem h_words {S : List (Nat × Obj)} {w0 w : World} {b : Nat} {A : Ar} (h : Hs S w0 w b A) : Calls Try.prog 20 #[.pointer (some ⟨b, 0, none⟩)] w fun e w' => e = .returned (.int .i64 (A.words.length : Int)) ∧ w' = w := by
  obtain ⟨hK, p, rfl, hf, hm, hs⟩ := h
  exact words_any hm

section
variable {I : Trc → Prop} {S : List (Nat × Obj)} {w0 w : World} {b g f k L N : Nat} {W V : Nat → Int}

set_option maxRecDepth 100000 in
set_option maxHeartbeats 1000000 in
theorem r_grow (h : Rb I S w0 w b g f k L N W) (hI : ∀ q, q < 20 → ∀ t, I t → I (tput t 0 (((f + q : Nat) : Int), true))) (hN : N < 990000) :
    Calls Try.prog 21 #[.pointer (some ⟨g, 0, none⟩)] w fun e w' => e = .returned (.tuple #[]) ∧ Rb I S w0 w' b g f k L (N + 20) (wd fun _ => 0) := by
  have k1 := h.klo
  have HI : Hid (_ ∧ _) := ⟨hI, h⟩
  clear hI h
  go_enter Try.func21, Try.ntmps21
  go_wp2_with fail
  go_loopw [5] (fun i wr => ∃ n : Nat, i = .int .i64 (n : Int) ∧ n ≤ 5 ∧ Hid (Rb I S w0 wr b g f k L (N + n * 4) (gw W (n * 4)))) (fun i _ => (5 - intOf i).toNat)
  case atStart => exact ⟨0, rfl, by omega, Rb.as HI.out.2 fun q _ => by unfold gw; rw [if_neg (by omega)]⟩
  case round =>
    obtain ⟨n, rfl, hn, HJ⟩ := hrel
    by_cases hlt : n < 5
    · have i0 : (n : Int) < 5 := by omega
      go_wp2_with fail
      go_loopw [8] (fun i wr => ∃ d : Nat, i = .int .i64 (d : Int) ∧ d ≤ 4 ∧ Hid (Rb I S w0 wr b g f k L (N + (n * 4 + d)) (gw W (n * 4 + d)))) (fun i _ => (4 - intOf i).toNat)
      case atStart => exact ⟨0, rfl, by omega, HJ.out⟩
      case round =>
        clear HJ
        obtain ⟨d, rfl, hd, HJ⟩ := hrel
        by_cases hld : d < 4
        · have i1 : (d : Int) < 4 := by omega
          by_cases h0 : n = 0
          · have i2 : (n : Int) < 1 := by omega
            have HN : Hid (_) := h0
            clear h0
            go_wp2_with fail
            refine (r_placeAt HJ.out n d _ _ rfl rfl (by omega) hld).mono ?_
            rintro e w1 ⟨rfl, rfl⟩
            go_wp2_with fail
            refine (r_store HJ.out 0 (n * 4 + d) _ (by omega) _ (by omega) (by omega) (HI.out.1 _ (by omega)) (by omega)).mono ?_
            rintro e w1 ⟨rfl, h1⟩
            rw [gw_next _ _ _ (by have := HN.out; rw [wd_root _ (by omega)]; omega)] at h1
            have H1 : Hid (_) := h1
            clear h1 HJ
            go_wp2_with fail
            go_roundw
            case rel => exact ⟨d + 1, by go_num, by omega, H1.out⟩
            case measure => simp [intOf]; omega
          · have i2 : ¬ (n : Int) < 1 := by omega
            clear h0
            go_wp2_with fail
            refine (r_placeAt HJ.out n d _ _ rfl rfl (by omega) hld).mono ?_
            rintro e w1 ⟨rfl, rfl⟩
            go_wp2_with fail
            refine (r_store HJ.out 0 (n * 4 + d) _ (by omega) _ (by omega) (by omega) (HI.out.1 _ (by omega)) (by omega)).mono ?_
            rintro e w1 ⟨rfl, h1⟩
            rw [gw_next _ _ _ (by unfold wd; rw [if_neg (by omega)])] at h1
            have H1 : Hid (_) := h1
            clear h1 HJ
            go_wp2_with fail
            go_roundw
            case rel => exact ⟨d + 1, by go_num, by omega, H1.out⟩
            case measure => simp [intOf]; omega
        · have e : d = 4 := by omega
          subst e
          have H1 : Hid (_) := HJ.out
          rw [show n * 4 + 4 = (n + 1) * 4 by omega] at H1
          clear HJ
          go_wp2_with fail
          go_roundw
          case rel => exact ⟨n + 1, by go_num, by omega, H1.out⟩
          case measure => simp [intOf]; omega
    · have e : n = 5 := by omega
      subst e
      have H1 : Hid (_) := Rb.as HJ.out (W' := wd fun _ => 0) fun q hq => by unfold gw; rw [if_pos (by omega)]
      clear HJ
      go_wp2_with fail
      go_end0
      exact ⟨rfl, H1.out⟩

theorem Rb.made {A : Ar} (h : Hs S w0 w b A) (hg : (g, box b f) ∈ S) (hf : f + 20 ≤ A.words.length) (hN : ∀ c, (A.traces.getD c []).length ≤ N) (hI : I fun c => A.traces.getD c []) :
    Rb I S w0 w b g f A.traces.length A.words.length N (fun q => wordAt A.words (f + q)) :=
  ⟨h.size.1, h.size.2, hf, by obtain ⟨hK, p, rfl, hf, hm, hs⟩ := h; exact hm.hi, hg, A, h, rfl, rfl, hN, hI, fun _ _ => rfl⟩

set_option maxRecDepth 100000 in
set_option maxHeartbeats 2000000 in
theorem r_new {A : Ar} (h : Hs S w0 w b A) (f n : Nat) (x y : Int) (hx : x = (f : Int)) (hy : y = (n : Int)) (k L : Nat) (hk : A.traces.length = k) (hL : A.words.length = L) (hn : 128 ≤ n) (hf : f + n ≤ L) (hN : ∀ c, (A.traces.getD c []).length ≤ N) (hN2 : N < 990000) (hI : ∀ q, q < 20 → ∀ t, I t → I (tput t 0 (((f + q : Nat) : Int), true))) (hI0 : I fun c => A.traces.getD c []) :
    Calls Try.prog 8 #[.pointer (some ⟨b, 0, none⟩), .int .i64 x, .int .i64 y] w fun e w' => ∃ g, e = .returned (.tuple #[.pointer (some ⟨g, 0, none⟩), .int .i64 0]) ∧ Rb I ((g, box b f) :: S) w0 w' b g f k L (N + 20) (wd fun _ => 0) := by
  subst hx hy
  have H0 : Hid (_) := Rb.made (I := I) (h.push (box b f)) (List.mem_cons_self ..) (show f + 20 ≤ A.words.length by omega) hN hI0
  have hL2 : L ≤ 65536 := by rw [← hL]; exact H0.out.lhi
  rw [hk, hL] at H0
  obtain ⟨W0, hW0⟩ : ∃ W0, W0 = w.alloc (box b f) := ⟨_, rfl⟩
  rw [← hW0] at H0
  have HW : Hid (w.alloc (.cells #[.pointer (some ⟨b, 0, none⟩), .int .i64 (f : Int)] 56 (0, 0)) = W0) := hW0.symm
  clear hW0 hI0
  have HA : Hid (_ ∧ _ ∧ _) := ⟨h, hL, hI⟩
  clear h hk hL hN hI
  have d1 : decide ((f : Int) < 0) = false := by simp
  have d2 : decide ((n : Int) < 128) = false := by simp; omega
  have i1 : ¬ (n : Int) < 128 := by omega
  have i2 : ¬ (L : Int) - (f : Int) < (n : Int) := by omega
  have d3 : decide ((L : Int) - (f : Int) < (n : Int)) = false := by simp; omega
  go_enter Try.func8, Try.ntmps8
  go_wp2_with fail
  refine (h_words HA.out.1).mono ?_
  rintro e w1 ⟨rfl, rfl⟩
  rw [HA.out.2.1]
  go_wp2_with fail
  rw [HW.out]
  refine (r_grow H0.out HA.out.2.2 hN2).mono ?_
  rintro e w1 ⟨rfl, h1⟩
  have H1 : Hid (_) := h1
  clear h1 H0 HW HA
  go_wp2_with fail
  go_ret2
  exact ⟨_, rfl, H1.out⟩

end
end Go.Proofs.Ythndjlcibiaoiaa
