/-
  A directory of package dir: who may call, the words cleared, how it is made.
-/
import Derived.Test.YtnbbcbjfejdceaaDoorDs
import Derived.Test.YtnbbcbjfejdceaaDoorNew
namespace Go.Proofs.YtnbbcbjfejdceaaDoor
open Go.RowKit
set_option linter.unusedVariables false

/-- What wrong answers. -/
def wrongV (c : Int) (k : Nat) (ss : List ByteArray) : Int := if c < 0 ∨ (k : Int) ≤ c then 900 else if ∀ s ∈ ss, chk s = 0 then 0 else 900

section
variable {I : Trc → Prop} {S : List (Nat × Obj)} {w0 w : World} {b g f k L N : Nat} {W V : Nat → Int}

theorem d_wrong_core (h : Db I S w0 w b g f k L N W) (c : Int) (hc : c < 0 ∨ (k : Int) ≤ c) (a : Option Addr) (l cap : Nat) :
    Calls Tryd.prog 29 #[.pointer (some ⟨g, 0, none⟩), .int .i64 c, .slice a l cap] w fun e w' => e = .returned (.int .i64 900) ∧ w' = w := by
  obtain ⟨c0, c1⟩ := h.cells
  by_cases h0 : c < 0
  · have d1 : decide (c < 0) = true := by simp; omega
    clear hc
    go_enter Tryd.func29, Tryd.ntmps29
    go_wp2_with fail
    go_ret
    exact ⟨rfl, rfl⟩
  · have d1 : decide (c < 0) = false := by simp; omega
    have d2 : decide ((k : Int) ≤ c) = true := by simp; omega
    have i1 : ¬ c < (k : Int) := by omega
    clear hc
    go_enter Tryd.func29, Tryd.ntmps29
    go_wp2_with fail
    refine (d_cores h).mono ?_
    rintro e w' ⟨rfl, rfl⟩
    go_wp2_with fail
    go_ret
    exact ⟨rfl, rfl⟩

set_option maxRecDepth 100000 in
set_option maxHeartbeats 1000000 in
theorem d_wrong_names (h : Db I S w0 w b g f k L N W) (c : Nat) (hc : c < k) (ss : List ByteArray) (a : Option Addr) (hl : ss.length ≤ 2) (hs : ∀ i, (hi : i < ss.length) → ∃ B, a = some ⟨B, 0, none⟩ ∧ w.cell? ⟨B, i, none⟩ = some (.string ss[i])) (cap : Nat) (z : Int) (HZ : Hid (z = if ∀ s ∈ ss, chk s = 0 then 0 else 900)) :
    Calls Tryd.prog 29 #[.pointer (some ⟨g, 0, none⟩), .int .i64 (c : Int), .slice a ss.length cap] w fun e w' => e = .returned (.int .i64 z) ∧ Kept [] w w' := by
  obtain ⟨c0, c1⟩ := h.cells
  have d1 : decide ((c : Int) < 0) = false := by simp
  have d2 : decide ((k : Int) ≤ (c : Int)) = false := by simp; omega
  have i1 : (c : Int) < (k : Int) := by omega
  have n1 : ¬ k ≤ c := by omega
  have n2 : decide (k ≤ c) = false := by simp; omega
  have HT : Hid (Tab w) := h.tabs
  have HS : Hid (_) := hs
  clear hs
  go_enter Tryd.func29, Tryd.ntmps29
  go_wp2_with fail
  refine (d_cores h).mono ?_
  rintro e w1 ⟨rfl, hw1⟩
  have hw1' := hw1.symm
  subst hw1'
  clear hw1 c0 c1 h
  go_wp2_with fail
  go_loopw [24] (fun i wr => ∃ j : Nat, i = .int .i64 (j : Int) ∧ j ≤ ss.length ∧ Hid (Kept [] w wr ∧ ∀ i, (hi : i < ss.length) → i < j → chk ss[i] = 0)) (fun i _ => (ss.length - intOf i).toNat)
  case atStart => exact ⟨0, rfl, by omega, Kept.refl _ _, fun i hi h => by omega⟩
  case round =>
    obtain ⟨j, rfl, hj, HJ⟩ := hrel
    by_cases hlt : j < ss.length
    · have i0 : (j : Int) < (ss.length : Int) := by omega
      have i2 : (0 : Int) ≤ (j : Int) := by omega
      obtain ⟨B, rfl, hB⟩ := HS.out j hlt
      have hB2 := HJ.out.1.cell hB (by simp)
      clear hB
      go_wp2_with fail
      refine (n_may ss[j] wr (HT.out.kept HJ.out.1)).mono ?_
      rintro e w2 ⟨rfl, hk⟩
      by_cases hz : chk ss[j] = 0
      · have t1 : (chk ss[j] == 0) = true := by simpa using hz
        rw [t1]
        have H2 : Hid (Kept [] w w2 ∧ ∀ i, (hi : i < ss.length) → i < j + 1 → chk ss[i] = 0) := ⟨HJ.out.1.trans hk (by simp), fun i hi h3 => by
          rcases Nat.lt_succ_iff_lt_or_eq.1 h3 with h4 | h4
          · exact HJ.out.2 i hi h4
          · subst h4; exact hz⟩
        clear hz hk HJ t1
        go_wp2_with fail
        go_roundw
        case rel => exact ⟨j + 1, by go_num, by omega, H2.out⟩
        case measure => simp [intOf]; omega
      · have t1 : (chk ss[j] == 0) = false := by simpa using hz
        rw [t1]
        have H2 : Hid (Kept [] w w2 ∧ 900 = z) := ⟨HJ.out.1.trans hk (by simp), by rw [HZ.out, if_neg fun hall => hz (hall _ (List.getElem_mem hlt))]⟩
        clear hz hk HJ t1 HZ
        go_wp2_with fail
        go_ret
        exact ⟨ret_int H2.out.2, H2.out.1⟩
    · have i0 : ¬ (j : Int) < (ss.length : Int) := by omega
      have H2 : Hid (Kept [] w wr ∧ 0 = z) := ⟨HJ.out.1, by
        rw [HZ.out, if_pos fun s hs => ?_]
        obtain ⟨i, hi, rfl⟩ := List.getElem_of_mem hs
        exact HJ.out.2 i hi (by omega)⟩
      clear HJ
      go_wp2_with fail
      go_ret
      exact ⟨ret_int H2.out.2, H2.out.1⟩

theorem d_wrong (h : Db I S w0 w b g f k L N W) (c : Int) (ss : List ByteArray) (a : Option Addr) (hl : ss.length ≤ 2) (hs : ∀ i, (hi : i < ss.length) → ∃ B, a = some ⟨B, 0, none⟩ ∧ w.cell? ⟨B, i, none⟩ = some (.string ss[i])) (l : Nat) (hll : l = ss.length) (cap : Nat) :
    Calls Tryd.prog 29 #[.pointer (some ⟨g, 0, none⟩), .int .i64 c, .slice a l cap] w fun e w' => e = .returned (.int .i64 (wrongV c k ss)) ∧ Kept [] w w' := by
  subst hll
  unfold wrongV
  by_cases hc : c < 0 ∨ (k : Int) ≤ c
  · rw [if_pos hc]
    refine (d_wrong_core h c hc a _ cap).mono ?_
    rintro e w' ⟨rfl, rfl⟩
    exact ⟨rfl, Kept.refl _ _⟩
  · rw [if_neg hc]
    obtain ⟨i, rfl⟩ := Int.eq_ofNat_of_zero_le (show 0 ≤ c by omega)
    exact d_wrong_names h i (by omega) ss a hl hs cap _ rfl

/-! ### Made anew -/

/-- The words, those ahead of place n all 0. -/
def gw (W : Nat → Int) (n : Nat) : Nat → Int := fun q => if q < n then 0 else W q

theorem gw_next (W : Nat → Int) (n m : Nat) (hm : m = n + 3) : upd3 (gw W n) n 0 0 0 = gw W m := by
  subst hm
  funext q
  unfold upd3 upd gw
  repeat' split
  all_goals first | rfl | omega

set_option maxRecDepth 100000 in
set_option maxHeartbeats 1000000 in
theorem d_clear (h : Db I S w0 w b g f k L N W) (hI : ∀ n, n < 8 → Wr I 0 f n) (hN : N < 800000) :
    Calls Tryd.prog 48 #[.pointer (some ⟨g, 0, none⟩)] w fun e w' => e = .returned (.tuple #[]) ∧ Db I S w0 w' b g f k L (N + 96) (fun _ => 0) := by
  have k1 := h.klo
  have HI : Hid (_ ∧ _) := ⟨hI, h⟩
  clear hI h
  go_enter Tryd.func48, Tryd.ntmps48
  go_wp2_with fail
  go_loopw [4] (fun i wr => ∃ n : Nat, i = .int .i64 (n : Int) ∧ n ≤ 8 ∧ Hid (Db I S w0 wr b g f k L (N + n * 12) (gw W (n * 12)))) (fun i _ => (8 - intOf i).toNat)
  case atStart => exact ⟨0, rfl, by omega, Db.as HI.out.2 fun q _ => by unfold gw; rw [if_neg (by omega)]⟩
  case round =>
    obtain ⟨n, rfl, hn, HJ⟩ := hrel
    by_cases hlt : n < 8
    · have i0 : (n : Int) < 8 := by omega
      go_wp2_with fail
      go_loopw [7] (fun i wr => ∃ d : Nat, i = .int .i64 (d : Int) ∧ d ≤ 4 ∧ Hid (Db I S w0 wr b g f k L (N + (n * 12 + d * 3)) (gw W (n * 12 + d * 3)))) (fun i _ => (4 - intOf i).toNat)
      case atStart => exact ⟨0, rfl, by omega, HJ.out⟩
      case round =>
        clear HJ
        obtain ⟨d, rfl, hd, HJ⟩ := hrel
        by_cases hld : d < 4
        · have i1 : (d : Int) < 4 := by omega
          go_wp2_with fail
          refine (d_put HJ.out 0 n d (fun _ => 0) 0 0 0 _ rfl (by omega) hlt hld (HI.out.1 n hlt) (by omega)).mono ?_
          rintro e w1 ⟨rfl, h1⟩
          rw [gw_next _ _ (n * 12 + (d + 1) * 3) (by omega)] at h1
          have H1 : Hid (_) := h1.mono (show _ ≤ N + (n * 12 + (d + 1) * 3) by omega)
          clear h1 HJ
          go_wp2_with fail
          go_roundw
          case rel => exact ⟨d + 1, by go_num, by omega, H1.out⟩
          case measure => simp [intOf]; omega
        · have e : d = 4 := by omega
          subst e
          have H1 : Hid (_) := HJ.out
          rw [show n * 12 + 4 * 3 = (n + 1) * 12 by omega] at H1
          clear HJ
          go_wp2_with fail
          go_roundw
          case rel => exact ⟨n + 1, by go_num, by omega, H1.out⟩
          case measure => simp [intOf]; omega
    · have e : n = 8 := by omega
      subst e
      have H1 : Hid (_) := Db.as HJ.out (W' := fun _ => 0) fun q hq => by unfold gw; rw [if_pos (by omega)]
      clear HJ
      go_wp2_with fail
      go_end0
      exact ⟨rfl, H1.out⟩

theorem words_any {w : World} {p : Ap} {A : Ar} (h : ArIs 89 w p A) :
    Calls Tryd.prog 47 #[.pointer (some ⟨p.b, 0, none⟩)] w fun e w' => e = .returned (.int .i64 (A.words.length : Int)) ∧ w' = w := by
  obtain ⟨c0, c1⟩ := h.cell
  go_enter Tryd.func47, Tryd.ntmps47
  go_wp2
  go_ret
  exact ⟨rfl, rfl⟩

theorem h_words {S : List (Nat × Obj)} {w0 w : World} {b : Nat} {A : Ar} (h : Hs S w0 w b A) : Calls Tryd.prog 47 #[.pointer (some ⟨b, 0, none⟩)] w fun e w' => e = .returned (.int .i64 (A.words.length : Int)) ∧ w' = w := by
  obtain ⟨hK, p, rfl, hf, hm, hs⟩ := h
  exact words_any hm

theorem Db.made {A : Ar} (h : Hs S w0 w b A) (hT : Tab w0) (hg : (g, box b f) ∈ S) (hf : f + 96 ≤ A.words.length) (hN : ∀ c, (A.traces.getD c []).length ≤ N) (hI : I fun c => A.traces.getD c []) :
    Db I S w0 w b g f A.traces.length A.words.length N (fun q => wordAt A.words (f + q)) :=
  ⟨h.size.1, h.size.2, hf, by obtain ⟨hK, p, rfl, hf, hm, hs⟩ := h; exact hm.hi, hT, hg, A, h, rfl, rfl, hN, hI, fun _ _ => rfl⟩

set_option maxRecDepth 100000 in
set_option maxHeartbeats 2000000 in
theorem d_new {A : Ar} (h : Hs S w0 w b A) (hT : Tab w0) (f n : Nat) (x y : Int) (hx : x = (f : Int)) (hy : y = (n : Int)) (k L : Nat) (hk : A.traces.length = k) (hL : A.words.length = L) (hn : 512 ≤ n) (hf : f + n ≤ L) (hN : ∀ c, (A.traces.getD c []).length ≤ N) (hN2 : N < 800000) (hI : ∀ n, n < 8 → Wr I 0 f n) (hI0 : I fun c => A.traces.getD c []) :
    Calls Tryd.prog 28 #[.pointer (some ⟨b, 0, none⟩), .int .i64 x, .int .i64 y] w fun e w' => ∃ g, e = .returned (.tuple #[.pointer (some ⟨g, 0, none⟩), .int .i64 0]) ∧ Db I ((g, box b f) :: S) w0 w' b g f k L (N + 96) (fun _ => 0) := by
  subst hx hy
  have H0 : Hid (_) := Db.made (I := I) (h.push (box b f)) hT (List.mem_cons_self ..) (show f + 96 ≤ A.words.length by omega) hN hI0
  have hL2 : L ≤ 65536 := by rw [← hL]; exact H0.out.lhi
  rw [hk, hL] at H0
  obtain ⟨W0, hW0⟩ : ∃ W0, W0 = w.alloc (box b f) := ⟨_, rfl⟩
  rw [← hW0] at H0
  have HW : Hid (w.alloc (.cells #[.pointer (some ⟨b, 0, none⟩), .int .i64 (f : Int)] 98 (0, 0)) = W0) := hW0.symm
  clear hW0 hI0
  have HA : Hid (_ ∧ _ ∧ _) := ⟨h, hL, hI⟩
  clear h hk hL hN hI
  have d1 : decide ((f : Int) < 0) = false := by simp
  have d2 : decide ((n : Int) < 512) = false := by simp; omega
  have i1 : ¬ (n : Int) < 512 := by omega
  have i2 : ¬ (L : Int) - (f : Int) < (n : Int) := by omega
  have d3 : decide ((L : Int) - (f : Int) < (n : Int)) = false := by simp; omega
  go_enter Tryd.func28, Tryd.ntmps28
  go_wp2_with fail
  refine (h_words HA.out.1).mono ?_
  rintro e w1 ⟨rfl, rfl⟩
  rw [HA.out.2.1]
  go_wp2_with fail
  rw [HW.out]
  refine (d_clear H0.out HA.out.2.2 hN2).mono ?_
  rintro e w1 ⟨rfl, h1⟩
  have H1 : Hid (_) := h1
  clear h1 H0 HW HA
  go_wp2_with fail
  go_ret2
  exact ⟨_, rfl, H1.out⟩

end
end Go.Proofs.YtnbbcbjfejdceaaDoor
