/-
  PmemActs: the walk where there is nothing to play.
-/
import Derived.Test.YtghcommbflfbnaaActsB
namespace Go.Proofs.Ytghcommbflfbnaa
open Go.RowKit
set_option linter.unusedSimpArgs false
set_option linter.unusedVariables false

set_option maxRecDepth 100000 in
set_option maxHeartbeats 16000000 in
theorem acts_nothing (a : Option Addr) (cap0 n : Nat) (w : World) (h0 : 8 ≤ n) (h1 : n ≤ 800) (h8 : n % 8 = 0) :
    Calls Try.prog 3 #[.int .i64 (n : Int), .slice a 0 cap0] w fun e w' => e = .returned (.bool true) ∧ Kept [] w w' := by
  have H8 : Hid (n % 8 = 0) := h8
  clear h8
  have d1 : decide (800 < (n : Int)) = false := by simp; omega
  go_enter Try.func3, Try.ntmps3
  go_wp2_with fail
  refine (new_yes w n h0 (by omega) H8.out).mono ?_
  rintro e w1 ⟨p, rfl, hK1, hf1, hm1⟩
  have H1 : Hid (_ ∧ _ ∧ _) := ⟨hK1, hf1, hm1⟩
  clear hK1 hf1 hm1
  go_wp2_with fail
  refine (rnew_yes w1 n h0 (by omega) H8.out).mono ?_
  rintro e w2 ⟨q, rfl, hK2, hf2, hr2⟩
  have HI : Hid (One w w2 p.b q.b n 0) := o_new n H1.out.1 H1.out.2.1 H1.out.2.2 hK2 hf2 hr2
  clear hK2 hf2 hr2 H1
  generalize p.b = b at *
  generalize q.b = c at *
  clear p q
  go_wp2_with (first
    | (go_at_call 11; refine (u_num _ _).mono ?_; rintro e w' ⟨rfl, rfl⟩))
  go_loopw [9, 10, 11] (fun vo vd i wr => i = .int .i64 0 ∧ Hid (One w wr b c n 0)) (fun _ _ i _ => 0)
  case atStart => exact ⟨rfl, HI⟩
  case round =>
    obtain ⟨rfl, HO⟩ := hrel
    clear HI
    go_wp2_with fail
    refine (o_words HO.out).mono ?_
    rintro e w' ⟨rfl, rfl⟩
    go_wp2_with fail
    refine (o_crash HO.out (-1) (by omega)).mono ?_
    rintro e w4 ⟨rfl, hM⟩
    have HM : Hid (Mid w w4 b c n (-1)) := hM
    clear hM HO
    go_wp2_with fail
    refine (m_crash HM.out ⟨by omega, by omega⟩).mono ?_
    rintro e w5 ⟨rfl, X, hX⟩
    have HX : Hid (Seen w w5 b c n X) := hX
    clear hX HM
    go_wp2_with fail
    go_loopw [12] (fun i wr => ∃ k : Nat, k ≤ n ∧ i = .int .i64 (k : Int) ∧ Hid (Seen w wr b c n X)) (fun i _ => (n - intOf i).toNat)
    case atStart => exact ⟨0, by omega, rfl, HX⟩
    case round =>
      obtain ⟨k, hk, rfl, HS⟩ := hrel
      clear HX
      by_cases hkn : k < n
      · have k1 : (k : Int) < (n : Int) := by omega
        have k0 : (0 : Int) ≤ (k : Int) := by omega
        obtain ⟨bs, z, s0, s1⟩ := seen_cells HS.out k hkn
        go_wp2_with fail
        refine (s_load HS.out k hkn).mono ?_
        rintro e w' ⟨rfl, rfl⟩
        go_wp2_with (first
          | (go_at_call 11; refine (u_num _ _).mono ?_; rintro e w' ⟨rfl, rfl⟩))
        go_roundw
        case rel => exact ⟨k + 1, by omega, by go_num, HS⟩
        case measure => simp [intOf]; omega
      · have k1 : ¬ (k : Int) < (n : Int) := by omega
        go_wp2_with (first
          | (go_at_call 12; refine (awake_any _).mono ?_; rintro e w7 ⟨rfl, hK7⟩))
        go_ret
        exact ⟨rfl, HS.out.1.trans hK7 (by simp)⟩

end Go.Proofs.Ytghcommbflfbnaa
