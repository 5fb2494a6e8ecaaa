/-
  DirLooks: for every list of texts and every number: Find and List write no word, and two that look at one name, of unlike cores, do not meet (P9.2, T2); no condition beyond the row's own.
-/
import Derived.Test.YtnbbcbjfejdceaaDoorRows
import Derived.Test.YtnbbcbjfejdceaaDoorCards
import Derived.Test.YtnbbcbjfejdceaaDoorTie
import Derived.Test.YtnbbcbjfejdceaaDoorLaid
import Derived.Test.YtnbbcbjfejdceaaDoorSt
import Derived.WalkKit
import Derived.ProofKit
import Derived.OpenShut
import Derived.ShutString
import Derived.ChangeOld
import Derived.Below
import Derived.Deep.Slices
import Derived.LaidMore
import Derived.Lay
import Derived.SizedLaws
import Derived.Laws.BytesArg
import Derived.Stop.Joined
import Derived.SevenTiedAt
namespace Go.Proofs.YtnbbcbjfejdceaaDoor.dirLooks
open Go.ChangeShapes Go.WideShapes Go.ChangeAt Go.RowKit
open Go.ChangeMaps (open_string shut_string)
set_option linter.unusedVariables false

/-- Cores 1 and 2 have only read. -/
def Qt : Trc → Prop := fun t => (∀ x ∈ t 1, x.2 = false) ∧ (∀ x ∈ t 2, x.2 = false)

theorem qt_clear (t : Trc) (ht : t 1 = []) : Qt (tclr t 2) := by
  constructor
  · intro x hx
    simp [tclr, ht] at hx
  · intro x hx
    simp [tclr] at hx

theorem qt_r1 (n : Nat) : Rd Qt 1 0 n := by
  rintro q _ _ t ⟨h1, h2⟩
  constructor
  · intro x hx
    unfold tput at hx
    rw [if_pos rfl] at hx
    rcases List.mem_append.1 hx with h | h
    · exact h1 x h
    · rw [List.mem_singleton] at h; rw [h]
  · intro x hx
    unfold tput at hx
    rw [if_neg (by omega)] at hx
    exact h2 x hx

theorem qt_r2 (n : Nat) : Rd Qt 2 0 n := by
  rintro q _ _ t ⟨h1, h2⟩
  constructor
  · intro x hx
    unfold tput at hx
    rw [if_neg (by omega)] at hx
    exact h1 x hx
  · intro x hx
    unfold tput at hx
    rw [if_pos rfl] at hx
    rcases List.mem_append.1 hx with h | h
    · exact h2 x h
    · rw [List.mem_singleton] at h; rw [h]

theorem qt_far {t : Trc} (h : Qt t) : Far (t 1) (t 2) := fun x hx y hy => Or.inr ⟨h.1 x hx, h.2 y hy⟩

set_option maxRecDepth 100000 in
set_option maxHeartbeats 8000000 in
theorem main (a0 : Option Addr) (len0 cap0 : Nat) (ss : Nat → ByteArray) (v : Int) (w : World) (hT : Tab w) (hl : len0 ≤ 9223372036854775807) (hs : IsStrs w a0 len0 ss) :
    Calls Tryd.prog 8 #[.slice a0 len0 cap0, .int .i64 v] w fun e w' => e = .returned (.bool true) ∧ Kept [] w w' := by
  have HSS : Hid (IsStrs w a0 len0 ss) := hs
  have HT0 : Hid (Tab w) := hT
  have HIX : Hid (¬ len0 = 0 → ∃ i : Nat, i < len0 ∧ ((IntKind.u64.wrap v).tmod (len0 : Int) = (i : Int))) := fun h0 => by
    have hu : 0 ≤ IntKind.u64.wrap v := by rw [IntKind.wrap_u64]; omega
    rw [Int.tmod_eq_emod_of_nonneg hu]
    have h1 := Int.emod_nonneg (IntKind.u64.wrap v) (show (len0 : Int) ≠ 0 by omega)
    have h2 := Int.emod_lt_of_pos (IntKind.u64.wrap v) (show (0 : Int) < (len0 : Int) by omega)
    exact ⟨(IntKind.u64.wrap v % (len0 : Int)).toNat, by omega, by omega⟩
  clear hs hT
  go_enter Tryd.func8, Tryd.ntmps8
  go_wp2_with fail
  refine (awake_dir w HT0.out).mono ?_
  rintro e w1 ⟨rfl, hk1⟩
  have HK : Hid (Kept [] w w1 ∧ Tab w1) := ⟨hk1, Tab.kept HT0.out hk1⟩
  clear hk1 HT0
  go_wp2_with fail
  refine (made_any w1 HK.out.2).mono ?_
  rintro e w2 ⟨b, g, rfl, h2⟩
  have H2 : Hid (∃ E, Dd AnyT [(g, box b 0)] w1 w2 b g 0 4 1024 96 E) := ⟨_, h2⟩
  clear h2
  go_wp2_with fail
  go_loopw [8] (fun i wr => ∃ n : Nat, i = .int .i64 (n : Int) ∧ n ≤ len0 ∧ n ≤ 20 ∧ Hid (∃ E, Dd AnyT [(g, box b 0)] w1 wr b g 0 4 1024 (96 + 15 * n) E)) (fun i _ => (20 - intOf i).toNat)
  case atStart => exact ⟨0, rfl, by omega, by omega, H2.out⟩
  case round =>
    clear H2
    obtain ⟨n, rfl, hn, hn2, HJ⟩ := hrel
    obtain ⟨E, hR⟩ := HJ.out
    have HR : Hid (_) := hR
    clear HJ hR
    by_cases hlt : n < len0 ∧ n < 20
    · obtain ⟨hlt, hlt2⟩ := hlt
      obtain ⟨-, bb, off, rfl, hc0⟩ := HSS.out.2 n hlt
      have hcell := (HK.out.1.trans (Dd.old HR.out) (by simp)).cell hc0 (by simp)
      clear hc0
      have i1 : (0 : Int) ≤ (n : Int) := by omega
      have i2 : (n : Int) < (len0 : Int) := by omega
      have i3 : (n : Int) < 20 := by omega
      go_wp2_with fail
      refine (insert_any HR.out 0 (ss n) ((n : Int) + 1) (by omega) (by omega) (by omega) (by omega) (fun m _ _ => ⟨anyR _ _ m, anyW _ _ m⟩)).mono ?_
      rintro e w4 ⟨z, E', rfl, h4⟩
      have H4 : Hid (_) := h4.mono (show _ ≤ 96 + 15 * (n + 1) by omega)
      clear h4 HR
      go_wp2_with fail
      go_roundw
      case rel => exact ⟨n + 1, by go_num, by omega, by omega, _, H4.out⟩
      case measure => simp [intOf]; omega
    · have HT : Hid (_) := Dd.mono HR.out (show _ ≤ 400 by omega)
      clear HR
      by_cases hx : n < len0
      · have i1 : (n : Int) < (len0 : Int) := by omega
        have i2 : ¬ (n : Int) < 20 := by omega
        go_wp2_with fail
        refine (e_clear (I' := fun t => t 1 = []) HT.out 1 (by omega) (fun t _ => by simp [tclr])).mono ?_
        rintro e w5 ⟨rfl, h5⟩
        have H5 : Hid (_) := h5
        clear h5 HT
        go_wp2_with fail
        refine (e_clear (I' := Qt) H5.out 2 (by omega) (fun t ht => qt_clear t ht)).mono ?_
        rintro e w6 ⟨rfl, h6⟩
        have H6 : Hid (_) := h6
        clear h6 H5
        by_cases h0 : len0 = 0
        · subst h0
          obtain ⟨x, z, hxz, hdet⟩ := find_det E ⟨#[113]⟩
          have HD : Hid (_) := @hdet
          clear hdet
          go_wp2_with fail
          refine (HD.out H6.out 1 (by omega) (by omega) (fun n _ => qt_r1 n)).mono ?_
          rintro e w7 ⟨rfl, h7⟩
          have H7 : Hid (_) := h7
          clear h7 H6
          go_wp2_with fail
          refine (HD.out H7.out 2 (by omega) (by omega) (fun n _ => qt_r2 n)).mono ?_
          rintro e w8 ⟨rfl, h8⟩
          have H8 : Hid (_) := h8
          clear h8 H7
          go_wp2_with fail
          refine (e_list H8.out 2 (by omega) (fun n _ => qt_r2 n) (by omega)).mono ?_
          rintro e w9 ⟨u, D, rfl, hu, h9, -⟩
          have H9 : Hid (_) := h9.fewer (S' := [(g, box b 0)]) (by simp) (by simp)
          clear h9 hu H8
          go_wp2_with fail
          refine (e_list H9.out 1 (by omega) (fun n _ => qt_r1 n) (by omega)).mono ?_
          rintro e w10 ⟨u2, D2, rfl, hu2, h10, -⟩
          have h10 := h10.fewer (S' := [(g, box b 0)]) (by simp) (by simp)
          obtain ⟨t, hq, hl, hn⟩ := h10.now
          have HQ : Hid (Qt t ∧ ∀ c, (t c).length ≤ 200000) := ⟨hq, fun c => Nat.le_trans (hl c) (by omega)⟩
          have H10 : Hid (_) := hn
          clear h10 hu2 H9 hq hl hn
          go_wp2_with (first
            | (go_at_call 11; refine (num9 _ _).mono ?_; rintro e w' ⟨rfl, rfl⟩))
          refine (e_trace H10.out 1 (by omega) (by omega)).mono ?_
          rintro e w11 ⟨r1, rfl, hr1, hk1⟩
          obtain ⟨ra, rc, rfl⟩ := hr1.slice
          have H11 : Hid (_ ∧ _) := ⟨hr1, Dd.still H10.out hk1⟩
          clear hr1 hk1 H10
          go_wp2_with fail
          refine (e_trace H11.out.2 2 (by omega) (by omega)).mono ?_
          rintro e w12 ⟨r2, rfl, hr2, hk2⟩
          obtain ⟨ra2, rc2, rfl⟩ := hr2.slice
          have H12 : Hid (_ ∧ _ ∧ _) := ⟨Row.still2 H11.out.1 hk2, hr2, Dd.still H11.out.2 hk2⟩
          clear hr2 hk2 H11
          go_wp2_with fail
          refine (meet_any H12.out.1 H12.out.2.1 (HQ.out.2 1) (HQ.out.2 2) (qt_far HQ.out.1)).mono ?_
          rintro e w13 ⟨rfl, hk3⟩
          have H13 : Hid (_) := Dd.still H12.out.2.2 hk3
          clear hk3 H12
          go_wp2_with fail
          refine (e_trace H13.out 1 (by omega) (by omega)).mono ?_
          rintro e w14 ⟨r3, rfl, hr3, hk4⟩
          have H14 : Hid (_ ∧ _) := ⟨hr3, Dd.still H13.out hk4⟩
          obtain ⟨ra3, rc3, rfl⟩ := hr3.slice
          clear hr3 hk4 H13
          go_wp2_with fail
          refine (words_none H14.out.1 (HQ.out.2 1) HQ.out.1.1).mono ?_
          rintro e w15 ⟨rfl, hk5⟩
          have H15 : Hid (Kept [] w w15) := HK.out.1.trans ((Dd.old H14.out.2).trans hk5 (by simp)) (by simp)
          clear hk5 H14
          rcases hxz with rfl | rfl
          · go_wp2_with (first
              | (go_at_call 11; refine (num9 _ _).mono ?_; rintro e w' ⟨rfl, rfl⟩))
            go_ret
            exact ⟨rfl, H15.out⟩
          · go_wp2_with (first
              | (go_at_call 11; refine (num9 _ _).mono ?_; rintro e w' ⟨rfl, rfl⟩))
            all_goals (go_ret; exact ⟨rfl, H15.out⟩)
        · obtain ⟨i, hi, hix⟩ := HIX.out h0
          obtain ⟨-, bb, off, rfl, hc0⟩ := HSS.out.2 i hi
          have hcell := (HK.out.1.trans (Dd.old H6.out) (by simp)).cell hc0 (by simp)
          clear hc0
          obtain ⟨s, hs⟩ : ∃ s, ss i = s := ⟨_, rfl⟩
          rw [hs] at hcell
          clear hs
          have l0 : (0 : Int) < (len0 : Int) := by omega
          have l1 : (i : Int) < (len0 : Int) := by omega
          have l2 : (0 : Int) ≤ (i : Int) := by omega
          have l3 : ((len0 : Int) == 0) = false := by simp; omega
          obtain ⟨x, z, hxz, hdet⟩ := find_det E s
          have HD : Hid (_) := @hdet
          clear hdet
          go_wp2_with fail
          refine (HD.out H6.out 1 (by omega) (by omega) (fun n _ => qt_r1 n)).mono ?_
          rintro e w7 ⟨rfl, h7⟩
          have H7 : Hid (_) := h7
          clear h7 H6
          go_wp2_with fail
          refine (HD.out H7.out 2 (by omega) (by omega) (fun n _ => qt_r2 n)).mono ?_
          rintro e w8 ⟨rfl, h8⟩
          have H8 : Hid (_) := h8
          clear h8 H7
          go_wp2_with fail
          refine (e_list H8.out 2 (by omega) (fun n _ => qt_r2 n) (by omega)).mono ?_
          rintro e w9 ⟨u, D, rfl, hu, h9, -⟩
          have H9 : Hid (_) := h9.fewer (S' := [(g, box b 0)]) (by simp) (by simp)
          clear h9 hu H8
          go_wp2_with fail
          refine (e_list H9.out 1 (by omega) (fun n _ => qt_r1 n) (by omega)).mono ?_
          rintro e w10 ⟨u2, D2, rfl, hu2, h10, -⟩
          have h10 := h10.fewer (S' := [(g, box b 0)]) (by simp) (by simp)
          obtain ⟨t, hq, hl, hn⟩ := h10.now
          have HQ : Hid (Qt t ∧ ∀ c, (t c).length ≤ 200000) := ⟨hq, fun c => Nat.le_trans (hl c) (by omega)⟩
          have H10 : Hid (_) := hn
          clear h10 hu2 H9 hq hl hn
          go_wp2_with (first
            | (go_at_call 11; refine (num9 _ _).mono ?_; rintro e w' ⟨rfl, rfl⟩))
          refine (e_trace H10.out 1 (by omega) (by omega)).mono ?_
          rintro e w11 ⟨r1, rfl, hr1, hk1⟩
          obtain ⟨ra, rc, rfl⟩ := hr1.slice
          have H11 : Hid (_ ∧ _) := ⟨hr1, Dd.still H10.out hk1⟩
          clear hr1 hk1 H10
          go_wp2_with fail
          refine (e_trace H11.out.2 2 (by omega) (by omega)).mono ?_
          rintro e w12 ⟨r2, rfl, hr2, hk2⟩
          obtain ⟨ra2, rc2, rfl⟩ := hr2.slice
          have H12 : Hid (_ ∧ _ ∧ _) := ⟨Row.still2 H11.out.1 hk2, hr2, Dd.still H11.out.2 hk2⟩
          clear hr2 hk2 H11
          go_wp2_with fail
          refine (meet_any H12.out.1 H12.out.2.1 (HQ.out.2 1) (HQ.out.2 2) (qt_far HQ.out.1)).mono ?_
          rintro e w13 ⟨rfl, hk3⟩
          have H13 : Hid (_) := Dd.still H12.out.2.2 hk3
          clear hk3 H12
          go_wp2_with fail
          refine (e_trace H13.out 1 (by omega) (by omega)).mono ?_
          rintro e w14 ⟨r3, rfl, hr3, hk4⟩
          have H14 : Hid (_ ∧ _) := ⟨hr3, Dd.still H13.out hk4⟩
          obtain ⟨ra3, rc3, rfl⟩ := hr3.slice
          clear hr3 hk4 H13
          go_wp2_with fail
          refine (words_none H14.out.1 (HQ.out.2 1) HQ.out.1.1).mono ?_
          rintro e w15 ⟨rfl, hk5⟩
          have H15 : Hid (Kept [] w w15) := HK.out.1.trans ((Dd.old H14.out.2).trans hk5 (by simp)) (by simp)
          clear hk5 H14
          rcases hxz with rfl | rfl
          · go_wp2_with (first
              | (go_at_call 11; refine (num9 _ _).mono ?_; rintro e w' ⟨rfl, rfl⟩))
            go_ret
            exact ⟨rfl, H15.out⟩
          · go_wp2_with (first
              | (go_at_call 11; refine (num9 _ _).mono ?_; rintro e w' ⟨rfl, rfl⟩))
            all_goals (go_ret; exact ⟨rfl, H15.out⟩)
      · have i1 : ¬ (n : Int) < (len0 : Int) := by omega
        go_wp2_with fail
        refine (e_clear (I' := fun t => t 1 = []) HT.out 1 (by omega) (fun t _ => by simp [tclr])).mono ?_
        rintro e w5 ⟨rfl, h5⟩
        have H5 : Hid (_) := h5
        clear h5 HT
        go_wp2_with fail
        refine (e_clear (I' := Qt) H5.out 2 (by omega) (fun t ht => qt_clear t ht)).mono ?_
        rintro e w6 ⟨rfl, h6⟩
        have H6 : Hid (_) := h6
        clear h6 H5
        by_cases h0 : len0 = 0
        · subst h0
          obtain ⟨x, z, hxz, hdet⟩ := find_det E ⟨#[113]⟩
          have HD : Hid (_) := @hdet
          clear hdet
          go_wp2_with fail
          refine (HD.out H6.out 1 (by omega) (by omega) (fun n _ => qt_r1 n)).mono ?_
          rintro e w7 ⟨rfl, h7⟩
          have H7 : Hid (_) := h7
          clear h7 H6
          go_wp2_with fail
          refine (HD.out H7.out 2 (by omega) (by omega) (fun n _ => qt_r2 n)).mono ?_
          rintro e w8 ⟨rfl, h8⟩
          have H8 : Hid (_) := h8
          clear h8 H7
          go_wp2_with fail
          refine (e_list H8.out 2 (by omega) (fun n _ => qt_r2 n) (by omega)).mono ?_
          rintro e w9 ⟨u, D, rfl, hu, h9, -⟩
          have H9 : Hid (_) := h9.fewer (S' := [(g, box b 0)]) (by simp) (by simp)
          clear h9 hu H8
          go_wp2_with fail
          refine (e_list H9.out 1 (by omega) (fun n _ => qt_r1 n) (by omega)).mono ?_
          rintro e w10 ⟨u2, D2, rfl, hu2, h10, -⟩
          have h10 := h10.fewer (S' := [(g, box b 0)]) (by simp) (by simp)
          obtain ⟨t, hq, hl, hn⟩ := h10.now
          have HQ : Hid (Qt t ∧ ∀ c, (t c).length ≤ 200000) := ⟨hq, fun c => Nat.le_trans (hl c) (by omega)⟩
          have H10 : Hid (_) := hn
          clear h10 hu2 H9 hq hl hn
          go_wp2_with (first
            | (go_at_call 11; refine (num9 _ _).mono ?_; rintro e w' ⟨rfl, rfl⟩))
          refine (e_trace H10.out 1 (by omega) (by omega)).mono ?_
          rintro e w11 ⟨r1, rfl, hr1, hk1⟩
          obtain ⟨ra, rc, rfl⟩ := hr1.slice
          have H11 : Hid (_ ∧ _) := ⟨hr1, Dd.still H10.out hk1⟩
          clear hr1 hk1 H10
          go_wp2_with fail
          refine (e_trace H11.out.2 2 (by omega) (by omega)).mono ?_
          rintro e w12 ⟨r2, rfl, hr2, hk2⟩
          obtain ⟨ra2, rc2, rfl⟩ := hr2.slice
          have H12 : Hid (_ ∧ _ ∧ _) := ⟨Row.still2 H11.out.1 hk2, hr2, Dd.still H11.out.2 hk2⟩
          clear hr2 hk2 H11
          go_wp2_with fail
          refine (meet_any H12.out.1 H12.out.2.1 (HQ.out.2 1) (HQ.out.2 2) (qt_far HQ.out.1)).mono ?_
          rintro e w13 ⟨rfl, hk3⟩
          have H13 : Hid (_) := Dd.still H12.out.2.2 hk3
          clear hk3 H12
          go_wp2_with fail
          refine (e_trace H13.out 1 (by omega) (by omega)).mono ?_
          rintro e w14 ⟨r3, rfl, hr3, hk4⟩
          have H14 : Hid (_ ∧ _) := ⟨hr3, Dd.still H13.out hk4⟩
          obtain ⟨ra3, rc3, rfl⟩ := hr3.slice
          clear hr3 hk4 H13
          go_wp2_with fail
          refine (words_none H14.out.1 (HQ.out.2 1) HQ.out.1.1).mono ?_
          rintro e w15 ⟨rfl, hk5⟩
          have H15 : Hid (Kept [] w w15) := HK.out.1.trans ((Dd.old H14.out.2).trans hk5 (by simp)) (by simp)
          clear hk5 H14
          rcases hxz with rfl | rfl
          · go_wp2_with (first
              | (go_at_call 11; refine (num9 _ _).mono ?_; rintro e w' ⟨rfl, rfl⟩))
            go_ret
            exact ⟨rfl, H15.out⟩
          · go_wp2_with (first
              | (go_at_call 11; refine (num9 _ _).mono ?_; rintro e w' ⟨rfl, rfl⟩))
            all_goals (go_ret; exact ⟨rfl, H15.out⟩)
        · obtain ⟨i, hi, hix⟩ := HIX.out h0
          obtain ⟨-, bb, off, rfl, hc0⟩ := HSS.out.2 i hi
          have hcell := (HK.out.1.trans (Dd.old H6.out) (by simp)).cell hc0 (by simp)
          clear hc0
          obtain ⟨s, hs⟩ : ∃ s, ss i = s := ⟨_, rfl⟩
          rw [hs] at hcell
          clear hs
          have l0 : (0 : Int) < (len0 : Int) := by omega
          have l1 : (i : Int) < (len0 : Int) := by omega
          have l2 : (0 : Int) ≤ (i : Int) := by omega
          have l3 : ((len0 : Int) == 0) = false := by simp; omega
          obtain ⟨x, z, hxz, hdet⟩ := find_det E s
          have HD : Hid (_) := @hdet
          clear hdet
          go_wp2_with fail
          refine (HD.out H6.out 1 (by omega) (by omega) (fun n _ => qt_r1 n)).mono ?_
          rintro e w7 ⟨rfl, h7⟩
          have H7 : Hid (_) := h7
          clear h7 H6
          go_wp2_with fail
          refine (HD.out H7.out 2 (by omega) (by omega) (fun n _ => qt_r2 n)).mono ?_
          rintro e w8 ⟨rfl, h8⟩
          have H8 : Hid (_) := h8
          clear h8 H7
          go_wp2_with fail
          refine (e_list H8.out 2 (by omega) (fun n _ => qt_r2 n) (by omega)).mono ?_
          rintro e w9 ⟨u, D, rfl, hu, h9, -⟩
          have H9 : Hid (_) := h9.fewer (S' := [(g, box b 0)]) (by simp) (by simp)
          clear h9 hu H8
          go_wp2_with fail
          refine (e_list H9.out 1 (by omega) (fun n _ => qt_r1 n) (by omega)).mono ?_
          rintro e w10 ⟨u2, D2, rfl, hu2, h10, -⟩
          have h10 := h10.fewer (S' := [(g, box b 0)]) (by simp) (by simp)
          obtain ⟨t, hq, hl, hn⟩ := h10.now
          have HQ : Hid (Qt t ∧ ∀ c, (t c).length ≤ 200000) := ⟨hq, fun c => Nat.le_trans (hl c) (by omega)⟩
          have H10 : Hid (_) := hn
          clear h10 hu2 H9 hq hl hn
          go_wp2_with (first
            | (go_at_call 11; refine (num9 _ _).mono ?_; rintro e w' ⟨rfl, rfl⟩))
          refine (e_trace H10.out 1 (by omega) (by omega)).mono ?_
          rintro e w11 ⟨r1, rfl, hr1, hk1⟩
          obtain ⟨ra, rc, rfl⟩ := hr1.slice
          have H11 : Hid (_ ∧ _) := ⟨hr1, Dd.still H10.out hk1⟩
          clear hr1 hk1 H10
          go_wp2_with fail
          refine (e_trace H11.out.2 2 (by omega) (by omega)).mono ?_
          rintro e w12 ⟨r2, rfl, hr2, hk2⟩
          obtain ⟨ra2, rc2, rfl⟩ := hr2.slice
          have H12 : Hid (_ ∧ _ ∧ _) := ⟨Row.still2 H11.out.1 hk2, hr2, Dd.still H11.out.2 hk2⟩
          clear hr2 hk2 H11
          go_wp2_with fail
          refine (meet_any H12.out.1 H12.out.2.1 (HQ.out.2 1) (HQ.out.2 2) (qt_far HQ.out.1)).mono ?_
          rintro e w13 ⟨rfl, hk3⟩
          have H13 : Hid (_) := Dd.still H12.out.2.2 hk3
          clear hk3 H12
          go_wp2_with fail
          refine (e_trace H13.out 1 (by omega) (by omega)).mono ?_
          rintro e w14 ⟨r3, rfl, hr3, hk4⟩
          have H14 : Hid (_ ∧ _) := ⟨hr3, Dd.still H13.out hk4⟩
          obtain ⟨ra3, rc3, rfl⟩ := hr3.slice
          clear hr3 hk4 H13
          go_wp2_with fail
          refine (words_none H14.out.1 (HQ.out.2 1) HQ.out.1.1).mono ?_
          rintro e w15 ⟨rfl, hk5⟩
          have H15 : Hid (Kept [] w w15) := HK.out.1.trans ((Dd.old H14.out.2).trans hk5 (by simp)) (by simp)
          clear hk5 H14
          rcases hxz with rfl | rfl
          · go_wp2_with (first
              | (go_at_call 11; refine (num9 _ _).mono ?_; rintro e w' ⟨rfl, rfl⟩))
            go_ret
            exact ⟨rfl, H15.out⟩
          · go_wp2_with (first
              | (go_at_call 11; refine (num9 _ _).mono ?_; rintro e w' ⟨rfl, rfl⟩))
            all_goals (go_ret; exact ⟨rfl, H15.out⟩)

theorem walk (a0 : Option Addr) (len0 cap0 : Nat) (ss : Nat → ByteArray) (v : Int) (w : World) (hT : Tab w) (hs : IsStrs w a0 len0 ss) (_ : (Lit.int .i64 v).wf = true) :
    Calls Tryd.prog 8 #[.slice a0 len0 cap0, .int .i64 v] w fun e w' => e = .returned (.bool true) ∧ Below w.heap.size w w' :=
  (main a0 len0 cap0 ss v w hT hs.1 hs).mono fun e w' ⟨he, hk⟩ => ⟨he, hk.below (Nat.le_refl _) (by simp)⟩

set_option maxRecDepth 100000 in
theorem lifted (os : Os) (started : os.Started) (H : Type) (enc : TypeId × Value → H) :
    ReturnsInHanded {} Tryd.checked os 8 .any (fun w args => (Rows.dirLooksSpec.pre enc Tryd.prog Tryd.f8 [] false w args ∧ laidMetH Tryd.prog laid2 w) ∧ sizedMet enc Tryd.prog Tryd.f8 (OpenSpec.ofChange Rows.dirLooksSpec) false w args)
      (Rows.dirLooksSpec.post enc Tryd.prog Tryd.f8 false true false false) := by
  refine returnsInHanded_of_change_and (C := Tryd.checked) (X := fun w _ => laidMetH Tryd.prog laid2 w) (fun _ _ _ hh h => h.of_heap hh) own started (by kernel_rfl) Tryd.func8
    (ChangeSpec.witness_shaped (enc := enc) (C := Tryd.checked) (os := os) (X := fun w _ => laidMetH Tryd.prog laid2 w) false (World.laidAll Tryd.prog os laid2) #[.slice none 0 0, .int .i64 0] 8 (World.laidAll_os _ _ _) (World.shaped_of_ZipB (by kernel_rfl) (by kernel_rfl)) (by kernel_rfl) (by kernel_rfl) (by kernel_rfl) (met_laid os _)) ?_
  intro W base args ds gs before hval0 hW _ hsz0 hL _
  have hsz : (DataW.weightsEach Tryd.prog (Tryd.f8.params.toList ++ Rows.dirLooksSpec.plain.varTypes Tryd.prog) (ds ++ gs)).all (· ≤ reachBytes) = true := hsz0
  have hval : ∀ (j : Nat) t v, Tryd.f8.params[j]? = some t → args[j]? = some v → Value.okWide Tryd.prog W .any base t v := hval0
  have hW' := hW
  obtain ⟨p, q, hA0, hV, rfl, hfz, hnd⟩ := hW
  have hA : DataW.TrodAll enc Tryd.prog W 0 (fun _ => true) true Tryd.f8.params.toList args.toList ds p := hA0
  rw [Tryd.params8] at hA hval hsz
  obtain ⟨v0, vs0, d0, ds0, p0, q0, hargs, rfl, rfl, h0, r0⟩ := trodAll_cons hA
  obtain ⟨v1, vs1, d1, ds1, p1, q1, rfl, rfl, rfl, h1, r1⟩ := trodAll_cons r0
  obtain ⟨rfl, rfl, rfl⟩ := trodAll_nil r1
  obtain rfl : args = #[v0, v1] := by cases args; simp_all
  obtain ⟨rfl, rfl⟩ := trodVars_none hV
  obtain ⟨a0, len0, cap0, rfl⟩ := okWide_slice Tryd.underlying47 (hval 0 47 v0 rfl rfl)
  have k0 := h0
  have lt0 : ∀ x ∈ p0, x.block < W.heap.size := by obtain ⟨m, hm⟩ := k0; exact DataW.trod_lt m _ _ _ hm
  have wt0 : ∀ n ∈ d0.weights Tryd.prog 47, n ≤ reachBytes := fun n hn => by
    have := List.all_eq_true.1 hsz n (DataW.weights_mem_each (j := 0) rfl rfl n hn)
    simpa using this
  obtain ⟨z0, w0⟩ : ∃ ss, IsStrs W a0 len0 ss := by
    obtain ⟨fuel, hf⟩ := h0
    exact strs_at hf wt0
  obtain ⟨a1, rfl, rfl, rfl, w1⟩ := open_int Tryd.underlying3 (hval 1 3 v1 rfl rfl) h1
  clear hA0 hval0
  refine (walk a0 len0 cap0 z0 a1 W (of_laid hL) w0 w1).mono fun e W' ⟨he, bel⟩ => ?_
  subst he
  exact ⟨_, rfl, _, _, _, [], _, [], hW', trodAll_mk1 (shut_bool Tryd.underlying4 _), (trodAll_cons_mk (Below.trod laidOut (by kernel_rfl) (of_decide_eq_true (by kernel_rfl)) k0 bel lt0) (trodAll_cons_mk (shut_int Tryd.underlying3 w1) trodAll_mk0)), rfl, bel.frame _, fun h => by cases h⟩

theorem over : Rows.dirLooksRow.holds Tryd.pinned (OpenSpec.ofChange Rows.dirLooksSpec) :=
  OpenClaim.holds_of_wide 8 Tryd.f8 rfl rfl rfl rfl rfl rfl rfl ⟨rfl, rfl, rfl, rfl, rfl⟩ rfl rfl rfl rfl rfl (by kernel_rfl) Tryd.func8 (by kernel_rfl)
    (of_decide_eq_true (by kernel_rfl)) (by unfold Func.isWrapper; first | (rw [if_pos (by decide +kernel)]; kernel_rfl) | (rw [if_neg (by decide +kernel)]; exact ⟨rfl, rfl⟩))
    (fun os started H enc _ => lifted os started H enc)

theorem card : Rows.DirLooksCardSaid :=
  Claim7.holds_tied_plain_at .later [] [.data, .pinned] true (true, "b52752b4ad1ea57d169ecc7371ec3f9f9e5e71061f90f46f4a0915212379700a") true
    over (fun _ h => by cases h) (by kernel_rfl) (fun _ h => by cases h) dirLooks_row_tie rfl ⟨rfl, rfl⟩ (by kernel_rfl) rfl
    (fun f fn hf hfn => by
      obtain rfl : f = 8 := Option.some.inj ((show Tryd.prog.funcNamed "concourse/concourselaw9.DirLooks" = some 8 by kernel_rfl).symm.trans hf) |>.symm
      obtain rfl : fn = Tryd.f8 := (Option.some.inj (Tryd.func8.symm.trans hfn)).symm
      exact ⟨by kernel_rfl, fun j t ht => by
        rw [Tryd.params8] at ht
        have hm : t ∈ [47, 3] := by simpa using Array.mem_of_getElem? ht
        have hall : ([47, 3].all fun u => !Tryd.prog.wantsStandIn u) = true := by kernel_rfl
        exact (show Tryd.prog.wantsStandIn t = false by simpa using List.all_eq_true.1 hall t hm)⟩)
    (by kernel_rfl)

end Go.Proofs.YtnbbcbjfejdceaaDoor.dirLooks

namespace Go.Proofs.YtnbbcbjfejdceaaDoor
theorem dirLooks_holds : Rows.DirLooksCardSaid := dirLooks.card
#print axioms dirLooks_holds
end Go.Proofs.YtnbbcbjfejdceaaDoor
