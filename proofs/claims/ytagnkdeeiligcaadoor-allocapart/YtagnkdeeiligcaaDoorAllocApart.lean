/-
  Proved: for every sizes and cores, the law AllocApart returns true; its card, tied to the program's text.
-/
import Derived.Test.YtagnkdeeiligcaaDoorRows
import Derived.Test.YtagnkdeeiligcaaDoorCards
import Derived.Test.YtagnkdeeiligcaaDoorTie
import Derived.Test.YtagnkdeeiligcaaDoorFar
import Derived.WalkKit
import Derived.ProofKit
import Derived.OpenShut
import Derived.ShutString
import Derived.ChangeOld
import Derived.Below
import Derived.Deep.Slices
import Derived.LaidMore
import Derived.Stop.Joined
import Derived.SevenTiedAt
namespace Go.Proofs.YtagnkdeeiligcaaDoor.allocApart
open Go.ChangeShapes Go.WideShapes Go.ChangeAt Go.RowKit
open Go.ChangeMaps (open_string shut_string)
set_option linter.unusedVariables false

def IsRow (k : IntKind) (w : World) (a : Option Addr) (len cap : Nat) (zs : List Int) : Prop :=
  (a = none ∧ len = 0 ∧ cap = 0 ∧ zs = []) ∨
  ∃ x, a = some x ∧ len ≤ cap ∧ cap ≤ maxLen ∧ zs.length = cap ∧ (∀ i, i < zs.length → w.cell? (x.add i) = some (.int k (zs.getD i 0))) ∧ ∀ n ∈ zs, (Lit.int k n).wf = true

set_option maxRecDepth 100000 in
set_option maxHeartbeats 8000000 in
theorem walk0 (a0 : Option Addr) (len0 cap0 : Nat) (z0 : List Int) (a1 : Int) (w : World) (hT : Tab w) (hl : len0 ≤ 9223372036854775807) (hce : ∀ i, i < len0 → ∃ bb off, a0 = some ⟨bb, off, none⟩ ∧ w.cell? ⟨bb, off + i, none⟩ = some (.int .i64 (wordAt z0 i))) :
    Calls Tryd.prog 4 #[.slice a0 len0 cap0, .int .i64 a1] w fun e w' => e = .returned (.bool true) ∧ Kept [] w w' := by
  obtain ⟨m, hm, hm2⟩ := low_nat 4 a1 _ (by omega) (i64_and3 a1)
  obtain ⟨k, hk⟩ : ∃ k, 2 + m = k := ⟨_, rfl⟩
  have hk1 : 2 ≤ k := by omega
  have hk2 : k ≤ 5 := by omega
  have hk3 : (2 : Int) + (m : Int) = (k : Int) := by omega
  have hs1 : 1024 / k ≤ 1000 := by
    have := Nat.div_le_div_left (a := 1024) hk1 (by omega)
    omega
  have HT : Hid (_) := hT
  have HCE : Hid (_) := hce
  clear hT hce hk hm2
  go_enter Tryd.func4, Tryd.ntmps4
  go_wp2_with fail
  refine (awake_any HT.out).mono ?_
  rintro e w1 ⟨rfl, hK1⟩
  have HK1 : Hid (_ ∧ _) := ⟨hK1, Tab.kept HT.out hK1 (by simp)⟩
  clear hK1
  go_wp2_with fail
  refine (u_new w1 1024 (k : Int) (by omega) (by omega) (by omega) (by omega)).mono ?_
  rintro e w2 ⟨b, rfl, hm2⟩
  have HM : Hid (Has w1 w2 b (fresh 1024 k)) := hm2
  clear hm2
  go_wp2_with fail
  refine (new_alloc (N := 1024) (k := k) (f := 0) (W := 1024) HM.out (by omega) (by omega) (by omega) (by omega) (by omega) hs1).mono ?_
  rintro e w3 ⟨x, A3, rfl, h3⟩
  obtain ⟨s, hs⟩ : ∃ s, 1024 / k = s := ⟨_, rfl⟩
  rw [hs] at h3
  have H3 : Hid (∃ A, St w1 w3 b x k 0 s A (fun _ => []) 900000) := ⟨A3, h3⟩
  clear h3 HM hs hs1
  go_wp2_with (first
    | (go_at_call 9; refine (num _ _).mono ?_; rintro e w' ⟨rfl, hw'⟩; subst hw'))
  clear hm
  go_loopw [10] (fun i wr => ∃ c : Nat, c ≤ k ∧ i = .int .i64 (c : Int) ∧ Hid (∃ A, St w1 wr b x k 0 s A (fun _ => []) 900000)) (fun i _ => (k - intOf i).toNat)
  case atStart => exact ⟨0, by omega, rfl, H3⟩
  case round =>
    obtain ⟨c, hc, rfl, HS⟩ := hrel
    clear H3
    by_cases hck : c < k
    · have c1 : (c : Int) < (k : Int) := by omega
      obtain ⟨A, hs⟩ := HS.out
      have HR : Hid (_) := hs
      clear hs HS
      go_wp2_with fail
      refine (st_clear HR.out hck).mono ?_
      rintro e w4 ⟨rfl, A4, h4⟩
      have HN : Hid (∃ A, St w1 w4 b x k 0 s A (fun _ => []) 900000) := ⟨A4, h4⟩
      clear h4 HR
      go_wp2
      go_roundw
      case rel => exact ⟨c + 1, by omega, by go_num, HN⟩
      case measure => simp [intOf]; omega
    · have c1 : ¬ (c : Int) < (k : Int) := by omega
      have H4 : Hid (∃ A P, St w1 wr b x k 0 s A P (900000 - 200 * 0)) := by
        obtain ⟨A, hs⟩ := HS.out
        exact ⟨A, _, hs⟩
      clear HS
      go_wp2_with fail
      go_loopw [11] (fun i w4 => ∃ n : Nat, n ≤ len0 ∧ n ≤ 40 ∧ i = .int .i64 (n : Int) ∧ Hid (∃ A P, St w1 w4 b x k 0 s A P (900000 - 200 * n))) (fun i _ => (40 - intOf i).toNat)
      case atStart => exact ⟨0, by omega, by omega, rfl, H4⟩
      case round =>
        obtain ⟨n, hn, hn2, rfl, HS⟩ := hrel
        clear H4
        by_cases hlt : n < len0 ∧ n < 40
        · obtain ⟨hlt, hlt2⟩ := hlt
          have i0 : (0 : Int) ≤ (n : Int) := by omega
          have i1 : (n : Int) < (len0 : Int) := by omega
          have i2 : (n : Int) < 40 := by omega
          obtain ⟨A, P, hs⟩ := HS.out
          have HR : Hid (_) := hs
          obtain ⟨bb, off, ea, hcell⟩ := HCE.out n hlt
          subst ea
          have x0 := (HK1.out.1.trans hs.kept (by simp)).cell hcell (by simp)
          obtain ⟨mz, hz, hz2⟩ := low_nat 8 (wordAt z0 n) _ (by omega) (i64_and7 _)
          obtain ⟨z, hzz⟩ : ∃ z, 1 + mz = z := ⟨_, rfl⟩
          have hz3 : (1 : Int) + (mz : Int) = (z : Int) := by omega
          have hz4 : 1 ≤ z := by omega
          have hz5 : z ≤ 32 := by omega
          have HCL : Hid (_) := hcell
          generalize wordAt z0 n = zv at *
          obtain ⟨cc, hcc⟩ : ∃ cc, n % k = cc := ⟨_, rfl⟩
          have hcc2 : cc < k := by rw [← hcc]; exact Nat.mod_lt _ (by omega)
          have hmod : (n : Int) % (k : Int) = (cc : Int) := by rw [← hcc]; simp
          clear hs HS hcell hzz hcc
          by_cases hfit : loads (P cc) + z + 2 ≤ s / 4
          · go_wp2_with fail
            refine (st_get HR.out hcc2 (900000 - 200 * n - 100) (by omega) z hz4 hz5 hfit).mono ?_
            rintro e w5 ⟨pos, A5, rfl, h5, -, -⟩
            have H5 : Hid (_) := h5
            have x5 := (HK1.out.1.trans h5.kept (by simp)).cell HCL.out (by simp)
            clear h5 x0
            obtain ⟨y5, hy5⟩ : ∃ y5 : Int, ((heap (0 + cc * s) s + pos : Nat) : Int) = y5 := ⟨_, rfl⟩
            rw [hy5]
            have HY5 : Hid (_) := hy5
            clear hy5
            by_cases h8 : bits .and .i64 zv 8 = 8
            · have b8 : (bits .and .i64 zv 8 == 8) = true := by rw [h8]; rfl
              clear h8
              go_wp2_with (first
                | (go_at_call 9; refine (num _ _).mono ?_; rintro e w' ⟨rfl, hw'⟩; subst hw'))
              rw [← HY5.out]
              refine (st_free H5.out HK1.out.2 hcc2 (900000 - 200 * (n + 1)) (by omega) (l1 := P cc) (l2 := []) (pc := (pos, z)) (by simp)).mono ?_
              rintro e w6 ⟨rfl, A6, h6⟩
              have HN : Hid (∃ A P, St w1 w6 b x k 0 s A P (900000 - 200 * (n + 1))) := ⟨A6, _, h6⟩
              clear h6 x5
              go_wp2_with (first
                | (go_at_call 9; refine (num _ _).mono ?_; rintro e w' ⟨rfl, hw'⟩; subst hw'))
              go_roundw
              case rel => exact ⟨n + 1, by omega, by omega, by go_num, HN⟩
              case measure => simp [intOf]; omega
            · have b8 : (bits .and .i64 zv 8 == 8) = false := by simpa using h8
              clear h8
              have HN : Hid (∃ A P, St w1 w5 b x k 0 s A P (900000 - 200 * (n + 1))) := ⟨A5, _, H5.out.less (by omega)⟩
              go_wp2_with (first
                | (go_at_call 9; refine (num _ _).mono ?_; rintro e w' ⟨rfl, hw'⟩; subst hw'))
              go_roundw
              case rel => exact ⟨n + 1, by omega, by omega, by go_num, HN⟩
              case measure => simp [intOf]; omega
          · go_wp2_with fail
            refine (st_full HR.out hcc2 (900000 - 200 * (n + 1)) (by omega) z hz4 hz5 (by omega)).mono ?_
            rintro e w5 ⟨rfl, A5, h5⟩
            have HN : Hid (∃ A P, St w1 w5 b x k 0 s A P (900000 - 200 * (n + 1))) := ⟨A5, _, h5⟩
            clear h5 x0
            go_wp2_with (first
              | (go_at_call 9; refine (num _ _).mono ?_; rintro e w' ⟨rfl, hw'⟩; subst hw'))
            go_roundw
            case rel => exact ⟨n + 1, by omega, by omega, by go_num, HN⟩
            case measure => simp [intOf]; omega
        · by_cases hx : n < len0
          · have i1 : (n : Int) < (len0 : Int) := by omega
            have i2 : ¬ (n : Int) < 40 := by omega
            obtain ⟨A, P, hs⟩ := HS.out
            have HR : Hid (_) := hs.less (show 800000 ≤ 900000 - 200 * n by omega)
            clear hs HS
            go_wp2_with fail
            go_loopw [16] (fun i w5 => ∃ c : Nat, c ≤ k ∧ i = .int .i64 (c : Int) ∧ Hid (St w1 w5 b x k 0 s A P 800000)) (fun i _ => (k - intOf i).toNat)
            case atStart => exact ⟨0, by omega, rfl, HR⟩
            case round =>
              obtain ⟨c, hc, rfl, HC⟩ := hrel
              by_cases hck : c < k
              · have c1 : (c : Int) < (k : Int) := by omega
                go_wp2_with fail
                go_loopw [17] (fun i w6 => ∃ d : Nat, d ≤ c ∧ i = .int .i64 (d : Int) ∧ Hid (St w1 w6 b x k 0 s A P 800000)) (fun i _ => (c - intOf i).toNat)
                case atStart => exact ⟨0, by omega, rfl, HC⟩
                case round =>
                  obtain ⟨d, hd, rfl, HD⟩ := hrel
                  by_cases hdc : d < c
                  · have d1 : (d : Int) < (c : Int) := by omega
                    have hdk : d < k := by omega
                    have hfar := HD.out.far hck hdc
                    have lc : (A.traces.getD c []).length ≤ 200000 := by have := HD.out.quota c hck; omega
                    have ld : (A.traces.getD d []).length ≤ 200000 := by have := HD.out.quota d hdk; omega
                    have HF : Hid (_ ∧ _ ∧ _) := ⟨hfar, lc, ld⟩
                    clear hfar lc ld
                    go_wp2_with fail
                    refine (st_trace HD.out hck).mono ?_
                    rintro e w7 ⟨u7, rfl, hu7, hk7⟩
                    have H7 : Hid (_ ∧ _) := ⟨hu7, HD.out.still hk7⟩
                    clear hu7 hk7
                    go_wp2_with fail
                    refine (st_trace H7.out.2 hdk).mono ?_
                    rintro e w8 ⟨u8, rfl, hu8, hk8⟩
                    have H8 : Hid (_ ∧ _ ∧ _) := ⟨H7.out.1.still hk8, hu8, H7.out.2.still hk8⟩
                    clear hu8 hk8 H7
                    go_wp2_with fail
                    refine (meet_any H8.out.1 H8.out.2.1 HF.out.2.1 HF.out.2.2 HF.out.1).mono ?_
                    rintro e w9 ⟨rfl, hk9⟩
                    have H9 : Hid (_) := H8.out.2.2.still hk9
                    clear hk9 H8
                    go_wp2_with fail
                    refine (st_trace H9.out hck).mono ?_
                    rintro e w10 ⟨u10, rfl, hu10, hk10⟩
                    have H10 : Hid (_ ∧ _) := ⟨hu10, H9.out.still hk10⟩
                    clear hu10 hk10 H9
                    go_wp2_with fail
                    refine (wordsOf_any H10.out.1 HF.out.2.1).mono ?_
                    rintro e w11 ⟨o11, xs, rfl, h1, -, -, hk11⟩
                    obtain ⟨a11, cap11, rfl, -⟩ := h1.read
                    have H11 : Hid (_) := H10.out.2.still hk11
                    clear h1 hk11 H10
                    by_cases hx : 0 < xs.length
                    · have x1 : (0 : Int) < (xs.length : Int) := by omega
                      go_wp2_with fail
                      refine (st_trace H11.out hck).mono ?_
                      rintro e w12 ⟨u12, rfl, hu12, hk12⟩
                      have H12 : Hid (_ ∧ _) := ⟨hu12, H11.out.still hk12⟩
                      clear hu12 hk12 H11
                      go_wp2_with fail
                      refine (st_trace H12.out.2 hdk).mono ?_
                      rintro e w13 ⟨u13, rfl, hu13, hk13⟩
                      have H13 : Hid (_ ∧ _ ∧ _) := ⟨H12.out.1.still hk13, hu13, H12.out.2.still hk13⟩
                      clear hu13 hk13 H12
                      go_wp2_with fail
                      refine (meets_any H13.out.1 H13.out.2.1 HF.out.2.1 HF.out.2.2 HF.out.1).mono ?_
                      rintro e w14 ⟨rfl, hk14⟩
                      have H14 : Hid (_) := H13.out.2.2.still hk14
                      clear hk14 H13
                      go_wp2
                      go_roundw
                      case rel => exact ⟨d + 1, by omega, by go_num, H14⟩
                      case measure => simp [intOf]; omega
                    · have x1 : ¬ (0 : Int) < (xs.length : Int) := by omega
                      go_wp2
                      go_roundw
                      case rel => exact ⟨d + 1, by omega, by go_num, H11⟩
                      case measure => simp [intOf]; omega
                  · have d1 : ¬ (d : Int) < (c : Int) := by omega
                    go_wp2
                    go_roundw
                    case rel => exact ⟨c + 1, by omega, by go_num, HD⟩
                    case measure => simp [intOf]; omega
              · have c1 : ¬ (c : Int) < (k : Int) := by omega
                go_wp2
                go_ret
                exact ⟨rfl, HK1.out.1.trans HC.out.kept (by simp)⟩
          · have i1 : ¬ (n : Int) < (len0 : Int) := by omega
            obtain ⟨A, P, hs⟩ := HS.out
            have HR : Hid (_) := hs.less (show 800000 ≤ 900000 - 200 * n by omega)
            clear hs HS
            go_wp2_with fail
            go_loopw [16] (fun i w5 => ∃ c : Nat, c ≤ k ∧ i = .int .i64 (c : Int) ∧ Hid (St w1 w5 b x k 0 s A P 800000)) (fun i _ => (k - intOf i).toNat)
            case atStart => exact ⟨0, by omega, rfl, HR⟩
            case round =>
              obtain ⟨c, hc, rfl, HC⟩ := hrel
              by_cases hck : c < k
              · have c1 : (c : Int) < (k : Int) := by omega
                go_wp2_with fail
                go_loopw [17] (fun i w6 => ∃ d : Nat, d ≤ c ∧ i = .int .i64 (d : Int) ∧ Hid (St w1 w6 b x k 0 s A P 800000)) (fun i _ => (c - intOf i).toNat)
                case atStart => exact ⟨0, by omega, rfl, HC⟩
                case round =>
                  obtain ⟨d, hd, rfl, HD⟩ := hrel
                  by_cases hdc : d < c
                  · have d1 : (d : Int) < (c : Int) := by omega
                    have hdk : d < k := by omega
                    have hfar := HD.out.far hck hdc
                    have lc : (A.traces.getD c []).length ≤ 200000 := by have := HD.out.quota c hck; omega
                    have ld : (A.traces.getD d []).length ≤ 200000 := by have := HD.out.quota d hdk; omega
                    have HF : Hid (_ ∧ _ ∧ _) := ⟨hfar, lc, ld⟩
                    clear hfar lc ld
                    go_wp2_with fail
                    refine (st_trace HD.out hck).mono ?_
                    rintro e w7 ⟨u7, rfl, hu7, hk7⟩
                    have H7 : Hid (_ ∧ _) := ⟨hu7, HD.out.still hk7⟩
                    clear hu7 hk7
                    go_wp2_with fail
                    refine (st_trace H7.out.2 hdk).mono ?_
                    rintro e w8 ⟨u8, rfl, hu8, hk8⟩
                    have H8 : Hid (_ ∧ _ ∧ _) := ⟨H7.out.1.still hk8, hu8, H7.out.2.still hk8⟩
                    clear hu8 hk8 H7
                    go_wp2_with fail
                    refine (meet_any H8.out.1 H8.out.2.1 HF.out.2.1 HF.out.2.2 HF.out.1).mono ?_
                    rintro e w9 ⟨rfl, hk9⟩
                    have H9 : Hid (_) := H8.out.2.2.still hk9
                    clear hk9 H8
                    go_wp2_with fail
                    refine (st_trace H9.out hck).mono ?_
                    rintro e w10 ⟨u10, rfl, hu10, hk10⟩
                    have H10 : Hid (_ ∧ _) := ⟨hu10, H9.out.still hk10⟩
                    clear hu10 hk10 H9
                    go_wp2_with fail
                    refine (wordsOf_any H10.out.1 HF.out.2.1).mono ?_
                    rintro e w11 ⟨o11, xs, rfl, h1, -, -, hk11⟩
                    obtain ⟨a11, cap11, rfl, -⟩ := h1.read
                    have H11 : Hid (_) := H10.out.2.still hk11
                    clear h1 hk11 H10
                    by_cases hx : 0 < xs.length
                    · have x1 : (0 : Int) < (xs.length : Int) := by omega
                      go_wp2_with fail
                      refine (st_trace H11.out hck).mono ?_
                      rintro e w12 ⟨u12, rfl, hu12, hk12⟩
                      have H12 : Hid (_ ∧ _) := ⟨hu12, H11.out.still hk12⟩
                      clear hu12 hk12 H11
                      go_wp2_with fail
                      refine (st_trace H12.out.2 hdk).mono ?_
                      rintro e w13 ⟨u13, rfl, hu13, hk13⟩
                      have H13 : Hid (_ ∧ _ ∧ _) := ⟨H12.out.1.still hk13, hu13, H12.out.2.still hk13⟩
                      clear hu13 hk13 H12
                      go_wp2_with fail
                      refine (meets_any H13.out.1 H13.out.2.1 HF.out.2.1 HF.out.2.2 HF.out.1).mono ?_
                      rintro e w14 ⟨rfl, hk14⟩
                      have H14 : Hid (_) := H13.out.2.2.still hk14
                      clear hk14 H13
                      go_wp2
                      go_roundw
                      case rel => exact ⟨d + 1, by omega, by go_num, H14⟩
                      case measure => simp [intOf]; omega
                    · have x1 : ¬ (0 : Int) < (xs.length : Int) := by omega
                      go_wp2
                      go_roundw
                      case rel => exact ⟨d + 1, by omega, by go_num, H11⟩
                      case measure => simp [intOf]; omega
                  · have d1 : ¬ (d : Int) < (c : Int) := by omega
                    go_wp2
                    go_roundw
                    case rel => exact ⟨c + 1, by omega, by go_num, HD⟩
                    case measure => simp [intOf]; omega
              · have c1 : ¬ (c : Int) < (k : Int) := by omega
                go_wp2
                go_ret
                exact ⟨rfl, HK1.out.1.trans HC.out.kept (by simp)⟩

theorem walk (a0 : Option Addr) (len0 cap0 : Nat) (z0 : List Int) (a1 : Int) (w : World) (hT : Tab w) (w0 : IsRow .i64 w a0 len0 cap0 z0) (_ : (Lit.int .i64 a1).wf = true) :
    Calls Tryd.prog 4 #[.slice a0 len0 cap0, .int .i64 a1] w fun e w' => e = .returned (.bool true) ∧ Below w.heap.size w w' := by
  have key : len0 ≤ 9223372036854775807 ∧ ∀ i, i < len0 → ∃ bb off, a0 = some ⟨bb, off, none⟩ ∧ w.cell? ⟨bb, off + i, none⟩ = some (.int .i64 (wordAt z0 i)) := by
    rcases w0 with ⟨_, h1, _, _⟩ | ⟨x, rfl, hl, hm, hz, hcell, _⟩
    · subst h1
      exact ⟨by omega, fun i hi => by omega⟩
    · refine ⟨by unfold maxLen at hm; omega, fun i hi => ?_⟩
      obtain ⟨bb, off, rfl, hc⟩ := ints_at hcell (by omega)
      exact ⟨bb, off, rfl, hc i (by omega)⟩
  exact (walk0 a0 len0 cap0 z0 a1 w hT key.1 key.2).mono fun e w' ⟨he, hk⟩ => ⟨he, hk.below (Nat.le_refl _) (by simp)⟩

set_option maxRecDepth 100000 in
theorem lifted (os : Os) (started : os.Started) (H : Type) (enc : TypeId × Value → H) :
    ReturnsInHanded {} Tryd.checked os 4 .any (fun w args => (Rows.allocApartSpec.pre enc Tryd.prog Tryd.f4 [] false w args ∧ laidMetH Tryd.prog laid1 w) ∧ sizedMet enc Tryd.prog Tryd.f4 (OpenSpec.ofChange Rows.allocApartSpec) false w args)
      (Rows.allocApartSpec.post enc Tryd.prog Tryd.f4 false true false false) := by
  refine returnsInHanded_of_change_and (C := Tryd.checked) (X := fun w _ => laidMetH Tryd.prog laid1 w) (fun _ _ _ hh h => h.of_heap hh) own started (by kernel_rfl) Tryd.func4
    (ChangeSpec.witness_shaped (enc := enc) (C := Tryd.checked) (os := os) (X := fun w _ => laidMetH Tryd.prog laid1 w) false (World.doorLaid Tryd.prog 400 os) #[.slice none 0 0, .int .i64 0] 8 rfl (World.shaped_of_RefB (by kernel_rfl) (by kernel_rfl)) (by kernel_rfl) (by kernel_rfl) (by kernel_rfl) (door_met os _)) ?_
  intro W base args ds gs before hval0 hW _ _ hL _
  have hval : ∀ (j : Nat) t v, Tryd.f4.params[j]? = some t → args[j]? = some v → Value.okWide Tryd.prog W .any base t v := hval0
  have hW' := hW
  obtain ⟨p, q, hA0, hV, rfl, hfz, hnd⟩ := hW
  have hA : DataW.TrodAll enc Tryd.prog W 0 (fun _ => true) true Tryd.f4.params.toList args.toList ds p := hA0
  rw [Tryd.params4] at hA hval
  obtain ⟨v0, vs0, d0, ds0, p0, q0, hargs, rfl, rfl, h0, r0⟩ := trodAll_cons hA
  obtain ⟨v1, vs1, d1, ds1, p1, q1, rfl, rfl, rfl, h1, r1⟩ := trodAll_cons r0
  obtain ⟨rfl, rfl, rfl⟩ := trodAll_nil r1
  obtain rfl : args = #[v0, v1] := by cases args; simp_all
  obtain ⟨rfl, rfl⟩ := trodVars_none hV
  obtain ⟨a0, len0, cap0, rfl⟩ := okWide_slice Tryd.underlying44 (hval 0 44 v0 rfl rfl)
  have k0 := h0
  have lt0 : ∀ x ∈ p0, x.block < W.heap.size := by obtain ⟨m, hm⟩ := k0; exact DataW.trod_lt m _ _ _ hm
  obtain ⟨z0, w0⟩ : ∃ zs, IsRow .i64 W a0 len0 cap0 zs := by
    obtain ⟨fuel, hf⟩ := h0
    rcases open_ints Tryd.underlying44 Tryd.underlying3 (by kernel_rfl) hf with ⟨hcs, _⟩ | ⟨x, l, c, zs, hcs, _, hl, hm, hz, _, hcell, hwz⟩
    · simp [Value.cells] at hcs
      obtain ⟨rfl, rfl, rfl⟩ := hcs
      exact ⟨[], .inl ⟨rfl, rfl, rfl, rfl⟩⟩
    · simp [Value.cells] at hcs
      obtain ⟨rfl, rfl, rfl⟩ := hcs
      exact ⟨zs, .inr ⟨_, rfl, hl, hm, by simpa using hz, hcell, hwz⟩⟩
  obtain ⟨a1, rfl, rfl, rfl, w1⟩ := open_int Tryd.underlying3 (hval 1 3 v1 rfl rfl) h1
  clear hA0 hval0
  refine (walk a0 len0 cap0 z0 a1 W (of_laid hL) w0 w1).mono fun e W' ⟨he, bel⟩ => ?_
  subst he
  exact ⟨_, rfl, _, _, _, [], _, [], hW', trodAll_mk1 (shut_bool Tryd.underlying4 _), (trodAll_cons_mk (Below.trod laidOut (by kernel_rfl) (of_decide_eq_true (by kernel_rfl)) k0 bel lt0) (trodAll_cons_mk (shut_int Tryd.underlying3 w1) trodAll_mk0)), rfl, bel.frame _, fun h => by cases h⟩

theorem over : Rows.allocApartRow.holds Tryd.pinned (OpenSpec.ofChange Rows.allocApartSpec) :=
  OpenClaim.holds_of_wide 4 Tryd.f4 rfl rfl rfl rfl rfl rfl rfl ⟨rfl, rfl, rfl, rfl, rfl⟩ rfl rfl rfl rfl rfl (by kernel_rfl) Tryd.func4 (by kernel_rfl)
    (of_decide_eq_true (by kernel_rfl)) (by unfold Func.isWrapper; first | (rw [if_pos (by decide +kernel)]; kernel_rfl) | (rw [if_neg (by decide +kernel)]; exact ⟨rfl, rfl⟩))
    (fun os started H enc _ => lifted os started H enc)

theorem card : Rows.AllocApartCardSaid :=
  Claim7.holds_tied_plain_at .later [] [.data] true (true, "dc9a8a4a362bad82089852e931c949fb14dc5bffdd24db5c8f597f69135225ba") true
    over (fun _ h => by cases h) (by kernel_rfl) (fun _ h => by cases h) allocApart_row_tie rfl ⟨rfl, rfl⟩ (by kernel_rfl) rfl
    (fun f fn hf hfn => by
      obtain rfl : f = 4 := Option.some.inj ((show Tryd.prog.funcNamed "concourse/concourselaw4.AllocApart" = some 4 by kernel_rfl).symm.trans hf) |>.symm
      obtain rfl : fn = Tryd.f4 := (Option.some.inj (Tryd.func4.symm.trans hfn)).symm
      exact ⟨by kernel_rfl, fun j t ht => by
        rw [Tryd.params4] at ht
        have hm : t ∈ [44, 3] := by simpa using Array.mem_of_getElem? ht
        have hall : ([44, 3].all fun u => !Tryd.prog.wantsStandIn u) = true := by kernel_rfl
        exact (show Tryd.prog.wantsStandIn t = false by simpa using List.all_eq_true.1 hall t hm)⟩)
    (by kernel_rfl)

end Go.Proofs.YtagnkdeeiligcaaDoor.allocApart

namespace Go.Proofs.YtagnkdeeiligcaaDoor
theorem allocApart_holds : Rows.AllocApartCardSaid := allocApart.card
#print axioms allocApart_holds
end Go.Proofs.YtagnkdeeiligcaaDoor
