/-
  Proved: for every vs, keep and last, the law PmemFenced returns true. No condition.
-/
import Derived.Test.YtghcommbflfbnaaRows
import Derived.Test.YtghcommbflfbnaaFen
import Derived.Test.YtghcommbflfbnaaAwake
import Derived.WalkKit
import Derived.ProofKit
import Derived.OpenShut
import Derived.ShutString
import Derived.ChangeOld
import Derived.Below
namespace Go.Proofs.Ytghcommbflfbnaa.pmemFenced
open Go.ChangeShapes Go.WideShapes Go.ChangeAt Go.RowKit
open Go.ChangeMaps (open_string shut_string)
set_option linter.unusedVariables false

theorem own : ownKnob Try.prog.godebug = none := by kernel_rfl
theorem laidOut : laidOutB Try.prog = true := by kernel_rfl

def IsRow (k : IntKind) (w : World) (a : Option Addr) (len cap : Nat) (zs : List Int) : Prop :=
  (a = none ∧ len = 0 ∧ cap = 0 ∧ zs = []) ∨
  ∃ x, a = some x ∧ len ≤ cap ∧ cap ≤ maxLen ∧ zs.length = cap ∧ (∀ i, i < zs.length → w.cell? (x.add i) = some (.int k (zs.getD i 0))) ∧ ∀ n ∈ zs, (Lit.int k n).wf = true

def V (z : List Int) (x : Nat) : Int := IntKind.u64.wrap (wordAt z x)

/-- What is wanted of word x, the special line aside. -/
def U1 (z : List Int) (n x : Nat) : Int := if x < n then V z x else 0

theorem c8_bounds (a0 : Int) : 0 ≤ wrap64 ((IntKind.u64.wrap a0).tmod 8) ∧ wrap64 ((IntKind.u64.wrap a0).tmod 8) < 8 := by
  have h0 : 0 ≤ IntKind.u64.wrap a0 := by rw [IntKind.wrap_u64]; omega
  generalize IntKind.u64.wrap a0 = x at *
  rw [Int.tmod_eq_emod_of_nonneg h0]
  have : wrap64 (x % 8) = x % 8 := by unfold wrap64; omega
  rw [this]
  omega

theorem odd_tests (a : Int) : (a % 2 = 1 → (bits .and .i64 a 1 == 1) = true ∧ (bits .and .i64 a 1 == 0) = false) ∧ (a % 2 = 0 → (bits .and .i64 a 1 == 1) = false ∧ (bits .and .i64 a 1 == 0) = true) := by
  rw [i64_and1]
  exact ⟨fun h => by rw [h]; decide, fun h => by rw [h]; decide⟩

/-- What the crash leaves, in the law's words. -/
def leaves (z : List Int) (n k : Nat) (keep : Int) (x : Nat) : Int := if x / 8 = k ∧ 0 ≤ keep ∧ keep % 2 = 1 then 1000 + ((x % 8 : Nat) : Int) else U1 z n x

set_option maxRecDepth 100000 in
set_option maxHeartbeats 8000000 in
theorem walk_some (bb off len0 cap0 : Nat) (z0 : List Int) (a1 : Int) (a2 : Int) (w : World) (hl : len0 ≤ 9223372036854775807)
    (hc : ∀ i, i < len0 → w.cell? ⟨bb, off + i, none⟩ = some (.int .i64 (wordAt z0 i))) (hb1 : -9223372036854775808 ≤ a1 ∧ a1 ≤ 9223372036854775807) :
    Calls Try.prog 4 #[.slice (some ⟨bb, off, none⟩) len0 cap0, .int .i64 a1, .int .i64 a2] w fun e w' => e = .returned (.bool true) ∧ Kept [] w w' := by
  have HCE : Hid (∀ i, i < len0 → w.cell? ⟨bb, off + i, none⟩ = some (.int .i64 (wordAt z0 i))) := hc
  clear hc
  have HC : Hid (_ ∧ _) := c8_bounds a2
  go_enter Try.func4, Try.ntmps4
  go_wp2_with fail
  refine (awake_any w).mono ?_
  rintro e w1 ⟨rfl, hK⟩
  have HK : Hid (_) := hK
  clear hK
  go_wp2_with fail
  refine (u_new w1 64 (by omega) (by omega) (by omega)).mono ?_
  rintro e w2 ⟨b, rfl, hm2⟩
  have hI : S1 (V z0) 0 (fresh (64 : Int).toNat) := S1.start (V z0)
  have HI : Hid (∃ M, Has w1 w2 b M ∧ S1 (V z0) 0 M) := ⟨_, hm2, hI⟩
  clear hm2 hI
  go_wp2_with fail
  go_loopw [9] (fun i wr => ∃ n : Nat, n ≤ len0 ∧ n ≤ 64 ∧ i = .int .i64 (n : Int) ∧ Hid (∃ M, Has w1 wr b M ∧ S1 (V z0) n M)) (fun i _ => (64 - intOf i).toNat)
  case atStart => exact ⟨0, by omega, by omega, rfl, HI⟩
  case round =>
    obtain ⟨n, hn, hn2, rfl, HR⟩ := hrel
    obtain ⟨M, hm, hI⟩ := HR.out
    have HJ : Hid (_) := hI
    clear hI HI HR
    by_cases hlt : n < len0 ∧ n < 64
    · obtain ⟨hlt, hlt2⟩ := hlt
      have hcell : wr.cell? ⟨bb, off + n, none⟩ = some (.int .i64 (wordAt z0 n)) := (HK.out.trans hm.1 (by simp)).cell (HCE.out n hlt) (by simp)
      have i0 : (0 : Int) ≤ (n : Int) := by omega
      have i1 : (n : Int) < (len0 : Int) := by omega
      go_wp2_with fail
      refine (u_store hm n (IntKind.u64.wrap (wordAt z0 n)) (by omega) (by rw [HJ.out.len]; omega) (by rw [HJ.out.steps]; omega) (by rw [HJ.out.steps]; omega) (by rw [HJ.out.stores]; omega) (by rw [HJ.out.stores]; omega)).mono ?_
      rintro e w4 ⟨rfl, hm4⟩
      rw [show (n : Int).toNat = n from by omega] at hm4
      have HN : Hid (_ ∧ _) := ⟨hm4, HJ.out.next hlt2⟩
      clear hm4 HJ hm hcell
      go_wp2
      go_roundw
      case rel => exact ⟨n + 1, by omega, by omega, by go_num, ⟨_, HN.out⟩⟩
      case measure => simp [intOf]; omega
    · by_cases hx : n < len0
      · have i1 : (n : Int) < (len0 : Int) := by omega
        have i2 : ¬ (n : Int) < 64 := by omega
        have HEX : Hid (∀ x : Nat, x < 64 → U1 z0 n x = U1 z0 len0 x) := fun x hx => by
          unfold U1
          congr 1; exact propext ⟨fun h2 => by omega, fun h2 => by omega⟩
        have H2 : Hid (∃ M, Has w1 wr b M ∧ S2 (U1 z0 n) n 0 M) := ⟨M, hm, HJ.out.then⟩
        clear hm HJ
        go_wp2_with fail
        go_loopw [10] (fun i wr => ∃ l : Nat, l ≤ 8 ∧ i = .int .i64 (l : Int) ∧ Hid (∃ M, Has w1 wr b M ∧ S2 (U1 z0 n) n l M)) (fun i _ => (8 - intOf i).toNat)
        case atStart => exact ⟨0, by omega, rfl, H2⟩
        case round =>
          obtain ⟨l, hl8, rfl, HR⟩ := hrel
          obtain ⟨M, hm, hI⟩ := HR.out
          have HJ : Hid (_) := hI
          clear hI H2 HR
          by_cases hlt3 : l < 8
          · go_wp2_with fail
            refine (u_flush hm l (by omega) (by rw [HJ.out.len]; omega) (by rw [HJ.out.steps]; omega) (by rw [HJ.out.steps]; omega)).mono ?_
            rintro e w4 ⟨rfl, hm4⟩
            rw [show (l : Int).toNat = l from by omega] at hm4
            have HN : Hid (_ ∧ _) := ⟨hm4, HJ.out.next⟩
            clear hm4 HJ hm
            go_wp2
            go_roundw
            case rel => exact ⟨l + 1, by omega, by go_num, ⟨_, HN.out⟩⟩
            case measure => simp [intOf]; omega
          · have hl9 : l = 8 := by omega
            subst hl9
            go_wp2_with fail
            refine (u_fence hm (by rw [HJ.out.steps]; omega) (by rw [HJ.out.steps]; omega)).mono ?_
            rintro e w5 ⟨rfl, hm5⟩
            clear hm
            go_wp2_with fail
            have hc0 := HC.out.1
            have hc1 := HC.out.2
            clear HC
            generalize wrap64 ((IntKind.u64.wrap a2).tmod 8) = kk at *
            obtain ⟨k, rfl⟩ := Int.eq_ofNat_of_zero_le hc0
            have hk8 : k < 8 := by omega
            have H3 : Hid (∃ M, Has w1 w5 b M ∧ S3 (U1 z0 n) n k 0 M) := ⟨_, hm5, HJ.out.then k⟩
            clear hm5 HJ
            go_loopw [12] (fun i wr => ∃ q : Nat, q ≤ 8 ∧ i = .int .i64 (q : Int) ∧ Hid (∃ M, Has w1 wr b M ∧ S3 (U1 z0 n) n k q M)) (fun i _ => (8 - intOf i).toNat)
            case atStart => exact ⟨0, by omega, rfl, H3⟩
            case round =>
              obtain ⟨q, hq8, rfl, HR⟩ := hrel
              obtain ⟨M, hm, hI⟩ := HR.out
              have HJ : Hid (_) := hI
              clear hI H3 HR
              by_cases hlt4 : q < 8
              · go_wp2_with fail
                refine (u_store hm (8 * k + q) (1000 + (q : Int)) (by omega) (by rw [HJ.out.len]; omega) (by rw [HJ.out.steps]; omega) (by rw [HJ.out.steps]; omega) (by rw [HJ.out.stores]; omega) (by rw [HJ.out.stores]; omega)).mono ?_
                rintro e w6 ⟨rfl, hm6⟩
                rw [show (8 * (k : Int) + (q : Int)).toNat = 8 * k + q from by omega] at hm6
                have HN : Hid (_ ∧ _) := ⟨hm6, HJ.out.next hk8 hlt4⟩
                clear hm6 HJ hm
                go_wp2
                go_roundw
                case rel => exact ⟨q + 1, by omega, by go_num, ⟨_, HN.out⟩⟩
                case measure => simp [intOf]; omega
              · have hq9 : q = 8 := by omega
                subst hq9
                go_wp2_with fail
                refine (u_crash hm a1 hb1.2).mono ?_
                rintro e w7 ⟨rfl, hm7⟩
                have hlen : (M.crash a1).seen.length = 64 := by rw [saved_length hm.ok (by simp [Pm.withPower, HJ.out.fuse]) a1]; exact HJ.out.len
                have hwd : ∀ x : Nat, x < 64 → wordAt (M.crash a1).seen x = leaves z0 len0 k a1 x := fun x hx => by
                  rw [HJ.out.crashed hm.ok hk8 a1 x hx, HEX.out x hx]; rfl
                clear hm
                generalize M.crash a1 = N at *
                have HW : Hid (_ ∧ _) := ⟨hlen, hwd⟩
                clear hlen hwd HJ HEX
                go_wp2_with fail
                refine (u_load hm7 (8 * k) (by omega) (by rw [HW.out.1]; omega)).mono ?_
                rintro e w' ⟨rfl, rfl⟩
                rw [show (8 * (k : Int)).toNat = 8 * k from by omega, HW.out.2 (8 * k) (by omega)]
                go_wp2_with fail
                go_loopw [15] (fun i wr => ∃ j : Nat, j ≤ 64 ∧ i = .int .i64 (j : Int) ∧ wr = w7) (fun i _ => (64 - intOf i).toNat)
                case atStart => exact ⟨0, by omega, rfl, rfl⟩
                case round =>
                  obtain ⟨j, hj, rfl, rfl⟩ := hrel
                  by_cases hlt5 : j < 64
                  · by_cases hjl : j < len0
                    · have hcell : wr.cell? ⟨bb, off + j, none⟩ = some (.int .i64 (wordAt z0 j)) := (HK.out.trans hm7.1 (by simp)).cell (HCE.out j hjl) (by simp)
                      have i0 : (0 : Int) ≤ (j : Int) := by omega
                      have i1 : (j : Int) < (len0 : Int) := by omega
                      by_cases hjk : j / 8 = k
                      · have t2 : ((j : Int) / 8 == (k : Int)) = true := by simp; omega
                        by_cases hk0 : 0 ≤ a1
                        · by_cases hod : a1 % 2 = 1
                          · have t4 := ((odd_tests a1).1 hod).1
                            have hv : leaves z0 len0 k a1 j = 1000 + ((j % 8 : Nat) : Int) := by unfold leaves; rw [if_pos ⟨hjk, hk0, hod⟩]
                            have HN : Hid (_ = _) := hv
                            clear hv
                            clear hjk hod
                            go_wp2_with fail
                            refine (u_load hm7 j (by omega) (by rw [HW.out.1]; omega)).mono ?_
                            rintro e w' ⟨rfl, rfl⟩
                            rw [show (j : Int).toNat = j from by omega, HW.out.2 j hlt5, HN.out]
                            go_wp2_with (first
                              | (go_at_call 11; refine (u_num _ _).mono ?_; rintro e w' ⟨rfl, rfl⟩))
                            go_roundw
                            case rel => exact ⟨j + 1, by omega, by go_num, trivial⟩
                            case measure => simp [intOf]; omega
                          · have t4 := ((odd_tests a1).2 (by omega)).1
                            have hv : leaves z0 len0 k a1 j = IntKind.u64.wrap (wordAt z0 j) := by unfold leaves; rw [if_neg (fun h3 => hod h3.2.2)]; unfold U1; rw [if_pos hjl]; rfl
                            have HN : Hid (_ = _) := hv
                            clear hv
                            clear hjk hod
                            go_wp2_with fail
                            refine (u_load hm7 j (by omega) (by rw [HW.out.1]; omega)).mono ?_
                            rintro e w' ⟨rfl, rfl⟩
                            rw [show (j : Int).toNat = j from by omega, HW.out.2 j hlt5, HN.out]
                            go_wp2_with (first
                              | (go_at_call 11; refine (u_num _ _).mono ?_; rintro e w' ⟨rfl, rfl⟩))
                            go_roundw
                            case rel => exact ⟨j + 1, by omega, by go_num, trivial⟩
                            case measure => simp [intOf]; omega
                        · have t5 : decide (0 ≤ a1) = false := by simp; omega
                          have hv : leaves z0 len0 k a1 j = IntKind.u64.wrap (wordAt z0 j) := by unfold leaves; rw [if_neg (fun h3 => hk0 h3.2.1)]; unfold U1; rw [if_pos hjl]; rfl
                          have HN : Hid (_ = _) := hv
                          clear hv
                          clear hjk
                          go_wp2_with fail
                          refine (u_load hm7 j (by omega) (by rw [HW.out.1]; omega)).mono ?_
                          rintro e w' ⟨rfl, rfl⟩
                          rw [show (j : Int).toNat = j from by omega, HW.out.2 j hlt5, HN.out]
                          go_wp2_with (first
                            | (go_at_call 11; refine (u_num _ _).mono ?_; rintro e w' ⟨rfl, rfl⟩))
                          go_roundw
                          case rel => exact ⟨j + 1, by omega, by go_num, trivial⟩
                          case measure => simp [intOf]; omega
                      · have t2 : ((j : Int) / 8 == (k : Int)) = false := by simp; omega
                        have hv : leaves z0 len0 k a1 j = IntKind.u64.wrap (wordAt z0 j) := by unfold leaves; rw [if_neg (fun h3 => hjk h3.1)]; unfold U1; rw [if_pos hjl]; rfl
                        have HN : Hid (_ = _) := hv
                        clear hv
                        clear hjk
                        go_wp2_with fail
                        refine (u_load hm7 j (by omega) (by rw [HW.out.1]; omega)).mono ?_
                        rintro e w' ⟨rfl, rfl⟩
                        rw [show (j : Int).toNat = j from by omega, HW.out.2 j hlt5, HN.out]
                        go_wp2_with (first
                          | (go_at_call 11; refine (u_num _ _).mono ?_; rintro e w' ⟨rfl, rfl⟩))
                        go_roundw
                        case rel => exact ⟨j + 1, by omega, by go_num, trivial⟩
                        case measure => simp [intOf]; omega
                    · have hjl2 : (len0 : Int) ≤ (j : Int) := by omega
                      exfalso; omega
                  · have hKK := HK.out.trans hm7.1 (by simp)
                    have hfirst : leaves z0 len0 k a1 (8 * k) = 1000 ∨ a1 < 0 ∨ a1 % 2 = 0 := by
                      unfold leaves
                      by_cases h3 : 0 ≤ a1 ∧ a1 % 2 = 1
                      · rw [if_pos ⟨by omega, h3⟩]; left; omega
                      · omega
                    by_cases h1 : leaves z0 len0 k a1 (8 * k) = 1000
                    · have tL : (leaves z0 len0 k a1 (8 * k) == 1000) = true := by simp [h1]
                      clear h1 hfirst
                      go_wp2_with (first
                        | (go_at_call 11; refine (u_num _ _).mono ?_; rintro e w' ⟨rfl, rfl⟩))
                      go_ret
                      exact ⟨rfl, hKK⟩
                    · have tL : (leaves z0 len0 k a1 (8 * k) == 1000) = false := by simp [h1]
                      by_cases h2 : a1 < 0
                      · clear h1 hfirst
                        go_wp2_with (first
                          | (go_at_call 11; refine (u_num _ _).mono ?_; rintro e w' ⟨rfl, rfl⟩))
                        go_ret
                        exact ⟨rfl, hKK⟩
                      · have t4 := ((odd_tests a1).2 (by omega)).2
                        clear h1 hfirst
                        go_wp2_with (first
                          | (go_at_call 11; refine (u_num _ _).mono ?_; rintro e w' ⟨rfl, rfl⟩))
                        go_ret
                        exact ⟨rfl, hKK⟩
      · have i1 : ¬ (n : Int) < (len0 : Int) := by omega
        have HEX : Hid (∀ x : Nat, x < 64 → U1 z0 n x = U1 z0 len0 x) := fun x hx => by
          unfold U1
          congr 1; exact propext ⟨fun h2 => by omega, fun h2 => by omega⟩
        have H2 : Hid (∃ M, Has w1 wr b M ∧ S2 (U1 z0 n) n 0 M) := ⟨M, hm, HJ.out.then⟩
        clear hm HJ
        go_wp2_with fail
        go_loopw [10] (fun i wr => ∃ l : Nat, l ≤ 8 ∧ i = .int .i64 (l : Int) ∧ Hid (∃ M, Has w1 wr b M ∧ S2 (U1 z0 n) n l M)) (fun i _ => (8 - intOf i).toNat)
        case atStart => exact ⟨0, by omega, rfl, H2⟩
        case round =>
          obtain ⟨l, hl8, rfl, HR⟩ := hrel
          obtain ⟨M, hm, hI⟩ := HR.out
          have HJ : Hid (_) := hI
          clear hI H2 HR
          by_cases hlt3 : l < 8
          · go_wp2_with fail
            refine (u_flush hm l (by omega) (by rw [HJ.out.len]; omega) (by rw [HJ.out.steps]; omega) (by rw [HJ.out.steps]; omega)).mono ?_
            rintro e w4 ⟨rfl, hm4⟩
            rw [show (l : Int).toNat = l from by omega] at hm4
            have HN : Hid (_ ∧ _) := ⟨hm4, HJ.out.next⟩
            clear hm4 HJ hm
            go_wp2
            go_roundw
            case rel => exact ⟨l + 1, by omega, by go_num, ⟨_, HN.out⟩⟩
            case measure => simp [intOf]; omega
          · have hl9 : l = 8 := by omega
            subst hl9
            go_wp2_with fail
            refine (u_fence hm (by rw [HJ.out.steps]; omega) (by rw [HJ.out.steps]; omega)).mono ?_
            rintro e w5 ⟨rfl, hm5⟩
            clear hm
            go_wp2_with fail
            have hc0 := HC.out.1
            have hc1 := HC.out.2
            clear HC
            generalize wrap64 ((IntKind.u64.wrap a2).tmod 8) = kk at *
            obtain ⟨k, rfl⟩ := Int.eq_ofNat_of_zero_le hc0
            have hk8 : k < 8 := by omega
            have H3 : Hid (∃ M, Has w1 w5 b M ∧ S3 (U1 z0 n) n k 0 M) := ⟨_, hm5, HJ.out.then k⟩
            clear hm5 HJ
            go_loopw [12] (fun i wr => ∃ q : Nat, q ≤ 8 ∧ i = .int .i64 (q : Int) ∧ Hid (∃ M, Has w1 wr b M ∧ S3 (U1 z0 n) n k q M)) (fun i _ => (8 - intOf i).toNat)
            case atStart => exact ⟨0, by omega, rfl, H3⟩
            case round =>
              obtain ⟨q, hq8, rfl, HR⟩ := hrel
              obtain ⟨M, hm, hI⟩ := HR.out
              have HJ : Hid (_) := hI
              clear hI H3 HR
              by_cases hlt4 : q < 8
              · go_wp2_with fail
                refine (u_store hm (8 * k + q) (1000 + (q : Int)) (by omega) (by rw [HJ.out.len]; omega) (by rw [HJ.out.steps]; omega) (by rw [HJ.out.steps]; omega) (by rw [HJ.out.stores]; omega) (by rw [HJ.out.stores]; omega)).mono ?_
                rintro e w6 ⟨rfl, hm6⟩
                rw [show (8 * (k : Int) + (q : Int)).toNat = 8 * k + q from by omega] at hm6
                have HN : Hid (_ ∧ _) := ⟨hm6, HJ.out.next hk8 hlt4⟩
                clear hm6 HJ hm
                go_wp2
                go_roundw
                case rel => exact ⟨q + 1, by omega, by go_num, ⟨_, HN.out⟩⟩
                case measure => simp [intOf]; omega
              · have hq9 : q = 8 := by omega
                subst hq9
                go_wp2_with fail
                refine (u_crash hm a1 hb1.2).mono ?_
                rintro e w7 ⟨rfl, hm7⟩
                have hlen : (M.crash a1).seen.length = 64 := by rw [saved_length hm.ok (by simp [Pm.withPower, HJ.out.fuse]) a1]; exact HJ.out.len
                have hwd : ∀ x : Nat, x < 64 → wordAt (M.crash a1).seen x = leaves z0 len0 k a1 x := fun x hx => by
                  rw [HJ.out.crashed hm.ok hk8 a1 x hx, HEX.out x hx]; rfl
                clear hm
                generalize M.crash a1 = N at *
                have HW : Hid (_ ∧ _) := ⟨hlen, hwd⟩
                clear hlen hwd HJ HEX
                go_wp2_with fail
                refine (u_load hm7 (8 * k) (by omega) (by rw [HW.out.1]; omega)).mono ?_
                rintro e w' ⟨rfl, rfl⟩
                rw [show (8 * (k : Int)).toNat = 8 * k from by omega, HW.out.2 (8 * k) (by omega)]
                go_wp2_with fail
                go_loopw [15] (fun i wr => ∃ j : Nat, j ≤ 64 ∧ i = .int .i64 (j : Int) ∧ wr = w7) (fun i _ => (64 - intOf i).toNat)
                case atStart => exact ⟨0, by omega, rfl, rfl⟩
                case round =>
                  obtain ⟨j, hj, rfl, rfl⟩ := hrel
                  by_cases hlt5 : j < 64
                  · by_cases hjl : j < len0
                    · have hcell : wr.cell? ⟨bb, off + j, none⟩ = some (.int .i64 (wordAt z0 j)) := (HK.out.trans hm7.1 (by simp)).cell (HCE.out j hjl) (by simp)
                      have i0 : (0 : Int) ≤ (j : Int) := by omega
                      have i1 : (j : Int) < (len0 : Int) := by omega
                      by_cases hjk : j / 8 = k
                      · have t2 : ((j : Int) / 8 == (k : Int)) = true := by simp; omega
                        by_cases hk0 : 0 ≤ a1
                        · by_cases hod : a1 % 2 = 1
                          · have t4 := ((odd_tests a1).1 hod).1
                            have hv : leaves z0 len0 k a1 j = 1000 + ((j % 8 : Nat) : Int) := by unfold leaves; rw [if_pos ⟨hjk, hk0, hod⟩]
                            have HN : Hid (_ = _) := hv
                            clear hv
                            clear hjk hod
                            go_wp2_with fail
                            refine (u_load hm7 j (by omega) (by rw [HW.out.1]; omega)).mono ?_
                            rintro e w' ⟨rfl, rfl⟩
                            rw [show (j : Int).toNat = j from by omega, HW.out.2 j hlt5, HN.out]
                            go_wp2_with (first
                              | (go_at_call 11; refine (u_num _ _).mono ?_; rintro e w' ⟨rfl, rfl⟩))
                            go_roundw
                            case rel => exact ⟨j + 1, by omega, by go_num, trivial⟩
                            case measure => simp [intOf]; omega
                          · have t4 := ((odd_tests a1).2 (by omega)).1
                            have hv : leaves z0 len0 k a1 j = IntKind.u64.wrap (wordAt z0 j) := by unfold leaves; rw [if_neg (fun h3 => hod h3.2.2)]; unfold U1; rw [if_pos hjl]; rfl
                            have HN : Hid (_ = _) := hv
                            clear hv
                            clear hjk hod
                            go_wp2_with fail
                            refine (u_load hm7 j (by omega) (by rw [HW.out.1]; omega)).mono ?_
                            rintro e w' ⟨rfl, rfl⟩
                            rw [show (j : Int).toNat = j from by omega, HW.out.2 j hlt5, HN.out]
                            go_wp2_with (first
                              | (go_at_call 11; refine (u_num _ _).mono ?_; rintro e w' ⟨rfl, rfl⟩))
                            go_roundw
                            case rel => exact ⟨j + 1, by omega, by go_num, trivial⟩
                            case measure => simp [intOf]; omega
                        · have t5 : decide (0 ≤ a1) = false := by simp; omega
                          have hv : leaves z0 len0 k a1 j = IntKind.u64.wrap (wordAt z0 j) := by unfold leaves; rw [if_neg (fun h3 => hk0 h3.2.1)]; unfold U1; rw [if_pos hjl]; rfl
                          have HN : Hid (_ = _) := hv
                          clear hv
                          clear hjk
                          go_wp2_with fail
                          refine (u_load hm7 j (by omega) (by rw [HW.out.1]; omega)).mono ?_
                          rintro e w' ⟨rfl, rfl⟩
                          rw [show (j : Int).toNat = j from by omega, HW.out.2 j hlt5, HN.out]
                          go_wp2_with (first
                            | (go_at_call 11; refine (u_num _ _).mono ?_; rintro e w' ⟨rfl, rfl⟩))
                          go_roundw
                          case rel => exact ⟨j + 1, by omega, by go_num, trivial⟩
                          case measure => simp [intOf]; omega
                      · have t2 : ((j : Int) / 8 == (k : Int)) = false := by simp; omega
                        have hv : leaves z0 len0 k a1 j = IntKind.u64.wrap (wordAt z0 j) := by unfold leaves; rw [if_neg (fun h3 => hjk h3.1)]; unfold U1; rw [if_pos hjl]; rfl
                        have HN : Hid (_ = _) := hv
                        clear hv
                        clear hjk
                        go_wp2_with fail
                        refine (u_load hm7 j (by omega) (by rw [HW.out.1]; omega)).mono ?_
                        rintro e w' ⟨rfl, rfl⟩
                        rw [show (j : Int).toNat = j from by omega, HW.out.2 j hlt5, HN.out]
                        go_wp2_with (first
                          | (go_at_call 11; refine (u_num _ _).mono ?_; rintro e w' ⟨rfl, rfl⟩))
                        go_roundw
                        case rel => exact ⟨j + 1, by omega, by go_num, trivial⟩
                        case measure => simp [intOf]; omega
                    · have hjl2 : (len0 : Int) ≤ (j : Int) := by omega
                      by_cases hjk : j / 8 = k
                      · have t2 : ((j : Int) / 8 == (k : Int)) = true := by simp; omega
                        by_cases hk0 : 0 ≤ a1
                        · by_cases hod : a1 % 2 = 1
                          · have t4 := ((odd_tests a1).1 hod).1
                            have hv : leaves z0 len0 k a1 j = 1000 + ((j % 8 : Nat) : Int) := by unfold leaves; rw [if_pos ⟨hjk, hk0, hod⟩]
                            have HN : Hid (_ = _) := hv
                            clear hv
                            clear hjk hod
                            go_wp2_with fail
                            refine (u_load hm7 j (by omega) (by rw [HW.out.1]; omega)).mono ?_
                            rintro e w' ⟨rfl, rfl⟩
                            rw [show (j : Int).toNat = j from by omega, HW.out.2 j hlt5, HN.out]
                            go_wp2_with (first
                              | (go_at_call 11; refine (u_num _ _).mono ?_; rintro e w' ⟨rfl, rfl⟩))
                            go_roundw
                            case rel => exact ⟨j + 1, by omega, by go_num, trivial⟩
                            case measure => simp [intOf]; omega
                          · have t4 := ((odd_tests a1).2 (by omega)).1
                            have hv : leaves z0 len0 k a1 j = 0 := by unfold leaves; rw [if_neg (fun h3 => hod h3.2.2)]; unfold U1; rw [if_neg hjl]
                            have HN : Hid (_ = _) := hv
                            clear hv
                            clear hjk hod
                            go_wp2_with fail
                            refine (u_load hm7 j (by omega) (by rw [HW.out.1]; omega)).mono ?_
                            rintro e w' ⟨rfl, rfl⟩
                            rw [show (j : Int).toNat = j from by omega, HW.out.2 j hlt5, HN.out]
                            go_wp2_with (first
                              | (go_at_call 11; refine (u_num _ _).mono ?_; rintro e w' ⟨rfl, rfl⟩))
                            go_roundw
                            case rel => exact ⟨j + 1, by omega, by go_num, trivial⟩
                            case measure => simp [intOf]; omega
                        · have t5 : decide (0 ≤ a1) = false := by simp; omega
                          have hv : leaves z0 len0 k a1 j = 0 := by unfold leaves; rw [if_neg (fun h3 => hk0 h3.2.1)]; unfold U1; rw [if_neg hjl]
                          have HN : Hid (_ = _) := hv
                          clear hv
                          clear hjk
                          go_wp2_with fail
                          refine (u_load hm7 j (by omega) (by rw [HW.out.1]; omega)).mono ?_
                          rintro e w' ⟨rfl, rfl⟩
                          rw [show (j : Int).toNat = j from by omega, HW.out.2 j hlt5, HN.out]
                          go_wp2_with (first
                            | (go_at_call 11; refine (u_num _ _).mono ?_; rintro e w' ⟨rfl, rfl⟩))
                          go_roundw
                          case rel => exact ⟨j + 1, by omega, by go_num, trivial⟩
                          case measure => simp [intOf]; omega
                      · have t2 : ((j : Int) / 8 == (k : Int)) = false := by simp; omega
                        have hv : leaves z0 len0 k a1 j = 0 := by unfold leaves; rw [if_neg (fun h3 => hjk h3.1)]; unfold U1; rw [if_neg hjl]
                        have HN : Hid (_ = _) := hv
                        clear hv
                        clear hjk
                        go_wp2_with fail
                        refine (u_load hm7 j (by omega) (by rw [HW.out.1]; omega)).mono ?_
                        rintro e w' ⟨rfl, rfl⟩
                        rw [show (j : Int).toNat = j from by omega, HW.out.2 j hlt5, HN.out]
                        go_wp2_with (first
                          | (go_at_call 11; refine (u_num _ _).mono ?_; rintro e w' ⟨rfl, rfl⟩))
                        go_roundw
                        case rel => exact ⟨j + 1, by omega, by go_num, trivial⟩
                        case measure => simp [intOf]; omega
                  · have hKK := HK.out.trans hm7.1 (by simp)
                    have hfirst : leaves z0 len0 k a1 (8 * k) = 1000 ∨ a1 < 0 ∨ a1 % 2 = 0 := by
                      unfold leaves
                      by_cases h3 : 0 ≤ a1 ∧ a1 % 2 = 1
                      · rw [if_pos ⟨by omega, h3⟩]; left; omega
                      · omega
                    by_cases h1 : leaves z0 len0 k a1 (8 * k) = 1000
                    · have tL : (leaves z0 len0 k a1 (8 * k) == 1000) = true := by simp [h1]
                      clear h1 hfirst
                      go_wp2_with (first
                        | (go_at_call 11; refine (u_num _ _).mono ?_; rintro e w' ⟨rfl, rfl⟩))
                      go_ret
                      exact ⟨rfl, hKK⟩
                    · have tL : (leaves z0 len0 k a1 (8 * k) == 1000) = false := by simp [h1]
                      by_cases h2 : a1 < 0
                      · clear h1 hfirst
                        go_wp2_with (first
                          | (go_at_call 11; refine (u_num _ _).mono ?_; rintro e w' ⟨rfl, rfl⟩))
                        go_ret
                        exact ⟨rfl, hKK⟩
                      · have t4 := ((odd_tests a1).2 (by omega)).2
                        clear h1 hfirst
                        go_wp2_with (first
                          | (go_at_call 11; refine (u_num _ _).mono ?_; rintro e w' ⟨rfl, rfl⟩))
                        go_ret
                        exact ⟨rfl, hKK⟩

set_option maxRecDepth 100000 in
set_option maxHeartbeats 8000000 in
theorem walk_none (a0 : Option Addr) (cap0 : Nat) (z0 : List Int) (a1 : Int) (a2 : Int) (w : World) (hb1 : -9223372036854775808 ≤ a1 ∧ a1 ≤ 9223372036854775807) :
    Calls Try.prog 4 #[.slice a0 0 cap0, .int .i64 a1, .int .i64 a2] w fun e w' => e = .returned (.bool true) ∧ Kept [] w w' := by
  have HC : Hid (_ ∧ _) := c8_bounds a2
  go_enter Try.func4, Try.ntmps4
  go_wp2_with fail
  refine (awake_any w).mono ?_
  rintro e w1 ⟨rfl, hK⟩
  have HK : Hid (_) := hK
  clear hK
  go_wp2_with fail
  refine (u_new w1 64 (by omega) (by omega) (by omega)).mono ?_
  rintro e w2 ⟨b, rfl, hm2⟩
  have hI : S1 (V z0) 0 (fresh (64 : Int).toNat) := S1.start (V z0)
  have HI : Hid (∃ M, Has w1 w2 b M ∧ S1 (V z0) 0 M) := ⟨_, hm2, hI⟩
  clear hm2 hI
  go_wp2_with fail
  go_loopw [9] (fun i wr => ∃ n : Nat, n ≤ 0 ∧ n ≤ 64 ∧ i = .int .i64 (n : Int) ∧ Hid (∃ M, Has w1 wr b M ∧ S1 (V z0) n M)) (fun i _ => (64 - intOf i).toNat)
  case atStart => exact ⟨0, by omega, by omega, rfl, HI⟩
  case round =>
    obtain ⟨n, hn, hn2, rfl, HR⟩ := hrel
    obtain ⟨M, hm, hI⟩ := HR.out
    have HJ : Hid (_) := hI
    clear hI HI HR
    by_cases hlt : n < 0 ∧ n < 64
    · omega
    · have i1 : ¬ (n : Int) < 0 := by omega
      have HEX : Hid (∀ x : Nat, x < 64 → U1 z0 n x = U1 z0 0 x) := fun x hx => by
        unfold U1
        congr 1; exact propext ⟨fun h2 => by omega, fun h2 => by omega⟩
      have H2 : Hid (∃ M, Has w1 wr b M ∧ S2 (U1 z0 n) n 0 M) := ⟨M, hm, HJ.out.then⟩
      clear hm HJ
      go_wp2_with fail
      go_loopw [10] (fun i wr => ∃ l : Nat, l ≤ 8 ∧ i = .int .i64 (l : Int) ∧ Hid (∃ M, Has w1 wr b M ∧ S2 (U1 z0 n) n l M)) (fun i _ => (8 - intOf i).toNat)
      case atStart => exact ⟨0, by omega, rfl, H2⟩
      case round =>
        obtain ⟨l, hl8, rfl, HR⟩ := hrel
        obtain ⟨M, hm, hI⟩ := HR.out
        have HJ : Hid (_) := hI
        clear hI H2 HR
        by_cases hlt3 : l < 8
        · go_wp2_with fail
          refine (u_flush hm l (by omega) (by rw [HJ.out.len]; omega) (by rw [HJ.out.steps]; omega) (by rw [HJ.out.steps]; omega)).mono ?_
          rintro e w4 ⟨rfl, hm4⟩
          rw [show (l : Int).toNat = l from by omega] at hm4
          have HN : Hid (_ ∧ _) := ⟨hm4, HJ.out.next⟩
          clear hm4 HJ hm
          go_wp2
          go_roundw
          case rel => exact ⟨l + 1, by omega, by go_num, ⟨_, HN.out⟩⟩
          case measure => simp [intOf]; omega
        · have hl9 : l = 8 := by omega
          subst hl9
          go_wp2_with fail
          refine (u_fence hm (by rw [HJ.out.steps]; omega) (by rw [HJ.out.steps]; omega)).mono ?_
          rintro e w5 ⟨rfl, hm5⟩
          clear hm
          go_wp2_with fail
          have hc0 := HC.out.1
          have hc1 := HC.out.2
          clear HC
          generalize wrap64 ((IntKind.u64.wrap a2).tmod 8) = kk at *
          obtain ⟨k, rfl⟩ := Int.eq_ofNat_of_zero_le hc0
          have hk8 : k < 8 := by omega
          have H3 : Hid (∃ M, Has w1 w5 b M ∧ S3 (U1 z0 n) n k 0 M) := ⟨_, hm5, HJ.out.then k⟩
          clear hm5 HJ
          go_loopw [12] (fun i wr => ∃ q : Nat, q ≤ 8 ∧ i = .int .i64 (q : Int) ∧ Hid (∃ M, Has w1 wr b M ∧ S3 (U1 z0 n) n k q M)) (fun i _ => (8 - intOf i).toNat)
          case atStart => exact ⟨0, by omega, rfl, H3⟩
          case round =>
            obtain ⟨q, hq8, rfl, HR⟩ := hrel
            obtain ⟨M, hm, hI⟩ := HR.out
            have HJ : Hid (_) := hI
            clear hI H3 HR
            by_cases hlt4 : q < 8
            · go_wp2_with fail
              refine (u_store hm (8 * k + q) (1000 + (q : Int)) (by omega) (by rw [HJ.out.len]; omega) (by rw [HJ.out.steps]; omega) (by rw [HJ.out.steps]; omega) (by rw [HJ.out.stores]; omega) (by rw [HJ.out.stores]; omega)).mono ?_
              rintro e w6 ⟨rfl, hm6⟩
              rw [show (8 * (k : Int) + (q : Int)).toNat = 8 * k + q from by omega] at hm6
              have HN : Hid (_ ∧ _) := ⟨hm6, HJ.out.next hk8 hlt4⟩
              clear hm6 HJ hm
              go_wp2
              go_roundw
              case rel => exact ⟨q + 1, by omega, by go_num, ⟨_, HN.out⟩⟩
              case measure => simp [intOf]; omega
            · have hq9 : q = 8 := by omega
              subst hq9
              go_wp2_with fail
              refine (u_crash hm a1 hb1.2).mono ?_
              rintro e w7 ⟨rfl, hm7⟩
              have hlen : (M.crash a1).seen.length = 64 := by rw [saved_length hm.ok (by simp [Pm.withPower, HJ.out.fuse]) a1]; exact HJ.out.len
              have hwd : ∀ x : Nat, x < 64 → wordAt (M.crash a1).seen x = leaves z0 0 k a1 x := fun x hx => by
                rw [HJ.out.crashed hm.ok hk8 a1 x hx, HEX.out x hx]; rfl
              clear hm
              generalize M.crash a1 = N at *
              have HW : Hid (_ ∧ _) := ⟨hlen, hwd⟩
              clear hlen hwd HJ HEX
              go_wp2_with fail
              refine (u_load hm7 (8 * k) (by omega) (by rw [HW.out.1]; omega)).mono ?_
              rintro e w' ⟨rfl, rfl⟩
              rw [show (8 * (k : Int)).toNat = 8 * k from by omega, HW.out.2 (8 * k) (by omega)]
              go_wp2_with fail
              go_loopw [15] (fun i wr => ∃ j : Nat, j ≤ 64 ∧ i = .int .i64 (j : Int) ∧ wr = w7) (fun i _ => (64 - intOf i).toNat)
              case atStart => exact ⟨0, by omega, rfl, rfl⟩
              case round =>
                obtain ⟨j, hj, rfl, rfl⟩ := hrel
                by_cases hlt5 : j < 64
                · by_cases hjk : j / 8 = k
                  · have t2 : ((j : Int) / 8 == (k : Int)) = true := by simp; omega
                    by_cases hk0 : 0 ≤ a1
                    · by_cases hod : a1 % 2 = 1
                      · have t4 := ((odd_tests a1).1 hod).1
                        have hv : leaves z0 0 k a1 j = 1000 + ((j % 8 : Nat) : Int) := by unfold leaves; rw [if_pos ⟨hjk, hk0, hod⟩]
                        have HN : Hid (_ = _) := hv
                        clear hv
                        clear hjk hod
                        go_wp2_with fail
                        refine (u_load hm7 j (by omega) (by rw [HW.out.1]; omega)).mono ?_
                        rintro e w' ⟨rfl, rfl⟩
                        rw [show (j : Int).toNat = j from by omega, HW.out.2 j hlt5, HN.out]
                        go_wp2_with (first
                          | (go_at_call 11; refine (u_num _ _).mono ?_; rintro e w' ⟨rfl, rfl⟩))
                        go_roundw
                        case rel => exact ⟨j + 1, by omega, by go_num, trivial⟩
                        case measure => simp [intOf]; omega
                      · have t4 := ((odd_tests a1).2 (by omega)).1
                        have hv : leaves z0 0 k a1 j = 0 := by unfold leaves; rw [if_neg (fun h3 => hod h3.2.2)]; unfold U1; rw [if_neg (by omega)]
                        have HN : Hid (_ = _) := hv
                        clear hv
                        clear hjk hod
                        go_wp2_with fail
                        refine (u_load hm7 j (by omega) (by rw [HW.out.1]; omega)).mono ?_
                        rintro e w' ⟨rfl, rfl⟩
                        rw [show (j : Int).toNat = j from by omega, HW.out.2 j hlt5, HN.out]
                        go_wp2_with (first
                          | (go_at_call 11; refine (u_num _ _).mono ?_; rintro e w' ⟨rfl, rfl⟩))
                        go_roundw
                        case rel => exact ⟨j + 1, by omega, by go_num, trivial⟩
                        case measure => simp [intOf]; omega
                    · have t5 : decide (0 ≤ a1) = false := by simp; omega
                      have hv : leaves z0 0 k a1 j = 0 := by unfold leaves; rw [if_neg (fun h3 => hk0 h3.2.1)]; unfold U1; rw [if_neg (by omega)]
                      have HN : Hid (_ = _) := hv
                      clear hv
                      clear hjk
                      go_wp2_with fail
                      refine (u_load hm7 j (by omega) (by rw [HW.out.1]; omega)).mono ?_
                      rintro e w' ⟨rfl, rfl⟩
                      rw [show (j : Int).toNat = j from by omega, HW.out.2 j hlt5, HN.out]
                      go_wp2_with (first
                        | (go_at_call 11; refine (u_num _ _).mono ?_; rintro e w' ⟨rfl, rfl⟩))
                      go_roundw
                      case rel => exact ⟨j + 1, by omega, by go_num, trivial⟩
                      case measure => simp [intOf]; omega
                  · have t2 : ((j : Int) / 8 == (k : Int)) = false := by simp; omega
                    have hv : leaves z0 0 k a1 j = 0 := by unfold leaves; rw [if_neg (fun h3 => hjk h3.1)]; unfold U1; rw [if_neg (by omega)]
                    have HN : Hid (_ = _) := hv
                    clear hv
                    clear hjk
                    go_wp2_with fail
                    refine (u_load hm7 j (by omega) (by rw [HW.out.1]; omega)).mono ?_
                    rintro e w' ⟨rfl, rfl⟩
                    rw [show (j : Int).toNat = j from by omega, HW.out.2 j hlt5, HN.out]
                    go_wp2_with (first
                      | (go_at_call 11; refine (u_num _ _).mono ?_; rintro e w' ⟨rfl, rfl⟩))
                    go_roundw
                    case rel => exact ⟨j + 1, by omega, by go_num, trivial⟩
                    case measure => simp [intOf]; omega
                · have hKK := HK.out.trans hm7.1 (by simp)
                  have hfirst : leaves z0 0 k a1 (8 * k) = 1000 ∨ a1 < 0 ∨ a1 % 2 = 0 := by
                    unfold leaves
                    by_cases h3 : 0 ≤ a1 ∧ a1 % 2 = 1
                    · rw [if_pos ⟨by omega, h3⟩]; left; omega
                    · omega
                  by_cases h1 : leaves z0 0 k a1 (8 * k) = 1000
                  · have tL : (leaves z0 0 k a1 (8 * k) == 1000) = true := by simp [h1]
                    clear h1 hfirst
                    go_wp2_with (first
                      | (go_at_call 11; refine (u_num _ _).mono ?_; rintro e w' ⟨rfl, rfl⟩))
                    go_ret
                    exact ⟨rfl, hKK⟩
                  · have tL : (leaves z0 0 k a1 (8 * k) == 1000) = false := by simp [h1]
                    by_cases h2 : a1 < 0
                    · clear h1 hfirst
                      go_wp2_with (first
                        | (go_at_call 11; refine (u_num _ _).mono ?_; rintro e w' ⟨rfl, rfl⟩))
                      go_ret
                      exact ⟨rfl, hKK⟩
                    · have t4 := ((odd_tests a1).2 (by omega)).2
                      clear h1 hfirst
                      go_wp2_with (first
                        | (go_at_call 11; refine (u_num _ _).mono ?_; rintro e w' ⟨rfl, rfl⟩))
                      go_ret
                      exact ⟨rfl, hKK⟩

theorem walk (a0 : Option Addr) (len0 cap0 : Nat) (z0 : List Int) (a1 : Int) (a2 : Int) (w : World) (w0 : IsRow .i64 w a0 len0 cap0 z0) (w1 : (Lit.int .i64 a1).wf = true) (w2 : (Lit.int .i64 a2).wf = true) :
    Calls Try.prog 4 #[.slice a0 len0 cap0, .int .i64 a1, .int .i64 a2] w fun e w' => e = .returned (.bool true) ∧ Below w.heap.size w w' := by
  have hb1 := bounds_i64 w1
  by_cases h0 : len0 = 0
  · subst h0
    exact (walk_none a0 cap0 z0 a1 a2 w hb1).mono fun e w' ⟨he, hk⟩ => ⟨he, hk.below (Nat.le_refl _) (by simp)⟩
  · rcases w0 with ⟨_, h1, _, _⟩ | ⟨x, rfl, hl, hm, hz, hcell, _⟩
    · exact absurd h1 h0
    · obtain ⟨bb, off, rfl, hc⟩ := ints_at hcell (by omega)
      refine (walk_some bb off len0 cap0 z0 a1 a2 w (by unfold maxLen at hm; omega) (fun i hi => ?_) hb1).mono fun e w' ⟨he, hk⟩ => ⟨he, hk.below (Nat.le_refl _) (by simp)⟩
      exact hc i (by omega)

set_option maxRecDepth 100000 in
theorem lifted (os : Os) (started : os.Started) (H : Type) (enc : TypeId × Value → H) :
    ReturnsInHanded {} Try.checked os 4 .any (Rows.pmemFencedSpec.pre6 enc Try.prog Try.f4 Rows.pmemFencedRow.domain false) (Rows.pmemFencedSpec.post enc Try.prog Try.f4 false true false false) := by
  refine returnsInHanded_of_change (C := Try.checked) own started (by kernel_rfl) Try.func4
    (ChangeSpec.witness6 (enc := enc) (C := Try.checked) false ⟨#[], #[.slice none 0 0, .int .i64 0, .int .i64 0], []⟩ 8 (by kernel_rfl) (by kernel_rfl) (by kernel_rfl) (by kernel_rfl)) ?_
  intro W base args ds gs before hval0 hW hcnd _
  have hval : ∀ (j : Nat) t v, Try.f4.params[j]? = some t → args[j]? = some v → Value.okWide Try.prog W .any base t v := hval0
  have hW' := hW
  obtain ⟨p, q, hA0, hV, rfl, hfz, hnd⟩ := hW
  have hA : DataW.TrodAll enc Try.prog W 0 (fun _ => true) true Try.f4.params.toList args.toList ds p := hA0
  rw [Try.params4] at hA hval
  obtain ⟨v0, vs0, d0, ds0, p0, q0, hargs, rfl, rfl, h0, r0⟩ := trodAll_cons hA
  obtain ⟨v1, vs1, d1, ds1, p1, q1, rfl, rfl, rfl, h1, r1⟩ := trodAll_cons r0
  obtain ⟨v2, vs2, d2, ds2, p2, q2, rfl, rfl, rfl, h2, r2⟩ := trodAll_cons r1
  obtain ⟨rfl, rfl, rfl⟩ := trodAll_nil r2
  obtain rfl : args = #[v0, v1, v2] := by cases args; simp_all
  obtain ⟨rfl, rfl⟩ := trodVars_none hV
  obtain ⟨a0, len0, cap0, rfl⟩ := okWide_slice Try.underlying48 (hval 0 48 v0 rfl rfl)
  have k0 := h0
  have lt0 : ∀ x ∈ p0, x.block < W.heap.size := by obtain ⟨m, hm⟩ := k0; exact DataW.trod_lt m _ _ _ hm
  obtain ⟨z0, w0⟩ : ∃ zs, IsRow .i64 W a0 len0 cap0 zs := by
    obtain ⟨fuel, hf⟩ := h0
    rcases open_ints Try.underlying48 Try.underlying3 (by kernel_rfl) hf with ⟨hcs, _⟩ | ⟨x, l, c, zs, hcs, _, hl, hm, hz, _, hcell, hwz⟩
    · simp [Value.cells] at hcs
      obtain ⟨rfl, rfl, rfl⟩ := hcs
      exact ⟨[], .inl ⟨rfl, rfl, rfl, rfl⟩⟩
    · simp [Value.cells] at hcs
      obtain ⟨rfl, rfl, rfl⟩ := hcs
      exact ⟨zs, .inr ⟨_, rfl, hl, hm, by simpa using hz, hcell, hwz⟩⟩
  obtain ⟨a1, rfl, rfl, rfl, w1⟩ := open_int Try.underlying3 (hval 1 3 v1 rfl rfl) h1
  obtain ⟨a2, rfl, rfl, rfl, w2⟩ := open_int Try.underlying3 (hval 2 3 v2 rfl rfl) h2
  clear hA0 hval0
  refine (walk a0 len0 cap0 z0 a1 a2 W w0 w1 w2).mono fun e W' ⟨he, bel⟩ => ?_
  subst he
  exact ⟨_, rfl, _, _, _, [], _, [], hW', trodAll_mk1 (shut_bool Try.underlying4 _), (trodAll_cons_mk (Below.trod laidOut (by kernel_rfl) (of_decide_eq_true (by kernel_rfl)) k0 bel lt0) (trodAll_cons_mk (shut_int Try.underlying3 w1) (trodAll_cons_mk (shut_int Try.underlying3 w2) trodAll_mk0))), rfl, bel.frame _, fun h => by cases h⟩

theorem over : Rows.pmemFencedRow.holds Try.pinned (OpenSpec.ofChange Rows.pmemFencedSpec) :=
  OpenClaim.holds_of_wide 4 Try.f4 rfl rfl rfl rfl rfl rfl rfl ⟨rfl, rfl, rfl, rfl, rfl⟩ rfl rfl rfl rfl rfl (by kernel_rfl) Try.func4 (by kernel_rfl)
    (of_decide_eq_true (by kernel_rfl)) (by unfold Func.isWrapper; first | (rw [if_pos (by decide +kernel)]; kernel_rfl) | (rw [if_neg (by decide +kernel)]; exact ⟨rfl, rfl⟩))
    (fun os started H enc _ => lifted os started H enc)

end Go.Proofs.Ytghcommbflfbnaa.pmemFenced

namespace Go.Proofs.Ytghcommbflfbnaa
theorem pmemFenced_holds : Rows.PmemFencedSaid := pmemFenced.over
#print axioms pmemFenced_holds
end Go.Proofs.Ytghcommbflfbnaa
