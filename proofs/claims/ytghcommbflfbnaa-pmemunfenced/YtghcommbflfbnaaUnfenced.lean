/-
  Proved: for every lines, keep and flush, the law PmemUnfenced returns true. No condition.
-/
import Derived.Test.YtghcommbflfbnaaRows
import Derived.Test.YtghcommbflfbnaaUnf
import Derived.Test.YtghcommbflfbnaaAwake
import Derived.WalkKit
import Derived.ProofKit
import Derived.OpenShut
namespace Go.Proofs.Ytghcommbflfbnaa.pmemUnfenced
open Go.ChangeShapes Go.WideShapes Go.ChangeAt Go.RowKit
set_option linter.unusedVariables false

theorem own : ownKnob Try.prog.godebug = none := by kernel_rfl

set_option maxHeartbeats 4000000 in
theorem walk (a0 : Int) (a1 : Int) (a2 : Bool) (w0 : (Lit.int .i64 a0).wf = true) (w1 : (Lit.int .i64 a1).wf = true) (w : World) :
    Calls Try.prog 6 #[.int .i64 a0, .int .i64 a1, .bool a2] w fun e w' => e = .returned (.bool true) ∧ Kept [] w w' := by
  have hb0 := bounds_i64 w0
  have hb1 := bounds_i64 w1
  clear w0 w1
  go_enter Try.func6, Try.ntmps6
  go_wp2_with fail
  refine (awake_any w).mono ?_
  rintro e w1 ⟨rfl, hK⟩
  have HK : Hid (_) := hK
  clear hK
  go_wp2_with fail
  refine (u_new w1 64 (by omega) (by omega) (by omega)).mono ?_
  rintro e w2 ⟨b, rfl, hm2⟩
  have hI : UInv a0 0 (fresh (64 : Int).toNat) := UInv.start a0
  have HI : Hid (∃ M, Has w1 w2 b M ∧ UInv a0 0 M) := ⟨_, hm2, hI⟩
  clear hm2 hI
  go_wp2_with fail
  go_loopw [10] (fun i wr => ∃ n : Nat, n ≤ 8 ∧ i = .int .i64 (n : Int) ∧ Hid (∃ M, Has w1 wr b M ∧ UInv a0 n M)) (fun i _ => (8 - intOf i).toNat)
  case atStart => exact ⟨0, by omega, rfl, HI⟩
  case round =>
    obtain ⟨n, hn, rfl, HR⟩ := hrel
    obtain ⟨M, hm, hI⟩ := HR.out
    have HJ : Hid (_) := hI
    clear hI HI HR
    by_cases hlt : n < 8
    · cases hb : kbit a0 n with
      | false =>
        have ht := ((bit_tests a0 n).2 hb).1
        have HN : Hid (_ ∧ _) := ⟨hm, HJ.out.skip hb⟩
        clear hb hm HJ
        go_wp2
        go_roundw
        case rel => exact ⟨n + 1, by omega, by go_num, ⟨_, HN.out⟩⟩
        case measure => simp [intOf]; omega
      | true =>
        have ht := ((bit_tests a0 n).1 hb).1
        have HB : Hid (_) := hb
        clear hb
        go_wp2_with fail
        refine (u_store hm (8 * n + n) (100 + (n : Int)) (by omega) (by rw [HJ.out.len]; omega) (by have := HJ.out.steps; omega) (by have := HJ.out.steps; omega) (by have := HJ.out.stores; omega) (by have := HJ.out.stores; omega)).mono ?_
        rintro e w4 ⟨rfl, hm4⟩
        rw [show (8 * (n : Int) + (n : Int)).toNat = 8 * n + n from by omega] at hm4
        clear hm
        cases a2 with
        | false =>
          have HN : Hid (_ ∧ _) := ⟨hm4, HJ.out.put hlt HB.out⟩
          clear hm4 HJ HB
          go_wp2
          go_roundw
          case rel => exact ⟨n + 1, by omega, by go_num, ⟨_, HN.out⟩⟩
          case measure => simp [intOf]; omega
        | true =>
          go_wp2_with fail
          refine (u_flush hm4 n (by omega) (by rw [store_seen, List.length_set, HJ.out.len]; omega) (by rw [store_steps]; have := HJ.out.steps; omega) (by rw [store_steps]; have := HJ.out.steps; omega)).mono ?_
          rintro e w5 ⟨rfl, hm5⟩
          rw [show (n : Int).toNat = n from by omega] at hm5
          have HN : Hid (_ ∧ _) := ⟨hm5, HJ.out.flushed hlt HB.out⟩
          clear hm4 hm5 HJ HB
          go_wp2
          go_roundw
          case rel => exact ⟨n + 1, by omega, by go_num, ⟨_, HN.out⟩⟩
          case measure => simp [intOf]; omega
    · have hn8 : n = 8 := by omega
      subst hn8
      go_wp2_with fail
      refine (u_crash hm a1 hb1.2).mono ?_
      rintro e w4 ⟨rfl, hm4⟩
      have hlen : (M.crash a1).seen.length = 64 := by rw [saved_length hm.ok (by simp [Pm.withPower, HJ.out.fuse]) a1]; exact HJ.out.len
      have hwd := fun l hl => HJ.out.crashed hm.ok a1 l hl
      clear hm
      generalize M.crash a1 = N at *
      have HW : Hid (_ ∧ _) := ⟨hlen, hwd⟩
      clear hlen hwd HJ
      go_wp2_with fail
      go_loopw [9, 11] (fun k i wr => ∃ j : Nat, j ≤ 8 ∧ i = .int .i64 (j : Int) ∧ k = .int .i64 (cnt a0 j : Int) ∧ wr = w4) (fun _ i _ => (8 - intOf i).toNat)
      case atStart => exact ⟨0, by omega, rfl, rfl, rfl⟩
      case round =>
        obtain ⟨j, hj, rfl, rfl, rfl⟩ := hrel
        by_cases hlt2 : j < 8
        · have hcn := cnt_le a0 j
          have hw1 := HW.out.2 j hlt2
          cases hb : kbit a0 j with
          | false =>
            have ht := ((bit_tests a0 j).2 hb).2
            have hnx : cnt a0 (j + 1) = cnt a0 j := by simp [cnt, hb]
            rw [hb, if_neg (by simp)] at hw1
            have HN : Hid (_ ∧ _) := ⟨hnx, hw1⟩
            clear hb hnx hw1
            go_wp2_with fail
            refine (u_load hm4 (8 * j + j) (by omega) (by rw [HW.out.1]; omega)).mono ?_
            rintro e w' ⟨rfl, rfl⟩
            rw [show (8 * (j : Int) + (j : Int)).toNat = 8 * j + j from by omega, HN.out.2]
            go_wp2_with (first
              | (go_at_call 11; refine (u_num _ _).mono ?_; rintro e w' ⟨rfl, rfl⟩))
            go_roundw
            case rel => exact ⟨j + 1, by omega, by go_num, by rw [HN.out.1], trivial⟩
            case measure => simp [intOf]; omega
          | true =>
            have ht := ((bit_tests a0 j).1 hb).2
            have hnx : cnt a0 (j + 1) = cnt a0 j + 1 := by simp [cnt, hb]
            by_cases hk0 : 0 ≤ a1
            · cases hkb : kbit a1 (cnt a0 j) with
              | true =>
                have ht2 := ((bit_tests a1 (cnt a0 j)).1 hkb).2
                rw [if_pos ⟨hb, hk0, hkb⟩] at hw1
                have HN : Hid (_ ∧ _) := ⟨hnx, hw1⟩
                clear hb hnx hw1 hkb
                go_wp2_with fail
                refine (u_load hm4 (8 * j + j) (by omega) (by rw [HW.out.1]; omega)).mono ?_
                rintro e w' ⟨rfl, rfl⟩
                rw [show (8 * (j : Int) + (j : Int)).toNat = 8 * j + j from by omega, HN.out.2]
                go_wp2_with (first
                  | (go_at_call 11; refine (u_num _ _).mono ?_; rintro e w' ⟨rfl, rfl⟩))
                go_roundw
                case rel => exact ⟨j + 1, by omega, by go_num, by rw [HN.out.1]; go_num, trivial⟩
                case measure => simp [intOf]; omega
              | false =>
                have ht2 := ((bit_tests a1 (cnt a0 j)).2 hkb).2
                rw [if_neg (by rw [hkb]; simp)] at hw1
                have HN : Hid (_ ∧ _) := ⟨hnx, hw1⟩
                clear hb hnx hw1 hkb
                go_wp2_with fail
                refine (u_load hm4 (8 * j + j) (by omega) (by rw [HW.out.1]; omega)).mono ?_
                rintro e w' ⟨rfl, rfl⟩
                rw [show (8 * (j : Int) + (j : Int)).toNat = 8 * j + j from by omega, HN.out.2]
                go_wp2_with (first
                  | (go_at_call 11; refine (u_num _ _).mono ?_; rintro e w' ⟨rfl, rfl⟩))
                go_roundw
                case rel => exact ⟨j + 1, by omega, by go_num, by rw [HN.out.1]; go_num, trivial⟩
                case measure => simp [intOf]; omega
            · rw [if_neg (fun h3 => hk0 h3.2.1)] at hw1
              have HN : Hid (_ ∧ _) := ⟨hnx, hw1⟩
              clear hb hnx hw1
              go_wp2_with fail
              refine (u_load hm4 (8 * j + j) (by omega) (by rw [HW.out.1]; omega)).mono ?_
              rintro e w' ⟨rfl, rfl⟩
              rw [show (8 * (j : Int) + (j : Int)).toNat = 8 * j + j from by omega, HN.out.2]
              go_wp2_with (first
                | (go_at_call 11; refine (u_num _ _).mono ?_; rintro e w' ⟨rfl, rfl⟩))
              go_roundw
              case rel => exact ⟨j + 1, by omega, by go_num, by rw [HN.out.1]; go_num, trivial⟩
              case measure => simp [intOf]; omega
        · have hKK := HK.out.trans hm4.1 (by simp)
          go_wp2_with (first
            | (go_at_call 11; refine (u_num _ _).mono ?_; rintro e w' ⟨rfl, rfl⟩))
          go_ret
          exact ⟨rfl, hKK⟩

set_option maxRecDepth 100000 in
theorem lifted (os : Os) (started : os.Started) (H : Type) (enc : TypeId × Value → H) :
    ReturnsInHanded {} Try.checked os 6 .any (Rows.pmemUnfencedSpec.pre6 enc Try.prog Try.f6 Rows.pmemUnfencedRow.domain false) (Rows.pmemUnfencedSpec.post enc Try.prog Try.f6 false true false false) := by
  refine returnsInHanded_of_change (C := Try.checked) own started (by kernel_rfl) Try.func6
    (ChangeSpec.witness6 (enc := enc) (C := Try.checked) false ⟨#[], #[.int .i64 0, .int .i64 0, .bool false], []⟩ 8 (by kernel_rfl) (by kernel_rfl) (by kernel_rfl) (by kernel_rfl)) ?_
  intro W base args ds gs before hval0 hW hcnd _
  have hval : ∀ (j : Nat) t v, Try.f6.params[j]? = some t → args[j]? = some v → Value.okWide Try.prog W .any base t v := hval0
  have hW' := hW
  obtain ⟨p, q, hA0, hV, rfl, hfz, hnd⟩ := hW
  have hA : DataW.TrodAll enc Try.prog W 0 (fun _ => true) true Try.f6.params.toList args.toList ds p := hA0
  rw [Try.params6] at hA hval
  obtain ⟨v0, vs0, d0, ds0, p0, q0, hargs, rfl, rfl, h0, r0⟩ := trodAll_cons hA
  obtain ⟨v1, vs1, d1, ds1, p1, q1, rfl, rfl, rfl, h1, r1⟩ := trodAll_cons r0
  obtain ⟨v2, vs2, d2, ds2, p2, q2, rfl, rfl, rfl, h2, r2⟩ := trodAll_cons r1
  obtain ⟨rfl, rfl, rfl⟩ := trodAll_nil r2
  obtain rfl : args = #[v0, v1, v2] := by cases args; simp_all
  obtain ⟨rfl, rfl⟩ := trodVars_none hV
  obtain ⟨a0, rfl, rfl, rfl, w0⟩ := open_int Try.underlying3 (hval 0 3 v0 rfl rfl) h0
  obtain ⟨a1, rfl, rfl, rfl, w1⟩ := open_int Try.underlying3 (hval 1 3 v1 rfl rfl) h1
  obtain ⟨a2, rfl, rfl, rfl⟩ := open_bool Try.underlying4 (hval 2 4 v2 rfl rfl) h2
  clear hA0 hval0
  simp only [List.append_nil] at hW'
  refine (walk a0 a1 a2 w0 w1 W).mono fun e W' ⟨he, hg⟩ => ?_
  subst he
  exact ⟨_, rfl, _, _, _, [], [], [], hW', (trodAll_cons_mk (shut_bool Try.underlying4 _) trodAll_mk0), (trodAll_cons_mk (shut_int Try.underlying3 w0) (trodAll_cons_mk (shut_int Try.underlying3 w1) (trodAll_cons_mk (shut_bool Try.underlying4 _) trodAll_mk0))), rfl,
    (hg.below (Nat.le_refl _) (by simp)).frame _, fun h => by cases h⟩

theorem over : Rows.pmemUnfencedRow.holds Try.pinned (OpenSpec.ofChange Rows.pmemUnfencedSpec) :=
  OpenClaim.holds_of_wide 6 Try.f6 rfl rfl rfl rfl rfl rfl rfl ⟨rfl, rfl, rfl, rfl, rfl⟩ rfl rfl rfl rfl rfl (by kernel_rfl) Try.func6 (by kernel_rfl)
    (of_decide_eq_true (by kernel_rfl)) (by unfold Func.isWrapper; first | (rw [if_pos (by decide +kernel)]; kernel_rfl) | (rw [if_neg (by decide +kernel)]; exact ⟨rfl, rfl⟩))
    (fun os started H enc _ => lifted os started H enc)


end Go.Proofs.Ytghcommbflfbnaa.pmemUnfenced

namespace Go.Proofs.Ytghcommbflfbnaa
theorem pmemUnfenced_holds : Rows.PmemUnfencedSaid := pmemUnfenced.over
#print axioms pmemUnfenced_holds
end Go.Proofs.Ytghcommbflfbnaa
