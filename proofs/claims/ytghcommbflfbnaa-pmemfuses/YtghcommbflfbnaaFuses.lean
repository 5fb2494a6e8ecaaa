/-
  Proved: for every steps and many, the law PmemFuses returns true. No condition.
-/
import Derived.Test.YtghcommbflfbnaaRows
import Derived.Test.YtghcommbflfbnaaFuse2
import Derived.Test.YtghcommbflfbnaaAwake
import Derived.WalkKit
import Derived.ProofKit
import Derived.OpenShut
namespace Go.Proofs.Ytghcommbflfbnaa.pmemFuses
open Go.ChangeShapes Go.WideShapes Go.ChangeAt Go.RowKit
set_option linter.unusedVariables false

theorem own : ownKnob Try.prog.godebug = none := by kernel_rfl

theorem c_bounds (a0 : Int) : 0 ≤ wrap64 ((IntKind.u64.wrap a0).tmod 64) ∧ wrap64 ((IntKind.u64.wrap a0).tmod 64) < 64 := by
  have h0 : 0 ≤ IntKind.u64.wrap a0 := by rw [IntKind.wrap_u64]; omega
  generalize IntKind.u64.wrap a0 = x at *
  rw [Int.tmod_eq_emod_of_nonneg h0]
  have : wrap64 (x % 64) = x % 64 := by unfold wrap64; omega
  rw [this]
  omega

set_option maxHeartbeats 4000000 in
theorem walk (a0 : Int) (a1 : Int) (w0 : (Lit.int .i64 a0).wf = true) (w1 : (Lit.int .i64 a1).wf = true) (w : World) :
    Calls Try.prog 5 #[.int .i64 a0, .int .i64 a1] w fun e w' => e = .returned (.bool true) ∧ Kept [] w w' := by
  clear w0 w1
  have HC : Hid (_ ∧ _) := c_bounds a0
  have HB : Hid (_ = _) := i64_and15 a1
  go_enter Try.func5, Try.ntmps5
  go_wp2_with fail
  refine (awake_any w).mono ?_
  rintro e w1 ⟨rfl, hK⟩
  have HK : Hid (_) := hK
  clear hK
  go_wp2_with fail
  refine (u_new w1 128 (by omega) (by omega) (by omega)).mono ?_
  rintro e w2 ⟨b, rfl, hm2⟩
  go_wp2_with fail
  rw [HB.out]
  have hc0 := HC.out.1
  have hc1 := HC.out.2
  clear HC HB
  generalize wrap64 ((IntKind.u64.wrap a0).tmod 64) = c at *
  have hk0 : 0 ≤ a1 % 16 := by omega
  have hk1 : a1 % 16 < 16 := by omega
  generalize a1 % 16 = k at *
  refine (u_fuse hm2 c hc0 (by omega)).mono ?_
  rintro e w3 ⟨rfl, hm3⟩
  clear hm2
  have hI : FInv c 0 ((fresh (128 : Int).toNat).setFuse c) := FInv.start c
  have HI : Hid (∃ M, Has w1 w3 b M ∧ FInv c 0 M) := ⟨_, hm3, hI⟩
  clear hm3 hI
  go_wp2_with fail
  go_loopw [10] (fun i wr => ∃ n : Nat, (n : Int) ≤ k ∧ i = .int .i64 (n : Int) ∧ Hid (∃ M, Has w1 wr b M ∧ FInv c n M)) (fun i _ => (k - intOf i).toNat)
  case atStart => exact ⟨0, hk0, rfl, HI⟩
  case round =>
    obtain ⟨n, hn, rfl, HR⟩ := hrel
    obtain ⟨M, hm, hI⟩ := HR.out
    have HJ : Hid (_) := hI
    clear hI HI HR
    by_cases hlt : (n : Int) < k
    · go_wp2_with fail
      refine (u_store hm (8 * n) ((n : Int) + 1) (by omega) (by rw [HJ.out.len]; omega) (by rw [HJ.out.steps]; omega) (by rw [HJ.out.steps]; omega) (by rw [HJ.out.stores]; omega) (by rw [HJ.out.stores]; omega)).mono ?_
      rintro e w4 ⟨rfl, hm4⟩
      clear hm
      go_wp2_with fail
      refine (u_flush hm4 n (by omega) (by rw [store_seen, List.length_set, HJ.out.len]; omega) (by rw [store_steps, HJ.out.steps]; omega) (by rw [store_steps, HJ.out.steps]; omega)).mono ?_
      rintro e w5 ⟨rfl, hm5⟩
      clear hm4
      go_wp2_with fail
      refine (u_fence hm5 (by rw [flush_steps, store_steps, HJ.out.steps]; omega) (by rw [flush_steps, store_steps, HJ.out.steps]; omega)).mono ?_
      rintro e w6 ⟨rfl, hm6⟩
      clear hm5
      rw [show (8 * (n : Int)).toNat = 8 * n from by omega, show (n : Int).toNat = n from by omega] at hm6
      have HN : Hid (_ ∧ _) := ⟨hm6, HJ.out.next (by omega)⟩
      clear hm6 HJ
      go_wp2
      go_roundw
      case rel => exact ⟨n + 1, by omega, by go_num, ⟨_, HN.out⟩⟩
      case measure => simp [intOf]; omega
    · have hnk : (n : Int) = k := by omega
      have HNK : Hid (_ = _) := hnk
      clear hnk
      go_wp2_with fail
      refine (u_crash hm 0 (by decide)).mono ?_
      rintro e w4 ⟨rfl, hm4⟩
      clear hm
      have hcn := crash_none M 0 (by decide)
      have hst : (M.crash 0).steps = 3 * (n : Int) := HJ.out.steps
      have hlen : (M.crash 0).seen.length = 128 := by rw [hcn]; exact HJ.out.llen
      have hwd : ∀ j : Nat, j < 16 → wordAt (M.crash 0).seen (8 * j) = if j < n ∧ 3 * (j : Int) + 2 < c then (j : Int) + 1 else 0 := by rw [hcn]; exact HJ.out.words
      generalize M.crash 0 = N at *
      have HW : Hid (_ ∧ _ ∧ _) := ⟨hst, hlen, hwd⟩
      clear hcn hst hlen hwd HJ
      go_wp2_with fail
      go_loopw [11] (fun i wr => ∃ j : Nat, j ≤ 16 ∧ i = .int .i64 (j : Int) ∧ wr = w4) (fun i _ => (16 - intOf i).toNat)
      case atStart => exact ⟨0, by omega, rfl, rfl⟩
      case round =>
        obtain ⟨j, hj, rfl, rfl⟩ := hrel
        by_cases hlt2 : j < 16
        · by_cases hin : (j : Int) < k
          · by_cases hc3 : 3 * (j : Int) + 2 < c
            · go_wp2_with fail
              refine (u_load hm4 (8 * j) (by omega) (by rw [HW.out.2.1]; omega)).mono ?_
              rintro e w' ⟨rfl, rfl⟩
              have hv : wordAt N.seen (8 * (j : Int)).toNat = (j : Int) + 1 := by
                have := HNK.out
                rw [show (8 * (j : Int)).toNat = 8 * j from by omega, HW.out.2.2 j hlt2, if_pos ⟨by omega, hc3⟩]
              rw [hv]
              clear hv
              go_wp2
              go_roundw
              case rel => exact ⟨j + 1, by omega, by go_num, trivial⟩
              case measure => simp [intOf]; omega
            · go_wp2_with fail
              refine (u_load hm4 (8 * j) (by omega) (by rw [HW.out.2.1]; omega)).mono ?_
              rintro e w' ⟨rfl, rfl⟩
              have hv : wordAt N.seen (8 * (j : Int)).toNat = 0 := by
                rw [show (8 * (j : Int)).toNat = 8 * j from by omega, HW.out.2.2 j hlt2, if_neg (by omega)]
              rw [hv]
              clear hv
              go_wp2
              go_roundw
              case rel => exact ⟨j + 1, by omega, by go_num, trivial⟩
              case measure => simp [intOf]; omega
          · go_wp2_with fail
            refine (u_load hm4 (8 * j) (by omega) (by rw [HW.out.2.1]; omega)).mono ?_
            rintro e w' ⟨rfl, rfl⟩
            have hv : wordAt N.seen (8 * (j : Int)).toNat = 0 := by
              have := HNK.out
              rw [show (8 * (j : Int)).toNat = 8 * j from by omega, HW.out.2.2 j hlt2, if_neg (by omega)]
            rw [hv]
            clear hv
            go_wp2
            go_roundw
            case rel => exact ⟨j + 1, by omega, by go_num, trivial⟩
            case measure => simp [intOf]; omega
        · go_wp2_with fail
          refine (u_fuse_no hm4 (-1) (by decide)).mono ?_
          rintro e w5 ⟨rfl, hm5⟩
          clear hm4
          have hKK := HK.out.trans hm5.1 (by simp)
          have hst2 : (3 * (n : Int) == 3 * k) = true := by have := HNK.out; simp; omega
          go_wp2_with (first
            | (go_at_call 11; refine (u_num _ _).mono ?_; rintro e w' ⟨rfl, rfl⟩)
            | (go_at_call 16; refine (u_steps hm5).mono ?_; rintro e w' ⟨rfl, rfl⟩; rw [HW.out.1]))
          go_ret
          exact ⟨rfl, hKK⟩

set_option maxRecDepth 100000 in
theorem lifted (os : Os) (started : os.Started) (H : Type) (enc : TypeId × Value → H) :
    ReturnsInHanded {} Try.checked os 5 .any (Rows.pmemFusesSpec.pre6 enc Try.prog Try.f5 Rows.pmemFusesRow.domain false) (Rows.pmemFusesSpec.post enc Try.prog Try.f5 false true false false) := by
  refine returnsInHanded_of_change (C := Try.checked) own started (by kernel_rfl) Try.func5
    (ChangeSpec.witness6 (enc := enc) (C := Try.checked) false ⟨#[], #[.int .i64 0, .int .i64 0], []⟩ 8 (by kernel_rfl) (by kernel_rfl) (by kernel_rfl) (by kernel_rfl)) ?_
  intro W base args ds gs before hval0 hW hcnd _
  have hval : ∀ (j : Nat) t v, Try.f5.params[j]? = some t → args[j]? = some v → Value.okWide Try.prog W .any base t v := hval0
  have hW' := hW
  obtain ⟨p, q, hA0, hV, rfl, hfz, hnd⟩ := hW
  have hA : DataW.TrodAll enc Try.prog W 0 (fun _ => true) true Try.f5.params.toList args.toList ds p := hA0
  rw [Try.params5] at hA hval
  obtain ⟨v0, vs0, d0, ds0, p0, q0, hargs, rfl, rfl, h0, r0⟩ := trodAll_cons hA
  obtain ⟨v1, vs1, d1, ds1, p1, q1, rfl, rfl, rfl, h1, r1⟩ := trodAll_cons r0
  obtain ⟨rfl, rfl, rfl⟩ := trodAll_nil r1
  obtain rfl : args = #[v0, v1] := by cases args; simp_all
  obtain ⟨rfl, rfl⟩ := trodVars_none hV
  obtain ⟨a0, rfl, rfl, rfl, w0⟩ := open_int Try.underlying3 (hval 0 3 v0 rfl rfl) h0
  obtain ⟨a1, rfl, rfl, rfl, w1⟩ := open_int Try.underlying3 (hval 1 3 v1 rfl rfl) h1
  clear hA0 hval0
  simp only [List.append_nil] at hW'
  refine (walk a0 a1 w0 w1 W).mono fun e W' ⟨he, hg⟩ => ?_
  subst he
  exact ⟨_, rfl, _, _, _, [], [], [], hW', (trodAll_cons_mk (shut_bool Try.underlying4 _) trodAll_mk0), (trodAll_cons_mk (shut_int Try.underlying3 w0) (trodAll_cons_mk (shut_int Try.underlying3 w1) trodAll_mk0)), rfl,
    (hg.below (Nat.le_refl _) (by simp)).frame _, fun h => by cases h⟩

theorem over : Rows.pmemFusesRow.holds Try.pinned (OpenSpec.ofChange Rows.pmemFusesSpec) :=
  OpenClaim.holds_of_wide 5 Try.f5 rfl rfl rfl rfl rfl rfl rfl ⟨rfl, rfl, rfl, rfl, rfl⟩ rfl rfl rfl rfl rfl (by kernel_rfl) Try.func5 (by kernel_rfl)
    (of_decide_eq_true (by kernel_rfl)) (by unfold Func.isWrapper; first | (rw [if_pos (by decide +kernel)]; kernel_rfl) | (rw [if_neg (by decide +kernel)]; exact ⟨rfl, rfl⟩))
    (fun os started H enc _ => lifted os started H enc)


end Go.Proofs.Ytghcommbflfbnaa.pmemFuses

namespace Go.Proofs.Ytghcommbflfbnaa
theorem pmemFuses_holds : Rows.PmemFusesSaid := pmemFuses.over
#print axioms pmemFuses_holds
end Go.Proofs.Ytghcommbflfbnaa
