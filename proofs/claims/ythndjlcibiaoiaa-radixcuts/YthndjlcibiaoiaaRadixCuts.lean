/-
  What stands ahead of a cut stays, what stands behind it is gone.
-/
import Derived.Test.YthndjlcibiaoiaaRows
import Derived.Test.YthndjlcibiaoiaaAw
import Derived.WalkKit
import Derived.ProofKit
import Derived.OpenShut
import Derived.ShutString
import Derived.ChangeOld
import Derived.Below
import Derived.Deep.Slices
namespace Go.Proofs.Ythndjlcibiaoiaa.radixCuts
open Go.ChangeShapes Go.WideShapes Go.ChangeAt Go.RowKit
open Go.ChangeMaps (open_string shut_string)
set_option linter.unusedVariables false

theorem own : ownKnob Try.prog.godebug = none := by kernel_rfl
theorem laidOut : laidOutB Try.prog = true := by kernel_rfl

/-- The first j pages have m and their own number. -/
def sv (m : Nat) (j : Nat) : Nat → Int := fun i => if i < j then (m : Int) + (i : Int) else 0

theorem sv_zero (m : Nat) : sv m 0 = fun _ => 0 := by funext i; unfold sv; rw [if_neg (by omega)]
theorem sv_next (m j : Nat) : upd (sv m j) j ((m : Int) + (j : Int)) = sv m (j + 1) := by
  funext i
  unfold upd sv
  by_cases e : i = j
  · rw [if_pos e, if_pos (by omega), e]
  · rw [if_neg e]
    by_cases e2 : i < j
    · rw [if_pos e2, if_pos (by omega)]
    · rw [if_neg e2, if_neg (by omega)]

/-- What is left. -/
theorem left_yes {m k p : Nat} (h : p < k) (hp : p < 16) : cutV (sv m 16) k 16 p = (m : Int) + (p : Int) := by
  unfold cutV sv; rw [if_neg (by omega), if_pos hp]
theorem left_no {m k p : Nat} (h : k ≤ p) (hp : p < 16) : cutV (sv m 16) k 16 p = 0 := by
  unfold cutV; rw [if_pos (by omega)]

theorem left_len {m k : Nat} (hm : 1 ≤ m) (j : Nat) (hj : j ≤ 16) : (pg (cutV (sv m 16) k 16) j).length = min j k := by
  induction j with
  | zero => rw [pg_zero]; simp
  | succ j ih =>
    have ih := ih (by omega)
    by_cases h : j < k
    · rw [pg_yes (by rw [left_yes h (by omega)]; omega), List.length_append, ih]; simp only [List.length_cons, List.length_nil]; omega
    · rw [pg_no (left_no (by omega) (by omega)), ih]; omega

set_option maxRecDepth 100000 in
set_option maxHeartbeats 4000000 in
theorem main (x y : Int) (k m : Nat) (w : World) (hk : k ≤ 16) (hm : 1 ≤ m) (hm2 : m ≤ 1024) (hx : wrap64 ((IntKind.u64.wrap x).tmod 17) = (k : Int)) (hy : wrap64 (1 + bits .and .i64 y 1023) = (m : Int)) :
    Calls Try.prog 5 #[.int .i64 x, .int .i64 y] w fun e w' => e = .returned (.bool true) ∧ Kept [] w w' := by
  have HX : Hid (_ ∧ _) := ⟨hx, hy⟩
  clear hx hy
  go_enter Try.func5, Try.ntmps5
  go_wp2_with fail
  refine (awake_any w).mono ?_
  rintro e w1 ⟨rfl, hK1⟩
  have HK : Hid (_) := hK1
  clear hK1
  go_wp2_with fail
  refine (h_new w1 200 1 (by omega) (by omega) (by omega) (by omega)).mono ?_
  rintro e w2 ⟨b, rfl, hm⟩
  have H1 : Hid (_) := hm
  clear hm
  go_wp2_with fail
  refine (f_new (I := AnyT) (k := 1) (L := 200) H1.out 0 200 _ _ rfl rfl (by omega) (by omega) (fun _ _ _ _ => trivial) trivial).mono ?_
  rintro e w3 ⟨g, rfl, h3⟩
  rw [← sv_zero m] at h3
  have H3 : Hid (_) := h3
  clear h3 H1
  go_wp2_with fail
  rw [HX.out.1, HX.out.2]
  go_loopw [11] (fun i wr => ∃ j : Nat, i = .int .i64 (j : Int) ∧ j ≤ 16 ∧ Hid (Rb AnyT [(g, box b 0)] w1 wr b g 0 1 200 (20 + 2 * j) (wd (sv m j)))) (fun i _ => (16 - intOf i).toNat)
  case atStart => exact ⟨0, rfl, by omega, H3.out⟩
  case round =>
    clear H3
    obtain ⟨j, rfl, hj, HJ⟩ := hrel
    by_cases hlt : j < 16
    · have i0 : (j : Int) < 16 := by omega
      go_wp2_with fail
      refine (r_set (I1 := AnyT) (I2 := AnyT) HJ.out 0 j ((m : Int) + (j : Int)) (by omega) hlt (by omega) (fun _ _ => trivial) (fun _ _ => trivial) (by omega)).mono ?_
      rintro e w4 ⟨rfl, h4⟩
      rw [sv_next] at h4
      have H4 : Hid (_) := h4
      clear h4 HJ
      go_wp2_with fail
      go_roundw
      case rel => exact ⟨j + 1, by go_num, by omega, H4.out⟩
      case measure => simp [intOf]; omega
    · have e : j = 16 := by omega
      have i0 : ¬ (j : Int) < 16 := by omega
      have H4 : Hid (Rb AnyT [(g, box b 0)] w1 wr b g 0 1 200 (20 + 2 * 16) (wd (sv m 16))) := by have := HJ.out; rw [e] at this; exact this
      clear e HJ
      go_wp2_with fail
      refine (r_cut H4.out 0 k (by omega) hk (anyR _ _) (anyW _ _) (by omega)).mono ?_
      rintro e w5 ⟨rfl, h5⟩
      have H5 : Hid (_) := h5
      clear h5 H4
      go_wp2_with fail
      go_loopw [13] (fun i wr => ∃ p : Nat, i = .int .i64 (p : Int) ∧ p ≤ 16 ∧ Hid (Rb AnyT [(g, box b 0)] w1 wr b g 0 1 200 (100 + 2 * p) (wd (cutV (sv m 16) k 16)))) (fun i _ => (16 - intOf i).toNat)
      case atStart => exact ⟨0, rfl, by omega, H5.out⟩
      case round =>
        clear H5
        obtain ⟨p, rfl, hp, HJ⟩ := hrel
        by_cases hlp : p < 16
        · have j0 : (p : Int) < 16 := by omega
          go_wp2_with fail
          refine (r_get (I1 := AnyT) (I2 := AnyT) HJ.out 0 p (by omega) hlp (fun _ _ => trivial) (fun _ _ => trivial) (by omega)).mono ?_
          rintro e w6 ⟨rfl, h6⟩
          have H6 : Hid (_) := h6
          clear h6 HJ
          by_cases hpk : p < k
          · rw [left_yes hpk hlp]
            have j1 : (p : Int) < (k : Int) := by omega
            go_wp2_with (first
              | (go_at_call 9; refine (num _ _).mono ?_; rintro e w' ⟨rfl, rfl⟩))
            go_roundw
            case rel => exact ⟨p + 1, by go_num, by omega, H6.out⟩
            case measure => simp [intOf]; omega
          · rw [left_no (by omega) hlp]
            have j1 : ¬ (p : Int) < (k : Int) := by omega
            have j2 : (k : Int) ≤ (p : Int) := by omega
            go_wp2_with (first
              | (go_at_call 9; refine (num _ _).mono ?_; rintro e w' ⟨rfl, rfl⟩))
            go_roundw
            case rel => exact ⟨p + 1, by go_num, by omega, H6.out⟩
            case measure => simp [intOf]; omega
        · have j0 : ¬ (p : Int) < 16 := by omega
          go_wp2_with (first
            | (go_at_call 9; refine (num _ _).mono ?_; rintro e w' ⟨rfl, rfl⟩))
          refine (r_pages HJ.out 0 (by omega) (anyR _ _) (by omega)).mono ?_
          rintro e w8 ⟨u, D, rfl, hu, h8, -⟩
          obtain ⟨ua, uc, rfl⟩ := hu.len
          rw [left_len hm 16 (by omega), Nat.min_eq_right hk]
          have H8 : Hid (_) := HK.out.trans h8.old (by simp)
          clear h8 hu HJ
          go_wp2_with fail
          go_ret
          exact ⟨rfl, H8.out⟩

theorem and1023 (n : Int) : bits .and .i64 n 1023 = n % 1024 := by
  have h1 : (BitVec.ofInt 64 1023).toNat = 2 ^ 10 - 1 := by decide
  have key : (BitVec.ofInt 64 n &&& BitVec.ofInt 64 1023).toNat = (n % ((2 ^ 64 : Nat) : Int)).toNat % 2 ^ 10 := by
    rw [BitVec.toNat_and, BitVec.toNat_ofInt, h1, Nat.and_two_pow_sub_one_eq_mod]
  show IntKind.i64.wrap ((BitVec.ofInt 64 n &&& BitVec.ofInt 64 1023).toNat : Nat) = n % 1024
  rw [key, IntKind.wrap_i64]
  omega

theorem walk (x y : Int) (w : World) (_ : (Lit.int .i64 x).wf = true) (_ : (Lit.int .i64 y).wf = true) :
    Calls Try.prog 5 #[.int .i64 x, .int .i64 y] w fun e w' => e = .returned (.bool true) ∧ Below w.heap.size w w' := by
  have hu : 0 ≤ IntKind.u64.wrap x := by rw [IntKind.wrap_u64]; omega
  obtain ⟨k, hk, hx⟩ : ∃ k : Nat, k ≤ 16 ∧ wrap64 ((IntKind.u64.wrap x).tmod 17) = (k : Int) := by
    refine ⟨((IntKind.u64.wrap x) % 17).toNat, by omega, ?_⟩
    rw [Int.tmod_eq_emod_of_nonneg hu, wrap_small _ (by omega) (by omega)]
    omega
  obtain ⟨m, hm, hm2, hy⟩ : ∃ m : Nat, 1 ≤ m ∧ m ≤ 1024 ∧ wrap64 (1 + bits .and .i64 y 1023) = (m : Int) := by
    refine ⟨(1 + y % 1024).toNat, by omega, by omega, ?_⟩
    rw [and1023, wrap_small _ (by omega) (by omega)]
    omega
  exact (main x y k m w hk hm hm2 hx hy).mono fun e w' ⟨he, hk⟩ => ⟨he, hk.below (Nat.le_refl _) (by simp)⟩

set_option maxRecDepth 100000 in
theorem lifted (os : Os) (started : os.Started) (H : Type) (enc : TypeId × Value → H) :
    ReturnsInHanded {} Try.checked os 5 .any (Rows.radixCutsSpec.pre6 enc Try.prog Try.f5 Rows.radixCutsRow.domain false) (Rows.radixCutsSpec.post enc Try.prog Try.f5 false true false false) := by
  refine returnsInHanded_of_change (C := Try.checked) own started (by kernel_rfl) Try.func5
    (ChangeSpec.witness6 (enc := enc) (C := Try.checked) false ⟨#[], #[.int .i64 0, .int .i64 0], []⟩ 8 (by kernel_rfl) (by kernel_rfl) (by kernel_rfl) (by kernel_rfl)) ?_
  intro W base args ds gs before hval0 hW hcnd _
  have hval : ∀ (j : Nat) t v, Try.f5.params[j]? = some t → args[j]? = some v → Value.okWide Try.prog W .any base t v := hval0
  have hW' := hW
  obtain ⟨p, q, hA0, hV, rfl, hfz, hnd⟩ := hW
  have hA : DataW.TrodAll enc Try.prog W 0 (fun _ => true) true Try.f5.params.toList args.toList ds p := hA0
  rw [Try.params5] at hA hval
  obtain ⟨v0, vs0, d0, ds0, p0, q0, hargs, rfl, rfl, h0, r0⟩ := trodAll_cons hA
  obtain ⟨v1, vs1, d1, ds1, p1, q1, rfl, rfl, rfl, h1, r1⟩ := trodAll_cons r0
  obtain ⟨rfl, rfl, rfl⟩ := trodAll_nil r1
  obtain rfl : args = #[v0, v1] := by cases args; simp_all
  obtain ⟨rfl, rfl⟩ := trodVars_none hV
  obtain ⟨a0, rfl, rfl, rfl, w0⟩ := open_int Try.underlying3 (hval 0 3 v0 rfl rfl) h0
  obtain ⟨a1, rfl, rfl, rfl, w1⟩ := open_int Try.underlying3 (hval 1 3 v1 rfl rfl) h1
  clear hA0 hval0
  refine (walk a0 a1 W w0 w1).mono fun e W' ⟨he, bel⟩ => ?_
  subst he
  simp only [List.append_nil] at hW'
  exact ⟨_, rfl, _, _, _, [], [], [], hW', (trodAll_cons_mk (shut_bool Try.underlying4 _) trodAll_mk0), (trodAll_cons_mk (shut_int Try.underlying3 w0) (trodAll_cons_mk (shut_int Try.underlying3 w1) trodAll_mk0)), rfl, bel.frame _, fun h => by cases h⟩

theorem over : Rows.radixCutsRow.holds Try.pinned (OpenSpec.ofChange Rows.radixCutsSpec) :=
  OpenClaim.holds_of_wide 5 Try.f5 rfl rfl rfl rfl rfl rfl rfl ⟨rfl, rfl, rfl, rfl, rfl⟩ rfl rfl rfl rfl rfl (by kernel_rfl) Try.func5 (by kernel_rfl)
    (of_decide_eq_true (by kernel_rfl)) (by unfold Func.isWrapper; first | (rw [if_pos (by decide +kernel)]; kernel_rfl) | (rw [if_neg (by decide +kernel)]; exact ⟨rfl, rfl⟩))
    (fun os started H enc _ => lifted os started H enc)

end Go.Proofs.Ythndjlcibiaoiaa.radixCuts

namespace Go.Proofs.Ythndjlcibiaoiaa
theorem radixCuts_holds : Rows.RadixCutsSaid := radixCuts.over
#print axioms radixCuts_holds
end Go.Proofs.Ythndjlcibiaoiaa
