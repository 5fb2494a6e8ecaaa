/-
  concourselaw18.SumSteps returns true for every text and numbers: a byte more is one step of the rule, and the digits tell the number. No condition.
-/
import Derived.Test.YtinhmmghpmcblaaRows
import Derived.Test.YtinhmmghpmcblaaSc
import Derived.WalkKit
import Derived.ProofKit
import Derived.OpenShut
import Derived.ShutString
import Derived.ChangeOld
import Derived.Below
import Derived.Deep.Slices
import Derived.SizedLaws
namespace Go.Proofs.Ytinhmmghpmcblaa.sumSteps
open Go.ChangeShapes Go.WideShapes Go.ChangeAt Go.RowKit
open Go.ChangeMaps (open_string shut_string)
set_option linter.unusedVariables false

theorem own : ownKnob Try.prog.godebug = none := by kernel_rfl
theorem laidOut : laidOutB Try.prog = true := by kernel_rfl

set_option maxRecDepth 100000 in
set_option maxHeartbeats 2000000 in
theorem main (s : ByteArray) (x y : Int) (w : World) (hs : s.size ≤ 140737488351232) :
    Calls Try.prog 5 #[.string s, .int .i64 x, .int .i64 y] w fun e w' => e = .returned (.bool true) ∧ Kept [] w w' := by
  obtain ⟨b, hb, hb2⟩ : ∃ n : Nat, IntKind.u8.wrap x = (n : Int) ∧ n < 256 := ⟨(x % 256).toNat, by rw [IntKind.wrap_u8]; omega, by omega⟩
  obtain ⟨n, hn, hn2⟩ : ∃ n : Nat, IntKind.u64.wrap y = (n : Int) ∧ n < 18446744073709551616 := ⟨(y % 18446744073709551616).toNat, by rw [IntKind.wrap_u64]; omega, by omega⟩
  have hwb : IntKind.u64.wrap (b : Int) = (b : Int) := by rw [IntKind.wrap_u64]; omega
  have hst := stp_int (sumS s) b hb2
  go_enter Try.func5, Try.ntmps5
  go_wp2_with fail
  refine (awake_any w).mono ?_
  rintro e w1 ⟨rfl, hk⟩
  have H1 : Hid (Kept [] w w1) := hk
  clear hk
  go_wp2_with fail
  refine (p_of s w1 (by omega)).mono ?_
  rintro e w2 ⟨rfl, hw⟩
  have hw2 := hw.symm; subst hw2; clear hw
  go_wp2_with fail
  refine (p_hex n hn2 w1).mono ?_
  rintro e w2 ⟨rfl, hk⟩
  have H2 : Hid (Kept [] w w2) := H1.out.trans hk (by simp)
  clear hk H1
  obtain ⟨t, ht⟩ : ∃ t, t = hexT n := ⟨_, rfl⟩
  have hts : t.size = 16 := by rw [ht]; exact hexT_size n
  have HT : Hid (t = hexT n) := ht
  rw [← ht]
  clear ht
  go_wp2_with fail
  go_loopw [10, 11] (fun y1 i wr => ∃ (z : Nat) (j : Nat), y1 = .int .u64 (z : Int) ∧ i = .int .i64 (j : Int) ∧ j ≤ 16 ∧ Hid (wr = w2 ∧ z = n / 16 ^ (16 - j))) (fun _ i _ => (16 - intOf i).toNat)
  case atStart => exact ⟨0, 0, rfl, rfl, by omega, rfl, by rw [Nat.div_eq_of_lt]; exact hn2⟩
  case round =>
    obtain ⟨z, j, rfl, rfl, hj, HJ⟩ := hrel
    obtain ⟨hw, hz⟩ := HJ.out
    subst hw
    have HZ : Hid (_ = _) := hz
    clear hz HJ
    by_cases hlt : j < 16
    · have i1 : (j : Int) < (t.size : Int) := by omega
      have hjt : j < t.size := by omega
      have hat := hexT_at n j hlt t HT.out hjt
      have hd : n / 16 ^ (15 - j) % 16 < 16 := Nat.mod_lt _ (by omega)
      have HN : Hid (16 * z + n / 16 ^ (15 - j) % 16 = n / 16 ^ (15 - j)) := by
        have h1 : n / 16 ^ (16 - j) = n / 16 ^ (15 - j) / 16 := by
          rw [Nat.div_div_eq_div_mul, ← Nat.pow_succ, show (15 - j).succ = 16 - j from by omega]
        have h2 := HZ.out
        rw [h1] at h2
        show _ = _
        omega
      have hlim : n / 16 ^ (15 - j) < 18446744073709551616 := Nat.lt_of_le_of_lt (Nat.div_le_self _ _) hn2
      have HQ : Hid (n / 16 ^ (15 - j) = n / 16 ^ (16 - (j + 1))) := by
        rw [show 16 - (j + 1) = 15 - j from by omega]; exact rfl
      generalize n / 16 ^ (15 - j) = q at *
      generalize hq : q % 16 = d at *
      have HV : ∀ v : Int, v = (d : Int) → IntKind.u64.wrap (IntKind.u64.wrap (16 * (z : Int)) + v) = (q : Int) := by
        intro v hv
        have h1 := HN.out
        rw [hv, IntKind.wrap_u64, IntKind.wrap_u64]
        omega
      by_cases hlow : d < 10
      · have e1 := dg_low hlow
        go_wp2_with fail
        go_roundw
        case rel => exact ⟨q, j + 1, by first | rfl | rw [HV _ (by omega)], by go_num, by omega, trivial, HQ.out⟩
        case measure => simp [intOf]; omega
      · have e1 := dg_high (by omega) hd
        go_wp2_with fail
        go_roundw
        case rel => exact ⟨q, j + 1, by first | rfl | rw [HV _ (by omega)], by go_num, by omega, trivial, HQ.out⟩
        case measure => simp [intOf]; omega
    · have i1 : ¬ (j : Int) < (t.size : Int) := by omega
      have hz : z = n := by
        have h1 := HZ.out
        rw [show 16 - j = 0 from by omega, Nat.pow_zero, Nat.div_one] at h1
        exact h1
      subst hz
      have hcv := conv_one wr b hb2
      have HP : Hid (_ = _) := sumS_push s (UInt8.ofNat b)
      have hbb : (UInt8.ofNat b).toNat = b := UInt8.toNat_ofNat_of_lt' (by show b < 256; omega)
      have hsz : (s ++ ⟨#[UInt8.ofNat b]⟩ : ByteArray).size ≤ 140737488351233 := by rw [ByteArray.size_append]; show _ + 1 ≤ _; omega
      rw [hbb] at HP
      clear HZ HT hlt
      go_wp2_with fail
      refine (p_of _ _ (by omega)).mono ?_
      rintro e w3 ⟨rfl, hw⟩
      subst hw
      rw [HP.out]
      go_wp2_with fail
      refine (num 0 _).mono ?_
      rintro e w3 ⟨rfl, hw⟩
      subst hw
      go_wp2_with fail
      go_ret
      exact ⟨rfl, H2.out.alloc _⟩

theorem walk (s : ByteArray) (x y : Int) (w : World) (hs : s.size ≤ 140737488351232) (_ : (Lit.int .i64 x).wf = true) (_ : (Lit.int .i64 y).wf = true) :
    Calls Try.prog 5 #[.string s, .int .i64 x, .int .i64 y] w fun e w' => e = .returned (.bool true) ∧ Below w.heap.size w w' :=
  (main s x y w hs).mono fun e w' ⟨he, hk⟩ => ⟨he, hk.below (Nat.le_refl _) (by simp)⟩

set_option maxRecDepth 100000 in
theorem lifted (os : Os) (started : os.Started) (H : Type) (enc : TypeId × Value → H) :
    ReturnsInHanded {} Try.checked os 5 .any (Rows.sumStepsSpec.pre6 enc Try.prog Try.f5 Rows.sumStepsRow.domain false) (Rows.sumStepsSpec.post enc Try.prog Try.f5 false true false false) := by
  refine returnsInHanded_of_change_sized (C := Try.checked) own started (by kernel_rfl) Try.func5
    (ChangeSpec.witness6 (enc := enc) (C := Try.checked) false ⟨#[], #[.string ⟨#[]⟩, .int .i64 0, .int .i64 0], []⟩ 8 (by kernel_rfl) (by kernel_rfl) (by kernel_rfl) (by kernel_rfl)) ?_
  intro W base args ds gs before hval0 hW hcnd hsz0 _
  have hval : ∀ (j : Nat) t v, Try.f5.params[j]? = some t → args[j]? = some v → Value.okWide Try.prog W .any base t v := hval0
  have hW' := hW
  obtain ⟨p, q, hA0, hV, rfl, hfz, hnd⟩ := hW
  have hA : DataW.TrodAll enc Try.prog W 0 (fun _ => true) true Try.f5.params.toList args.toList ds p := hA0
  have hsz : (DataW.weightsEach Try.prog (Try.f5.params.toList ++ Rows.sumStepsSpec.plain.varTypes Try.prog) (ds ++ gs)).all (· ≤ reachBytes) = true := hsz0
  rw [Try.params5] at hA hval hsz
  obtain ⟨v0, vs0, d0, ds0, p0, q0, hargs, rfl, rfl, h0, r0⟩ := trodAll_cons hA
  obtain ⟨v1, vs1, d1, ds1, p1, q1, rfl, rfl, rfl, h1, r1⟩ := trodAll_cons r0
  obtain ⟨v2, vs2, d2, ds2, p2, q2, rfl, rfl, rfl, h2, r2⟩ := trodAll_cons r1
  obtain ⟨rfl, rfl, rfl⟩ := trodAll_nil r2
  obtain rfl : args = #[v0, v1, v2] := by cases args; simp_all
  obtain ⟨rfl, rfl⟩ := trodVars_none hV
  obtain ⟨a0, rfl, rfl, rfl, m0⟩ := open_string Try.underlying9 (hval 0 9 v0 rfl rfl) h0
  have w0 : a0.size ≤ 140737488351232 := by have := sized_string hsz (j := 0) rfl rfl; simpa [reachBytes] using this
  obtain ⟨a1, rfl, rfl, rfl, w1⟩ := open_int Try.underlying3 (hval 1 3 v1 rfl rfl) h1
  obtain ⟨a2, rfl, rfl, rfl, w2⟩ := open_int Try.underlying3 (hval 2 3 v2 rfl rfl) h2
  clear hA0 hval0
  refine (walk a0 a1 a2 W w0 w1 w2).mono fun e W' ⟨he, bel⟩ => ?_
  subst he
  simp only [List.append_nil] at hW'
  exact ⟨_, rfl, _, _, _, [], [], [], hW', (trodAll_cons_mk (shut_bool Try.underlying4 _) trodAll_mk0), (trodAll_cons_mk (shut_string Try.underlying9 m0) (trodAll_cons_mk (shut_int Try.underlying3 w1) (trodAll_cons_mk (shut_int Try.underlying3 w2) trodAll_mk0))), rfl, bel.frame _, fun h => by cases h⟩

theorem over : Rows.sumStepsRow.holds Try.pinned (OpenSpec.ofChange Rows.sumStepsSpec) :=
  OpenClaim.holds_of_wide 5 Try.f5 rfl rfl rfl rfl rfl rfl rfl ⟨rfl, rfl, rfl, rfl, rfl⟩ rfl rfl rfl rfl rfl (by kernel_rfl) Try.func5 (by kernel_rfl)
    (of_decide_eq_true (by kernel_rfl)) (by unfold Func.isWrapper; first | (rw [if_pos (by decide +kernel)]; kernel_rfl) | (rw [if_neg (by decide +kernel)]; exact ⟨rfl, rfl⟩))
    (fun os started H enc _ => lifted os started H enc)

end Go.Proofs.Ytinhmmghpmcblaa.sumSteps

namespace Go.Proofs.Ytinhmmghpmcblaa
theorem sumSteps_holds : Rows.SumStepsSaid := sumSteps.over
#print axioms sumSteps_holds
end Go.Proofs.Ytinhmmghpmcblaa
