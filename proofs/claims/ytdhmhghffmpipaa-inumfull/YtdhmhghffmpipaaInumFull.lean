/-
  A core is given 32 numbers, rising, all its own, and then no more; another core's first is not less for it.
-/
import Derived.Test.YtdhmhghffmpipaaRows
import Derived.Test.YtdhmhghffmpipaaNx
import Derived.Test.YtdhmhghffmpipaaBits
import Derived.WalkKit
import Derived.ProofKit
import Derived.OpenShut
import Derived.ShutString
import Derived.ChangeOld
import Derived.Below
import Derived.Deep.Slices
import Derived.SizedLaws
namespace Go.Proofs.Ytdhmhghffmpipaa.inumFull
open Go.ChangeShapes Go.WideShapes Go.ChangeAt Go.RowKit
open Go.ChangeMaps (open_string shut_string)
set_option linter.unusedVariables false

theorem own : ownKnob Try.prog.godebug = none := by kernel_rfl
theorem laidOut : laidOutB Try.prog = true := by kernel_rfl

/-- Core c has been given n numbers, the others none. -/
def cn (c n : Nat) : Nat → Int := fun d => if d = c then (n : Int) else 0

theorem cn_next (c n : Nat) : upd (cn c n) c ((n + 1 : Nat) : Int) = cn c (n + 1) := by
  funext d
  unfold upd cn
  by_cases e : d = c
  · rw [if_pos e, if_pos e]
  · rw [if_neg e, if_neg e, if_neg e]

theorem cn_zero (c : Nat) : (fun _ => (0 : Int)) = cn c 0 := by
  funext d
  unfold cn
  split <;> rfl

theorem cn_own (c n : Nat) : cn c n c = (n : Int) := if_pos rfl

/-- The number that core c was given last. -/
def lst (c n : Nat) : Nat := if n = 0 then 0 else 2 + c + 8 * (n - 1)

theorem lst_lt (c n : Nat) : lst c n < 2 + c + 8 * n := by unfold lst; split <;> omega
theorem lst_next (c n : Nat) : lst c (n + 1) = 2 + c + 8 * n := by unfold lst; rw [if_neg (by omega)]; rfl

set_option maxRecDepth 100000 in
set_option maxHeartbeats 8000000 in
theorem main (x y q : Int) (c d : Nat) (w : World) (hc : c < 8) (hd : d < 8) (hcd : d ≠ c) (hx : bits .and .i64 x 7 = (c : Int)) (hq : wrap64 ((IntKind.u64.wrap y).tmod 7) = q) (hy : (wrap64 (wrap64 ((c : Int) + 1) + q)).tmod 8 = (d : Int)) :
    Calls Try.prog 4 #[.int .i64 x, .int .i64 y] w fun e w' => e = .returned (.bool true) ∧ Kept [] w w' := by
  have HX : Hid (_ ∧ _) := ⟨hx, hy⟩
  clear hx hy
  go_enter Try.func4, Try.ntmps4
  go_wp2_with fail
  refine (awake_any w).mono ?_
  rintro e w1 ⟨rfl, hK1⟩
  have HK : Hid (_) := hK1
  clear hK1
  go_wp2_with fail
  refine (h_new w1 8 8 (by omega) (by omega) (by omega) (by omega)).mono ?_
  rintro e w2 ⟨b, rfl, hm⟩
  have H1 : Hid (_) := hm
  clear hm
  go_wp2_with fail
  refine (f_new (I := AnyT) (k := 8) (L := 8) H1.out 0 _ rfl (by omega) (fun _ _ _ => trivial) trivial).mono ?_
  rintro e w3 ⟨g, rfl, h3⟩
  rw [cn_zero c] at h3
  have H3 : Hid (_) := h3
  clear h3 H1
  go_wp2_with fail
  rw [HX.out.1, HX.out.2]
  clear hq
  go_loopw [12, 11] (fun i u wr => ∃ n : Nat, i = .int .i64 (n : Int) ∧ u = .int .i64 ((lst c n : Nat) : Int) ∧ n ≤ 32 ∧ Hid (Nb AnyT [(g, box b 0)] w1 wr b g 0 8 8 (8 + 2 * n) (cn c n))) (fun i _ _ => (32 - intOf i).toNat)
  case atStart => exact ⟨0, rfl, rfl, by omega, H3.out⟩
  case round =>
    clear H3
    obtain ⟨n, rfl, rfl, hn, HJ⟩ := hrel
    by_cases hlt : n < 32
    · have i0 : (n : Int) < 32 := by omega
      have hll := lst_lt c n
      have i1 : ¬ ((2 + c + 8 * n : Nat) : Int) ≤ ((lst c n : Nat) : Int) := by omega
      have d1 : decide (((2 + c + 8 * n : Nat) : Int) ≤ ((lst c n : Nat) : Int)) = false := by simp only [decide_eq_false_iff_not]; omega
      have e1 : (((2 + c + 8 * n : Nat) : Int) - 2) % 8 = (c : Int) := by omega
      have e2 := lst_next c n
      obtain ⟨v, hv⟩ : ∃ v, 2 + c + 8 * n = v := ⟨_, rfl⟩
      rw [hv] at i1 d1 e1 e2
      have HV : Hid (_ ∧ _ ∧ _) := ⟨hv, e1, e2⟩
      have v2 : 2 ≤ v := by omega
      have v3 : v ≤ 1000 := by omega
      generalize lst c n = ll at *
      clear hv e1 e2 hll
      go_wp2_with fail
      refine (n_next (I1 := AnyT) (I2 := AnyT) HJ.out c (by omega) n (cn_own c n) hlt (fun _ _ => trivial) (fun _ _ => trivial) (by omega)).mono ?_
      rintro e w4 ⟨rfl, h4⟩
      rw [cn_next] at h4
      rw [HV.out.1]
      have H4 : Hid (_) := h4
      clear h4 HJ
      go_wp2_with (first
        | (go_at_call 9; refine (num _ _).mono ?_; rintro e w' ⟨rfl, rfl⟩))
      refine (n_core _ _ (by omega) (by omega)).mono ?_
      rintro e w' ⟨rfl, rfl⟩
      rw [HV.out.2.1]
      go_wp2_with fail
      go_roundw
      case rel => exact ⟨n + 1, by go_num, by rw [HV.out.2.2], by omega, H4.out⟩
      case measure => simp [intOf]; omega
    · have e : n = 32 := by omega
      have i0 : ¬ (n : Int) < 32 := by omega
      have H4 : Hid (Nb AnyT [(g, box b 0)] w1 wr b g 0 8 8 100 (cn c 32)) := by have := HJ.out; rw [e] at this; exact this.mono (by omega)
      clear e HJ
      generalize lst c n = ll at *
      go_wp2_with fail
      refine (n_next_full (I' := AnyT) H4.out c (by omega) (by rw [cn_own]; omega) (fun _ _ => trivial) (by omega)).mono ?_
      rintro e w5 ⟨rfl, h5⟩
      have H5 : Hid (_) := h5
      clear h5 H4
      go_wp2_with fail
      refine (n_next (I1 := AnyT) (I2 := AnyT) H5.out d (by omega) 0 (by unfold cn; rw [if_neg hcd]; rfl) (by omega) (fun _ _ => trivial) (fun _ _ => trivial) (by omega)).mono ?_
      rintro e w6 ⟨rfl, h6⟩
      have H6 : Hid (_) := HK.out.trans h6.old (by simp)
      clear h6 H5 HK
      have e1 : (((2 + d + 8 * 0 : Nat) : Int) == 2 + (d : Int)) = true := by simp
      have e2 : ((2 + d + 8 * 0 : Nat) : Int) = 2 + (d : Int) := by omega
      rw [e2]
      clear e1 e2
      go_wp2_with (first
        | (go_at_call 9; refine (num _ _).mono ?_; rintro e w' ⟨rfl, rfl⟩))
      go_ret
      exact ⟨rfl, H6.out⟩

theorem walk (x y : Int) (w : World) (_ : (Lit.int .i64 x).wf = true) (_ : (Lit.int .i64 y).wf = true) :
    Calls Try.prog 4 #[.int .i64 x, .int .i64 y] w fun e w' => e = .returned (.bool true) ∧ Below w.heap.size w w' := by
  have hu : 0 ≤ IntKind.u64.wrap y := by rw [IntKind.wrap_u64]; omega
  have h7 : 0 ≤ wrap64 ((IntKind.u64.wrap y).tmod 7) ∧ wrap64 ((IntKind.u64.wrap y).tmod 7) ≤ 6 := by
    rw [Int.tmod_eq_emod_of_nonneg hu, wrap_small _ (by omega) (by omega)]
    omega
  obtain ⟨q, hq⟩ : ∃ q, wrap64 ((IntKind.u64.wrap y).tmod 7) = q := ⟨_, rfl⟩
  rw [hq] at h7
  have hx := i64_and7 x
  have e1 : wrap64 (((x % 8).toNat : Int) + 1) = ((x % 8).toNat : Int) + 1 := wrap_small _ (by omega) (by omega)
  refine (main x y q (x % 8).toNat (((x % 8).toNat + 1 + q.toNat) % 8) w (by omega) (by omega) (by omega) (by omega) hq ?_).mono fun e w' ⟨he, hk⟩ => ⟨he, hk.below (Nat.le_refl _) (by simp)⟩
  rw [e1, wrap_small _ (by omega) (by omega), Int.tmod_eq_emod_of_nonneg (by omega)]
  omega

set_option maxRecDepth 100000 in
theorem lifted (os : Os) (started : os.Started) (H : Type) (enc : TypeId × Value → H) :
    ReturnsInHanded {} Try.checked os 4 .any (Rows.inumFullSpec.pre6 enc Try.prog Try.f4 Rows.inumFullRow.domain false) (Rows.inumFullSpec.post enc Try.prog Try.f4 false true false false) := by
  refine returnsInHanded_of_change (C := Try.checked) own started (by kernel_rfl) Try.func4
    (ChangeSpec.witness6 (enc := enc) (C := Try.checked) false ⟨#[], #[.int .i64 0, .int .i64 0], []⟩ 8 (by kernel_rfl) (by kernel_rfl) (by kernel_rfl) (by kernel_rfl)) ?_
  intro W base args ds gs before hval0 hW hcnd _
  have hval : ∀ (j : Nat) t v, Try.f4.params[j]? = some t → args[j]? = some v → Value.okWide Try.prog W .any base t v := hval0
  have hW' := hW
  obtain ⟨p, q, hA0, hV, rfl, hfz, hnd⟩ := hW
  have hA : DataW.TrodAll enc Try.prog W 0 (fun _ => true) true Try.f4.params.toList args.toList ds p := hA0
  rw [Try.params4] at hA hval
  obtain ⟨v0, vs0, d0, ds0, p0, q0, hargs, rfl, rfl, h0, r0⟩ := trodAll_cons hA
  obtain ⟨v1, vs1, d1, ds1, p1, q1, rfl, rfl, rfl, h1, r1⟩ := trodAll_cons r0
  obtain ⟨rfl, rfl, rfl⟩ := trodAll_nil r1
  obtain rfl : args = #[v0, v1] := by cases args; simp_all
  obtain ⟨rfl, rfl⟩ := trodVars_none hV
  obtain ⟨a0, rfl, rfl, rfl, w0⟩ := open_int Try.underlying3 (hval 0 3 v0 rfl rfl) h0
  obtain ⟨a1, rfl, rfl, rfl, w1⟩ := open_int Try.underlying3 (hval 1 3 v1 rfl rfl) h1
  clear hA0 hval0
  refine (walk a0 a1 W w0 w1).mono fun e W' ⟨he, bel⟩ => ?_
  subst he
  simp only [List.append_nil] at hW'
  exact ⟨_, rfl, _, _, _, [], [], [], hW', (trodAll_cons_mk (shut_bool Try.underlying4 _) trodAll_mk0), (trodAll_cons_mk (shut_int Try.underlying3 w0) (trodAll_cons_mk (shut_int Try.underlying3 w1) trodAll_mk0)), rfl, bel.frame _, fun h => by cases h⟩

theorem over : Rows.inumFullRow.holds Try.pinned (OpenSpec.ofChange Rows.inumFullSpec) :=
  OpenClaim.holds_of_wide 4 Try.f4 rfl rfl rfl rfl rfl rfl rfl ⟨rfl, rfl, rfl, rfl, rfl⟩ rfl rfl rfl rfl rfl (by kernel_rfl) Try.func4 (by kernel_rfl)
    (of_decide_eq_true (by kernel_rfl)) (by unfold Func.isWrapper; first | (rw [if_pos (by decide +kernel)]; kernel_rfl) | (rw [if_neg (by decide +kernel)]; exact ⟨rfl, rfl⟩))
    (fun os started H enc _ => lifted os started H enc)

end Go.Proofs.Ytdhmhghffmpipaa.inumFull

namespace Go.Proofs.Ytdhmhghffmpipaa
theorem inumFull_holds : Rows.InumFullSaid := inumFull.over
#print axioms inumFull_holds
end Go.Proofs.Ytdhmhghffmpipaa
