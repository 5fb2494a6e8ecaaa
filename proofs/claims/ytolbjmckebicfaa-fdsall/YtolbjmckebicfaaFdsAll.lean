/-
  FdsAll returns true for every pair of ints: a core has MaxFds descriptors, all unlike, and one that was closed is given again.
-/
import Derived.Test.YtolbjmckebicfaaRows
import Derived.Test.YtolbjmckebicfaaFl
import Derived.Test.YtolbjmckebicfaaBits
import Derived.WalkKit
import Derived.ProofKit
import Derived.OpenShut
import Derived.ShutString
import Derived.ChangeOld
import Derived.Below
import Derived.Deep.Slices
import Derived.SizedLaws
namespace Go.Proofs.Ytolbjmckebicfaa.fdsAll
open Go.ChangeShapes Go.WideShapes Go.ChangeAt Go.RowKit
open Go.ChangeMaps (open_string shut_string)
set_option linter.unusedVariables false

theorem own : ownKnob Try.prog.godebug = none := by kernel_rfl
theorem laidOut : laidOutB Try.prog = true := by kernel_rfl

theorem i64_and255 (n : Int) : bits .and .i64 n 255 = n % 256 := by
  have h1 : (BitVec.ofInt 64 255).toNat = 2 ^ 8 - 1 := by decide
  have key : (BitVec.ofInt 64 n &&& BitVec.ofInt 64 255).toNat = (n % ((2 ^ 64 : Nat) : Int)).toNat % 2 ^ 8 := by
    rw [BitVec.toNat_and, BitVec.toNat_ofInt, h1, Nat.and_two_pow_sub_one_eq_mod]
  show IntKind.i64.wrap ((BitVec.ofInt 64 n &&& BitVec.ofInt 64 255).toNat : Nat) = n % 256
  rw [key, IntKind.wrap_i64]
  omega

/-- Core 1 has its first n descriptors, for v and the numbers behind it. -/
def ow (v n : Nat) : Nat → Nat → Int := fun c d => if c = 1 ∧ d < n then ((v + d : Nat) : Int) else 0

theorem ow_next (v n : Nat) : upd (ow v n) 1 n ((v : Int) + (n : Int)) = ow v (n + 1) := by
  funext c d
  unfold upd ow
  by_cases e : c = 1 ∧ d = n
  · rw [if_pos e, if_pos (by omega), e.2]; omega
  · rw [if_neg e]
    by_cases e2 : c = 1 ∧ d < n
    · rw [if_pos e2, if_pos (by omega)]
    · rw [if_neg e2, if_neg (by omega)]

theorem ow_zero (v : Nat) : (fun _ _ => (0 : Int)) = ow v 0 := by
  funext c d
  unfold ow
  rw [if_neg (by omega)]

theorem ow_has (v n d : Nat) (hv : 1 ≤ v) (hd : d < n) : ow v n 1 d ≠ 0 := by
  unfold ow
  rw [if_pos ⟨rfl, hd⟩]
  omega

theorem dl_full {c : Nat} {V : Nat → Int} (n : Nat) (h : ∀ d, d < n → V d ≠ 0) : (dl c V n).length = n := by
  induction n with
  | zero => rfl
  | succ n ih => rw [dl_yes (h n (by omega)), List.length_append, ih fun d hd => h d (by omega)]; rfl

set_option maxRecDepth 100000 in
set_option maxHeartbeats 8000000 in
theorem main (x y : Int) (v k : Nat) (w : World) (hv1 : 1 ≤ v) (hv2 : v ≤ 256) (hk : k < 4) (hx : wrap64 (1 + bits .and .i64 x 255) = (v : Int)) (hy : bits .and .i64 y 3 = (k : Int)) :
    Calls Try.prog 4 #[.int .i64 x, .int .i64 y] w fun e w' => e = .returned (.bool true) ∧ Kept [] w w' := by
  have HX : Hid (_ ∧ _) := ⟨hx, hy⟩
  clear hx hy
  go_enter Try.func4, Try.ntmps4
  go_wp2_with fail
  refine (awake_any w).mono ?_
  rintro e w1 ⟨rfl, hK1⟩
  have HK : Hid (_) := hK1
  clear hK1
  go_wp2_with fail
  refine (h_new w1 8 2 (by omega) (by omega) (by omega) (by omega)).mono ?_
  rintro e w2 ⟨b, rfl, hm⟩
  have H1 : Hid (_) := hm
  clear hm
  go_wp2_with fail
  refine (f_new (I := AnyT) (k := 2) (L := 8) H1.out 0 _ rfl (by omega) (fun _ _ _ _ _ _ _ => trivial) trivial).mono ?_
  rintro e w3 ⟨g, rfl, h3⟩
  rw [ow_zero v] at h3
  have H3 : Hid (_) := h3
  clear h3 H1
  go_wp2_with (first
    | (go_at_call 8; refine (num _ _).mono ?_; rintro e w' ⟨rfl, rfl⟩))
  try rw [HX.out.1]
  go_loopw [10] (fun i wr => ∃ n : Nat, i = .int .i64 (n : Int) ∧ n ≤ 4 ∧ Hid (Fb AnyT [(g, box b 0)] w1 wr b g 0 2 8 (8 + 5 * n) (ow v n))) (fun i _ => (4 - intOf i).toNat)
  case atStart => exact ⟨0, rfl, by omega, H3.out⟩
  case round =>
    clear H3
    obtain ⟨n, rfl, hn, HJ⟩ := hrel
    by_cases hlt : n < 4
    · have i0 : (n : Int) < 4 := by omega
      go_wp2_with fail
      try rw [wrap_small _ (by omega) (by omega)]
      refine (d_open HJ.out 1 _ (by omega) (by omega) n hlt (by unfold ow; rw [if_neg (by omega)]) (fun j hj => ow_has v n j hv1 hj) (by omega)).mono ?_
      rintro e w4 ⟨rfl, h4⟩
      rw [ow_next] at h4
      have H4 : Hid (_) := h4
      clear h4 HJ
      go_wp2_with (first
        | (go_at_call 8; refine (num _ _).mono ?_; rintro e w' ⟨rfl, rfl⟩))
      go_roundw
      case rel => exact ⟨n + 1, by go_num, by omega, H4.out⟩
      case measure => simp [intOf]; omega
    · have e4 : n = 4 := by omega
      subst e4
      go_wp2_with fail
      refine (d_open_full HJ.out 1 _ (by omega) (by omega) (fun d hd => ow_has v 4 d hv1 hd) (by omega)).mono ?_
      rintro e w4 ⟨rfl, h4⟩
      have H4 : Hid (_) := h4
      clear h4 HJ
      go_wp2_with fail
      refine (d_open H4.out 0 _ (by omega) (by omega) 0 (by omega) (by unfold ow; rw [if_neg (by omega)]) (fun j hj => by omega) (by omega)).mono ?_
      rintro e w5 ⟨rfl, h5⟩
      have H5 : Hid (_) := h5
      clear h5 H4
      go_wp2_with fail
      try rw [HX.out.2]
      refine (d_close H5.out 1 k _ rfl (by omega) hk (by unfold upd; rw [if_neg (by omega)]; exact ow_has v 4 k hv1 hk) (by omega)).mono ?_
      rintro e w6 ⟨rfl, h6⟩
      have H6 : Hid (_) := h6
      clear h6 H5
      go_wp2_with fail
      refine (d_open H6.out 1 _ (by omega) (by omega) k hk (by unfold upd; rw [if_pos ⟨rfl, rfl⟩]) (fun j hj => by
        unfold upd
        rw [if_neg (by omega), if_neg (by omega)]
        exact ow_has v 4 j hv1 (by omega)) (by omega)).mono ?_
      rintro e w7 ⟨rfl, h7⟩
      have H7 : Hid (_) := h7
      clear h7 H6
      have HL : Hid (∀ d, d < 4 → upd (upd (upd (ow v 4) 0 0 (v : Int)) 1 k 0) 1 k (v : Int) 1 d ≠ 0) := fun d hd => by
        unfold upd
        by_cases e : d = k
        · rw [if_pos ⟨rfl, e⟩]; omega
        · rw [if_neg (by omega), if_neg (by omega), if_neg (by omega)]
          exact ow_has v 4 d hv1 hd
      go_wp2_with (first
        | (go_at_call 8; refine (num _ _).mono ?_; rintro e w' ⟨rfl, rfl⟩))
      refine (d_list H7.out 1 (by omega) (by omega)).mono ?_
      rintro e w8 ⟨u, D, rfl, hu, h8, hd⟩
      have H8 : Hid (_) := h8.old
      obtain ⟨a, cp, hs⟩ := hu.slice
      rw [dl_full 4 HL.out] at hs
      subst hs
      clear h8 hu hd H7 HL HX
      go_wp2_with (first
        | (go_at_call 8; refine (num _ _).mono ?_; rintro e w' ⟨rfl, rfl⟩))
      go_ret
      exact ⟨rfl, HK.out.trans H8.out (by simp)⟩

theorem walk (x y : Int) (w : World) (_ : (Lit.int .i64 x).wf = true) (_ : (Lit.int .i64 y).wf = true) :
    Calls Try.prog 4 #[.int .i64 x, .int .i64 y] w fun e w' => e = .returned (.bool true) ∧ Below w.heap.size w w' :=
  (main x y (1 + x % 256).toNat (y % 4).toNat w (by omega) (by omega) (by omega) (by rw [i64_and255, wrap_small _ (by omega) (by omega)]; omega) (by rw [i64_and3]; omega)).mono fun e w' ⟨he, hk⟩ => ⟨he, hk.below (Nat.le_refl _) (by simp)⟩

set_option maxRecDepth 100000 in
theorem lifted (os : Os) (started : os.Started) (H : Type) (enc : TypeId × Value → H) :
    ReturnsInHanded {} Try.checked os 4 .any (Rows.fdsAllSpec.pre6 enc Try.prog Try.f4 Rows.fdsAllRow.domain false) (Rows.fdsAllSpec.post enc Try.prog Try.f4 false true false false) := by
  refine returnsInHanded_of_change (C := Try.checked) own started (by kernel_rfl) Try.func4
    (ChangeSpec.witness6 (enc := enc) (C := Try.checked) false ⟨#[], #[.int .i64 0, .int .i64 0], []⟩ 8 (by kernel_rfl) (by kernel_rfl) (by kernel_rfl) (by kernel_rfl)) ?_
  intro W base args ds gs before hval0 hW hcnd _
  have hval : ∀ (j : Nat) t v, Try.f4.params[j]? = some t → args[j]? = some v → Value.okWide Try.prog W .any base t v := hval0
  have hW' := hW
  obtain ⟨p, q, hA0, hV, rfl, hfz, hnd⟩ := hW
  have hA : DataW.TrodAll enc Try.prog W 0 (fun _ => true) true Try.f4.params.toList args.toList ds p := hA0
  rw [Try.params4] at hA hval
  obtain ⟨v0, vs0, d0, ds0, p0, q0, hargs, rfl, rfl, h0, r0⟩ := trodAll_cons hA
  obtain ⟨v1, vs1, d1, ds1, p1, q1, rfl, rfl, rfl, h1, r1⟩ := trodAll_cons r0
  obtain ⟨rfl, rfl, rfl⟩ := trodAll_nil r1
  obtain rfl : args = #[v0, v1] := by cases args; simp_all
  obtain ⟨rfl, rfl⟩ := trodVars_none hV
  obtain ⟨a0, rfl, rfl, rfl, w0⟩ := open_int Try.underlying3 (hval 0 3 v0 rfl rfl) h0
  obtain ⟨a1, rfl, rfl, rfl, w1⟩ := open_int Try.underlying3 (hval 1 3 v1 rfl rfl) h1
  clear hA0 hval0
  refine (walk a0 a1 W w0 w1).mono fun e W' ⟨he, bel⟩ => ?_
  subst he
  simp only [List.append_nil] at hW'
  exact ⟨_, rfl, _, _, _, [], [], [], hW', (trodAll_cons_mk (shut_bool Try.underlying4 _) trodAll_mk0), (trodAll_cons_mk (shut_int Try.underlying3 w0) (trodAll_cons_mk (shut_int Try.underlying3 w1) trodAll_mk0)), rfl, bel.frame _, fun h => by cases h⟩

theorem over : Rows.fdsAllRow.holds Try.pinned (OpenSpec.ofChange Rows.fdsAllSpec) :=
  OpenClaim.holds_of_wide 4 Try.f4 rfl rfl rfl rfl rfl rfl rfl ⟨rfl, rfl, rfl, rfl, rfl⟩ rfl rfl rfl rfl rfl (by kernel_rfl) Try.func4 (by kernel_rfl)
    (of_decide_eq_true (by kernel_rfl)) (by unfold Func.isWrapper; first | (rw [if_pos (by decide +kernel)]; kernel_rfl) | (rw [if_neg (by decide +kernel)]; exact ⟨rfl, rfl⟩))
    (fun os started H enc _ => lifted os started H enc)

end Go.Proofs.Ytolbjmckebicfaa.fdsAll

namespace Go.Proofs.Ytolbjmckebicfaa
theorem fdsAll_holds : Rows.FdsAllSaid := fdsAll.over
#print axioms fdsAll_holds
end Go.Proofs.Ytolbjmckebicfaa
