/-
  Proved: for every core and size, the law AllocShare returns true; its card, tied to the program's text.
-/
import Derived.Test.YtagnkdeeiligcaaDoorRows
import Derived.Test.YtagnkdeeiligcaaDoorCards
import Derived.Test.YtagnkdeeiligcaaDoorTie
import Derived.Test.YtagnkdeeiligcaaDoorLow
import Derived.WalkKit
import Derived.ProofKit
import Derived.OpenShut
import Derived.ShutString
import Derived.ChangeOld
import Derived.Below
import Derived.Deep.Slices
import Derived.LaidMore
import Derived.Stop.Joined
import Derived.SevenTiedAt
namespace Go.Proofs.YtagnkdeeiligcaaDoor.allocShare
open Go.ChangeShapes Go.WideShapes Go.ChangeAt Go.RowKit
open Go.ChangeMaps (open_string shut_string)
set_option linter.unusedVariables false

set_option maxRecDepth 100000 in
set_option maxHeartbeats 8000000 in
theorem walk0 (a0 a1 : Int) (w : World) (hT : Tab w) :
    Calls Tryd.prog 6 #[.int .i64 a0, .int .i64 a1] w fun e w' => e = .returned (.bool true) ∧ Kept [] w w' := by
  obtain ⟨c, hc, hc2⟩ := low_nat 2 a0 _ (by omega) (i64_and1 a0)
  obtain ⟨m, hm, hm2⟩ := low_nat 32 a1 _ (by omega) (i64_and31 a1)
  obtain ⟨z, hz⟩ : ∃ z, 1 + m = z := ⟨_, rfl⟩
  have hz1 : 1 ≤ z := by omega
  have hz2 : z ≤ 32 := by omega
  have hz3 : (1 : Int) + (m : Int) = (z : Int) := by omega
  have HT : Hid (_) := hT
  have hcI : (c : Int) < 2 := by omega
  have e1c : (1 : Int) - (c : Int) = ((1 - c : Nat) : Int) := by omega
  clear hT hz hm2
  go_enter Tryd.func6, Tryd.ntmps6
  go_wp2_with fail
  refine (awake_any HT.out).mono ?_
  rintro e w1 ⟨rfl, hK1⟩
  have HK1 : Hid (_) := hK1
  clear hK1
  go_wp2_with fail
  refine (u_new w1 512 2 (by omega) (by omega) (by omega) (by omega)).mono ?_
  rintro e w2 ⟨b, rfl, hm2⟩
  have HM : Hid (Has w1 w2 b (fresh 512 2)) := hm2
  clear hm2
  go_wp2_with fail
  refine (new_alloc (N := 512) (k := 2) (f := 0) (W := 512) HM.out (by omega) (by omega) (by omega) (by omega) (by omega) (by omega)).mono ?_
  rintro e w3 ⟨x, A3, rfl, h3⟩
  have H3 : Hid (∃ A P, St w1 w3 b x 2 0 256 A P (900000 - 100 * 0) ∧ loads (P c) = 0 * (z + 2) ∧ P (1 - c) = []) := ⟨A3, _, h3, by simp [loads], rfl⟩
  clear h3 HM
  go_wp2_with fail
  clear hc hm
  go_loopw [11, 12] (fun many i wr => ∃ j : Nat, many = .int .i64 (j : Int) ∧ i = .int .i64 (j : Int) ∧ j * (z + 2) ≤ 64 ∧ Hid (∃ A P, St w1 wr b x 2 0 256 A P (900000 - 100 * j) ∧ loads (P c) = j * (z + 2) ∧ P (1 - c) = [])) (fun _ i _ => (600 - intOf i).toNat)
  case atStart => exact ⟨0, rfl, rfl, by simp, H3⟩
  case round =>
    obtain ⟨j, rfl, rfl, hj, HS⟩ := hrel
    clear H3
    obtain ⟨A, P, hs, hl, hp⟩ := HS.out
    have hj2 : j * 3 ≤ 64 := Nat.le_trans (Nat.mul_le_mul_left j (by omega)) hj
    have i0 : (j : Int) < 600 := by omega
    have HR : Hid (_ ∧ _ ∧ _) := ⟨hs, hl, hp⟩
    clear hs hl hp HS
    have hsucc : (j + 1) * (z + 2) = j * (z + 2) + (z + 2) := Nat.succ_mul j (z + 2)
    by_cases hfit : j * (z + 2) + (z + 2) ≤ 64
    · go_wp2_with fail
      refine (st_get HR.out.1 (c := c) hc2 (900000 - 100 * (j + 1)) (by omega) z hz1 hz2 (by rw [HR.out.2.1]; omega)).mono ?_
      rintro e w4 ⟨pos, A4, rfl, h4, -, -⟩
      have HN : Hid (∃ A P, St w1 w4 b x 2 0 256 A P (900000 - 100 * (j + 1)) ∧ loads (P c) = (j + 1) * (z + 2) ∧ P (1 - c) = []) := ⟨A4, _, h4, by
        simp only [if_true]
        rw [loads_append, HR.out.2.1, hsucc], by
        rw [if_neg (by omega)]
        exact HR.out.2.2⟩
      clear h4 HR
      go_wp2_with (first
        | (go_at_call 9; refine (num _ _).mono ?_; rintro e w' ⟨rfl, hw'⟩; subst hw'))
      go_roundw
      case rel => exact ⟨j + 1, by go_num, by go_num, by omega, HN.out⟩
      case measure => simp [intOf]; omega
    · go_wp2_with fail
      refine (st_full HR.out.1 (c := c) hc2 (800000) (by omega) z hz1 hz2 (by rw [HR.out.2.1]; omega)).mono ?_
      rintro e w4 ⟨rfl, A4, h4⟩
      have H4 : Hid (_ ∧ _ ∧ _) := ⟨h4, HR.out.2⟩
      clear h4 HR
      obtain ⟨ld, hld⟩ : ∃ ld, j * (z + 2) = ld := ⟨_, rfl⟩
      have hlz : j * z ≤ ld := by rw [← hld]; exact Nat.mul_le_mul_left j (by omega)
      have eld : (j : Int) * ((z : Int) + 2) = (ld : Int) := by rw [← hld]; simp
      obtain ⟨lz, hlz2⟩ : ∃ lz, j * z = lz := ⟨_, rfl⟩
      have elz : (j : Int) * (z : Int) = (lz : Int) := by rw [← hlz2]; simp
      rw [hld] at H4 hj hfit
      rw [hlz2] at hlz
      clear hld hlz2 hsucc
      have f1 : (lz : Int) ≤ 256 := by omega
      have f2 : 64 - (z : Int) - 2 < (ld : Int) := by omega
      by_cases h32 : ld + 34 ≤ 64
      · go_wp2_with (first
          | (go_at_call 9; refine (num _ _).mono ?_; rintro e w' ⟨rfl, hw'⟩; subst hw'))
        refine (st_get H4.out.1 (c := c) hc2 700000 (by omega) 32 (by omega) (by omega) (by rw [H4.out.2.1]; omega)).mono ?_
        rintro e w5 ⟨pos, A5, rfl, h5, -, -⟩
        have H5 : Hid (_) := h5
        clear h5
        go_wp2_with (first
          | (go_at_call 9; refine (num _ _).mono ?_; rintro e w' ⟨rfl, hw'⟩; subst hw'))
        refine (st_get H5.out (c := 1 - c) (by omega) 600000 (by omega) 32 (by omega) (by omega) (by rw [if_neg (by omega), H4.out.2.2]; simp [loads])).mono ?_
        rintro e w6 ⟨pos6, A6, rfl, h6, -, -⟩
        have H6 : Hid (_) := h6
        clear h6
        have f6 : 0 ≤ ((heap (0 + (1 - c) * 256) 256 + pos6 : Nat) : Int) := Int.natCast_nonneg _
        generalize ((heap (0 + (1 - c) * 256) 256 + pos6 : Nat) : Int) = y6 at *
        generalize ((heap (0 + c * 256) 256 + pos : Nat) : Int) = y5 at *
        go_wp2_with (first
          | (go_at_call 9; refine (num _ _).mono ?_; rintro e w' ⟨rfl, hw'⟩; subst hw'))
        go_ret
        exact ⟨rfl, HK1.out.trans H6.out.kept (by simp)⟩
      · go_wp2_with (first
          | (go_at_call 9; refine (num _ _).mono ?_; rintro e w' ⟨rfl, hw'⟩; subst hw'))
        refine (st_full H4.out.1 (c := c) hc2 700000 (by omega) 32 (by omega) (by omega) (by rw [H4.out.2.1]; omega)).mono ?_
        rintro e w5 ⟨rfl, A5, h5⟩
        have H5 : Hid (_) := h5
        clear h5
        go_wp2_with (first
          | (go_at_call 9; refine (num _ _).mono ?_; rintro e w' ⟨rfl, hw'⟩; subst hw'))
        refine (st_get H5.out (c := 1 - c) (by omega) 600000 (by omega) 32 (by omega) (by omega) (by rw [H4.out.2.2]; simp [loads])).mono ?_
        rintro e w6 ⟨pos6, A6, rfl, h6, -, -⟩
        have H6 : Hid (_) := h6
        clear h6
        have f6 : 0 ≤ ((heap (0 + (1 - c) * 256) 256 + pos6 : Nat) : Int) := Int.natCast_nonneg _
        generalize ((heap (0 + (1 - c) * 256) 256 + pos6 : Nat) : Int) = y6 at *
        go_wp2_with (first
          | (go_at_call 9; refine (num _ _).mono ?_; rintro e w' ⟨rfl, hw'⟩; subst hw'))
        go_ret
        exact ⟨rfl, HK1.out.trans H6.out.kept (by simp)⟩

theorem walk (a0 a1 : Int) (w : World) (hT : Tab w) (_ : (Lit.int .i64 a0).wf = true) (_ : (Lit.int .i64 a1).wf = true) :
    Calls Tryd.prog 6 #[.int .i64 a0, .int .i64 a1] w fun e w' => e = .returned (.bool true) ∧ Below w.heap.size w w' :=
  (walk0 a0 a1 w hT).mono fun e w' ⟨he, hk⟩ => ⟨he, hk.below (Nat.le_refl _) (by simp)⟩

set_option maxRecDepth 100000 in
theorem lifted (os : Os) (started : os.Started) (H : Type) (enc : TypeId × Value → H) :
    ReturnsInHanded {} Tryd.checked os 6 .any (fun w args => (Rows.allocShareSpec.pre enc Tryd.prog Tryd.f6 [] false w args ∧ laidMetH Tryd.prog laid1 w) ∧ sizedMet enc Tryd.prog Tryd.f6 (OpenSpec.ofChange Rows.allocShareSpec) false w args)
      (Rows.allocShareSpec.post enc Tryd.prog Tryd.f6 false true false false) := by
  refine returnsInHanded_of_change_and (C := Tryd.checked) (X := fun w _ => laidMetH Tryd.prog laid1 w) (fun _ _ _ hh h => h.of_heap hh) own started (by kernel_rfl) Tryd.func6
    (ChangeSpec.witness_shaped (enc := enc) (C := Tryd.checked) (os := os) (X := fun w _ => laidMetH Tryd.prog laid1 w) false (World.doorLaid Tryd.prog 400 os) #[.int .i64 0, .int .i64 0] 8 rfl (World.shaped_of_RefB (by kernel_rfl) (by kernel_rfl)) (by kernel_rfl) (by kernel_rfl) (by kernel_rfl) (door_met os _)) ?_
  intro W base args ds gs before hval0 hW _ _ hL _
  have hval : ∀ (j : Nat) t v, Tryd.f6.params[j]? = some t → args[j]? = some v → Value.okWide Tryd.prog W .any base t v := hval0
  have hW' := hW
  obtain ⟨p, q, hA0, hV, rfl, hfz, hnd⟩ := hW
  have hA : DataW.TrodAll enc Tryd.prog W 0 (fun _ => true) true Tryd.f6.params.toList args.toList ds p := hA0
  rw [Tryd.params6] at hA hval
  obtain ⟨v0, vs0, d0, ds0, p0, q0, hargs, rfl, rfl, h0, r0⟩ := trodAll_cons hA
  obtain ⟨v1, vs1, d1, ds1, p1, q1, rfl, rfl, rfl, h1, r1⟩ := trodAll_cons r0
  obtain ⟨rfl, rfl, rfl⟩ := trodAll_nil r1
  obtain rfl : args = #[v0, v1] := by cases args; simp_all
  obtain ⟨rfl, rfl⟩ := trodVars_none hV
  obtain ⟨a0, rfl, rfl, rfl, w0⟩ := open_int Tryd.underlying3 (hval 0 3 v0 rfl rfl) h0
  obtain ⟨a1, rfl, rfl, rfl, w1⟩ := open_int Tryd.underlying3 (hval 1 3 v1 rfl rfl) h1
  clear hA0 hval0
  refine (walk a0 a1 W (of_laid hL) w0 w1).mono fun e W' ⟨he, bel⟩ => ?_
  subst he
  simp only [List.append_nil] at hW'
  exact ⟨_, rfl, _, _, _, [], [], [], hW', (trodAll_cons_mk (shut_bool Tryd.underlying4 _) trodAll_mk0), (trodAll_cons_mk (shut_int Tryd.underlying3 w0) (trodAll_cons_mk (shut_int Tryd.underlying3 w1) trodAll_mk0)), rfl, bel.frame _, fun h => by cases h⟩

theorem over : Rows.allocShareRow.holds Tryd.pinned (OpenSpec.ofChange Rows.allocShareSpec) :=
  OpenClaim.holds_of_wide 6 Tryd.f6 rfl rfl rfl rfl rfl rfl rfl ⟨rfl, rfl, rfl, rfl, rfl⟩ rfl rfl rfl rfl rfl (by kernel_rfl) Tryd.func6 (by kernel_rfl)
    (of_decide_eq_true (by kernel_rfl)) (by unfold Func.isWrapper; first | (rw [if_pos (by decide +kernel)]; kernel_rfl) | (rw [if_neg (by decide +kernel)]; exact ⟨rfl, rfl⟩))
    (fun os started H enc _ => lifted os started H enc)

theorem card : Rows.AllocShareCardSaid :=
  Claim7.holds_tied_plain_at .later [] [.data] true (true, "dc9a8a4a362bad82089852e931c949fb14dc5bffdd24db5c8f597f69135225ba") true
    over (fun _ h => by cases h) (by kernel_rfl) (fun _ h => by cases h) allocShare_row_tie rfl ⟨rfl, rfl⟩ (by kernel_rfl) rfl
    (fun f fn hf hfn => by
      obtain rfl : f = 6 := Option.some.inj ((show Tryd.prog.funcNamed "concourse/concourselaw4.AllocShare" = some 6 by kernel_rfl).symm.trans hf) |>.symm
      obtain rfl : fn = Tryd.f6 := (Option.some.inj (Tryd.func6.symm.trans hfn)).symm
      exact ⟨by kernel_rfl, fun j t ht => by
        rw [Tryd.params6] at ht
        have hm : t ∈ [3, 3] := by simpa using Array.mem_of_getElem? ht
        have hall : ([3, 3].all fun u => !Tryd.prog.wantsStandIn u) = true := by kernel_rfl
        exact (show Tryd.prog.wantsStandIn t = false by simpa using List.all_eq_true.1 hall t hm)⟩)
    (by kernel_rfl)

end Go.Proofs.YtagnkdeeiligcaaDoor.allocShare

namespace Go.Proofs.YtagnkdeeiligcaaDoor
theorem allocShare_holds : Rows.AllocShareCardSaid := allocShare.card
#print axioms allocShare_holds
end Go.Proofs.YtagnkdeeiligcaaDoor
