/-
  concourselaw21.JournalSizes returns true for every from, words and many: which journals there are, and how much they take. No condition.
-/
import Derived.Test.YtpaefllhngbimaaRows
import Derived.Test.YtpaefllhngbimaaJb
import Derived.WalkKit
import Derived.ProofKit
import Derived.OpenShut
import Derived.ShutString
import Derived.ChangeOld
import Derived.Below
import Derived.Deep.Slices
import Derived.SizedLaws
namespace Go.Proofs.Ytpaefllhngbimaa.journalSizes
open Go.ChangeShapes Go.WideShapes Go.ChangeAt Go.RowKit
open Go.ChangeMaps (open_string shut_string)
set_option linter.unusedVariables false

theorem own : ownKnob Try.prog.godebug = none := by kernel_rfl
theorem laidOut : laidOutB Try.prog = true := by kernel_rfl

set_option maxRecDepth 100000 in
set_option maxHeartbeats 2000000 in
theorem badA (x y z : Int) (w : World) (b0 : -300 < x.tmod 300) (b1 : x.tmod 300 < 300) (hh : x.tmod 300 < 0)  (hbad : x.tmod 300 < 0 ∨ (x.tmod 300) % 8 ≠ 0 ∨ y.tmod 300 < 64 ∨ (((fresh 256).seen.length : Nat) : Int) - x.tmod 300 < y.tmod 300) :
    Calls Try.prog 6 #[.int .i64 x, .int .i64 y, .int .i64 z] w fun e w' => e = .returned (.bool true) ∧ Kept [] w w' := by
  have HB : Hid (_) := hbad
  clear hbad
  go_enter Try.func6, Try.ntmps6
  go_wp2_with fail
  refine (awake_any w).mono ?_
  rintro e w1 ⟨rfl, hk⟩
  have H0 : Hid (Kept [] w w1) := hk
  clear hk
  go_wp2_with fail
  refine (u_new w1 256 (by omega) (by omega) (by omega)).mono ?_
  rintro e w2 ⟨b, rfl, hm⟩
  have H1 : Hid (Hj [] w1 w2 b (fresh 256)) := hm.hj
  clear hm
  go_wp2_with fail
  generalize x.tmod 300 = r at *
  generalize y.tmod 300 = v at *
  refine (j_new_bad H1.out (by simp [fresh]) (by omega) (by omega) HB.out).mono ?_
  rintro e w3 ⟨rfl, hw⟩
  have hw3 := hw.symm
  subst hw3
  clear hw
  go_wp2_with (first
    | (go_at_call 10; refine (u_num _ _).mono ?_; rintro e w' ⟨rfl, rfl⟩))
  go_ret
  exact ⟨rfl, H0.out.trans H1.out.1 (by simp)⟩

set_option maxRecDepth 100000 in
set_option maxHeartbeats 2000000 in
theorem badB (x y z : Int) (w : World) (b0 : -300 < x.tmod 300) (b1 : x.tmod 300 < 300) (hh : ¬ x.tmod 300 < 0) (g0 : 0 ≤ x.tmod 300) (h0 : ((x.tmod 300) % 8 != 0) = true) (hbad : x.tmod 300 < 0 ∨ (x.tmod 300) % 8 ≠ 0 ∨ y.tmod 300 < 64 ∨ (((fresh 256).seen.length : Nat) : Int) - x.tmod 300 < y.tmod 300) :
    Calls Try.prog 6 #[.int .i64 x, .int .i64 y, .int .i64 z] w fun e w' => e = .returned (.bool true) ∧ Kept [] w w' := by
  have HB : Hid (_) := hbad
  clear hbad
  go_enter Try.func6, Try.ntmps6
  go_wp2_with fail
  refine (awake_any w).mono ?_
  rintro e w1 ⟨rfl, hk⟩
  have H0 : Hid (Kept [] w w1) := hk
  clear hk
  go_wp2_with fail
  refine (u_new w1 256 (by omega) (by omega) (by omega)).mono ?_
  rintro e w2 ⟨b, rfl, hm⟩
  have H1 : Hid (Hj [] w1 w2 b (fresh 256)) := hm.hj
  clear hm
  go_wp2_with fail
  generalize x.tmod 300 = r at *
  generalize y.tmod 300 = v at *
  refine (j_new_bad H1.out (by simp [fresh]) (by omega) (by omega) HB.out).mono ?_
  rintro e w3 ⟨rfl, hw⟩
  have hw3 := hw.symm
  subst hw3
  clear hw
  go_wp2_with (first
    | (go_at_call 10; refine (u_num _ _).mono ?_; rintro e w' ⟨rfl, rfl⟩))
  go_ret
  exact ⟨rfl, H0.out.trans H1.out.1 (by simp)⟩

set_option maxRecDepth 100000 in
set_option maxHeartbeats 2000000 in
theorem badC (x y z : Int) (w : World) (b0 : -300 < x.tmod 300) (b1 : x.tmod 300 < 300) (hh : ¬ x.tmod 300 < 0) (g0 : 0 ≤ x.tmod 300) (h0 : ((x.tmod 300) % 8 != 0) = false) (h1 : y.tmod 300 < 64) (hbad : x.tmod 300 < 0 ∨ (x.tmod 300) % 8 ≠ 0 ∨ y.tmod 300 < 64 ∨ (((fresh 256).seen.length : Nat) : Int) - x.tmod 300 < y.tmod 300) :
    Calls Try.prog 6 #[.int .i64 x, .int .i64 y, .int .i64 z] w fun e w' => e = .returned (.bool true) ∧ Kept [] w w' := by
  have HB : Hid (_) := hbad
  clear hbad
  go_enter Try.func6, Try.ntmps6
  go_wp2_with fail
  refine (awake_any w).mono ?_
  rintro e w1 ⟨rfl, hk⟩
  have H0 : Hid (Kept [] w w1) := hk
  clear hk
  go_wp2_with fail
  refine (u_new w1 256 (by omega) (by omega) (by omega)).mono ?_
  rintro e w2 ⟨b, rfl, hm⟩
  have H1 : Hid (Hj [] w1 w2 b (fresh 256)) := hm.hj
  clear hm
  go_wp2_with fail
  generalize x.tmod 300 = r at *
  generalize y.tmod 300 = v at *
  refine (j_new_bad H1.out (by simp [fresh]) (by omega) (by omega) HB.out).mono ?_
  rintro e w3 ⟨rfl, hw⟩
  have hw3 := hw.symm
  subst hw3
  clear hw
  go_wp2_with (first
    | (go_at_call 10; refine (u_num _ _).mono ?_; rintro e w' ⟨rfl, rfl⟩))
  go_ret
  exact ⟨rfl, H0.out.trans H1.out.1 (by simp)⟩

set_option maxRecDepth 100000 in
set_option maxHeartbeats 2000000 in
theorem badD (x y z : Int) (w : World) (b0 : -300 < x.tmod 300) (b1 : x.tmod 300 < 300) (hh : ¬ x.tmod 300 < 0) (g0 : 0 ≤ x.tmod 300) (h0 : ((x.tmod 300) % 8 != 0) = false) (h1 : ¬ y.tmod 300 < 64) (h2 : 256 < x.tmod 300) (hbad : x.tmod 300 < 0 ∨ (x.tmod 300) % 8 ≠ 0 ∨ y.tmod 300 < 64 ∨ (((fresh 256).seen.length : Nat) : Int) - x.tmod 300 < y.tmod 300) :
    Calls Try.prog 6 #[.int .i64 x, .int .i64 y, .int .i64 z] w fun e w' => e = .returned (.bool true) ∧ Kept [] w w' := by
  have HB : Hid (_) := hbad
  clear hbad
  go_enter Try.func6, Try.ntmps6
  go_wp2_with fail
  refine (awake_any w).mono ?_
  rintro e w1 ⟨rfl, hk⟩
  have H0 : Hid (Kept [] w w1) := hk
  clear hk
  go_wp2_with fail
  refine (u_new w1 256 (by omega) (by omega) (by omega)).mono ?_
  rintro e w2 ⟨b, rfl, hm⟩
  have H1 : Hid (Hj [] w1 w2 b (fresh 256)) := hm.hj
  clear hm
  go_wp2_with fail
  generalize x.tmod 300 = r at *
  generalize y.tmod 300 = v at *
  refine (j_new_bad H1.out (by simp [fresh]) (by omega) (by omega) HB.out).mono ?_
  rintro e w3 ⟨rfl, hw⟩
  have hw3 := hw.symm
  subst hw3
  clear hw
  go_wp2_with (first
    | (go_at_call 10; refine (u_num _ _).mono ?_; rintro e w' ⟨rfl, rfl⟩))
  go_ret
  exact ⟨rfl, H0.out.trans H1.out.1 (by simp)⟩

set_option maxRecDepth 100000 in
set_option maxHeartbeats 2000000 in
theorem badE (x y z : Int) (w : World) (b0 : -300 < x.tmod 300) (b1 : x.tmod 300 < 300) (hh : ¬ x.tmod 300 < 0) (g0 : 0 ≤ x.tmod 300) (h0 : ((x.tmod 300) % 8 != 0) = false) (h1 : ¬ y.tmod 300 < 64) (h2 : ¬ 256 < x.tmod 300) (h3 : 256 - x.tmod 300 < y.tmod 300) (hbad : x.tmod 300 < 0 ∨ (x.tmod 300) % 8 ≠ 0 ∨ y.tmod 300 < 64 ∨ (((fresh 256).seen.length : Nat) : Int) - x.tmod 300 < y.tmod 300) :
    Calls Try.prog 6 #[.int .i64 x, .int .i64 y, .int .i64 z] w fun e w' => e = .returned (.bool true) ∧ Kept [] w w' := by
  have HB : Hid (_) := hbad
  clear hbad
  go_enter Try.func6, Try.ntmps6
  go_wp2_with fail
  refine (awake_any w).mono ?_
  rintro e w1 ⟨rfl, hk⟩
  have H0 : Hid (Kept [] w w1) := hk
  clear hk
  go_wp2_with fail
  refine (u_new w1 256 (by omega) (by omega) (by omega)).mono ?_
  rintro e w2 ⟨b, rfl, hm⟩
  have H1 : Hid (Hj [] w1 w2 b (fresh 256)) := hm.hj
  clear hm
  go_wp2_with fail
  generalize x.tmod 300 = r at *
  generalize y.tmod 300 = v at *
  refine (j_new_bad H1.out (by simp [fresh]) (by omega) (by omega) HB.out).mono ?_
  rintro e w3 ⟨rfl, hw⟩
  have hw3 := hw.symm
  subst hw3
  clear hw
  go_wp2_with (first
    | (go_at_call 10; refine (u_num _ _).mono ?_; rintro e w' ⟨rfl, rfl⟩))
  go_ret
  exact ⟨rfl, H0.out.trans H1.out.1 (by simp)⟩

set_option maxRecDepth 100000 in
set_option maxHeartbeats 2000000 in
theorem good (x y z : Int) (r v : Nat) (hr : x.tmod 300 = (r : Int)) (hv : y.tmod 300 = (v : Int)) (w : World) (h0 : r % 8 = 0) (h1 : 64 ≤ v) (h2 : r + v ≤ 256) :
    Calls Try.prog 6 #[.int .i64 x, .int .i64 y, .int .i64 z] w fun e w' => e = .returned (.bool true) ∧ Kept [] w w' := by
  have hfit : Fits (fresh 256).seen r v := fresh_fits h0 h1 (by omega) (by omega) (by omega)
  have hroom : roomOf v = 2 * v - 64 := room_of (by omega) h1
  obtain ⟨q1, f1⟩ := quiet_repl (fresh_clean 256) (fresh_rng 256) hfit rfl (s := ⟨#[]⟩) (Nat.zero_le _)
  have n1 := (Cnt.fresh 256).repl (X := (fresh 256).seen) (f := r) (n := v) (s := ⟨#[]⟩) (Nat.zero_le _)
  obtain ⟨M1, hM1⟩ : ∃ M1, M1 = (fresh 256).run (replOps (fresh 256).seen r v ⟨#[]⟩) := ⟨_, rfl⟩
  rw [← hM1] at q1 f1 n1
  obtain ⟨k, hk, hk2⟩ : ∃ k : Nat, bits .and .i64 z 1023 = (k : Int) ∧ k < 1024 := ⟨(z % 1024).toNat, by rw [i64_and1023]; omega, by omega⟩
  have i1 : ¬ (r : Int) < 0 := by omega
  have i2 : ((r : Int) % 8 != 0) = false := by simp; omega
  have i3 : ¬ (v : Int) < 64 := by omega
  have i4 : ¬ 256 < (r : Int) := by omega
  have i5 : ¬ 256 - (r : Int) < (v : Int) := by omega
  have i6 : 0 ≤ (r : Int) := by omega
  have hmk := fun w => make_zt k (by omega) w
  have hcv := fun w => conv_zt k w
  have HQ : Hid (Quiet M1 r v ⟨#[]⟩) := q1
  have HN : Hid (Cnt M1 (0 + 20000)) := n1
  have hz := zt_size k
  generalize zt k = t at *
  clear q1 n1
  go_enter Try.func6, Try.ntmps6
  go_wp2_with fail
  refine (awake_any w).mono ?_
  rintro e w1 ⟨rfl, hk⟩
  have H0 : Hid (Kept [] w w1) := hk
  clear hk
  go_wp2_with fail
  refine (u_new w1 256 (by omega) (by omega) (by omega)).mono ?_
  rintro e w2 ⟨b, rfl, hm⟩
  have H1 : Hid (Hj [] w1 w2 b (fresh 256)) := hm.hj
  clear hm
  go_wp2_with fail
  refine (j_new H1.out (f := r) (n := v) hfit (by simp [fresh]) (by simp [fresh]) (by simp [fresh]) (by simp [fresh])).mono ?_
  rintro e w3 ⟨j, rfl, hje, h3⟩
  rw [← hM1] at h3
  have H3 : Hid (Hj [(j, jn b r v)] w1 w3 b M1) := h3
  clear h3 hje hM1 H1 hfit
  by_cases hf : k ≤ 2 * v - 64
  · have e1 : ((k : Int) ≤ 2 * (v : Int) - 64) = True := by simp; omega
    have i7 : (k : Int) ≤ 2 * (v : Int) - 64 := by omega
    clear hroom e1
    go_wp2_with (first
      | (go_at_call 20; refine (j_write (H3.out.still ((Kept.refl _ _).alloc _)) (f := r) (n := v) (by simp) HQ.out.fits t (by rw [hz, room_of (by omega) h1]; exact hf) HN.out.s0 (by have := HN.out.s1; omega) HN.out.t0 (by have := HN.out.t1; omega)).mono ?_; rintro e w4 ⟨rfl, h4⟩; have H4 : Hid (Hj [(j, jn b r v)] w1 w4 b _) := h4; clear h4)
      | (go_at_call 10; refine (u_num _ _).mono ?_; rintro e w' ⟨rfl, rfl⟩))
    go_ret
    exact ⟨rfl, H0.out.trans H4.out.1 (by simp)⟩
  · have i7 : ¬ (k : Int) ≤ 2 * (v : Int) - 64 := by omega
    clear hroom
    go_wp2_with (first
      | (go_at_call 20; refine (j_write_full (H3.out.still ((Kept.refl _ _).alloc _)) (f := r) (n := v) (by simp) HQ.out.fits t (by rw [hz, room_of (by omega) h1]; omega)).mono ?_; rintro e w4 ⟨rfl, hw⟩; have hw3 := hw; subst hw3; clear hw)
      | (go_at_call 10; refine (u_num _ _).mono ?_; rintro e w' ⟨rfl, rfl⟩))
    go_ret
    have hfin : (!decide ((k : Int) ≤ 2 * (v : Int) - 64)) = true := by simp; omega
    exact ⟨congrArg (fun x => Ending.returned (.bool x)) hfin, H0.out.trans (H3.out.1.alloc _) (by simp)⟩

theorem walk (x y z : Int) (w : World) (_ : (Lit.int .i64 x).wf = true) (_ : (Lit.int .i64 y).wf = true) (_ : (Lit.int .i64 z).wf = true) :
    Calls Try.prog 6 #[.int .i64 x, .int .i64 y, .int .i64 z] w fun e w' => e = .returned (.bool true) ∧ Below w.heap.size w w' := by
  have key : Calls Try.prog 6 #[.int .i64 x, .int .i64 y, .int .i64 z] w fun e w' => e = .returned (.bool true) ∧ Kept [] w w' := by
    have b1 := Int.tmod_lt_of_pos x (show (0 : Int) < 300 by decide)
    have b0 : -300 < x.tmod 300 := by
      have := Int.tmod_lt_of_pos (-x) (show (0 : Int) < 300 by decide)
      rw [Int.neg_tmod] at this
      omega
    have hl : (((fresh 256).seen.length : Nat) : Int) = 256 := by
      show (((List.replicate 256 (0 : Int)).length : Nat) : Int) = 256
      rw [List.length_replicate]; rfl
    by_cases c1 : x.tmod 300 < 0
    · exact badA x y z w b0 b1 c1 (Or.inl c1)
    by_cases c2 : (x.tmod 300) % 8 ≠ 0
    · exact badB x y z w b0 b1 c1 (by omega) (by simpa using c2) (Or.inr (Or.inl c2))
    have c2' : ((x.tmod 300) % 8 != 0) = false := by simp; omega
    by_cases c3 : y.tmod 300 < 64
    · exact badC x y z w b0 b1 c1 (by omega) c2' c3 (Or.inr (Or.inr (Or.inl c3)))
    by_cases c4 : 256 < x.tmod 300
    · exact badD x y z w b0 b1 c1 (by omega) c2' c3 c4 (Or.inr (Or.inr (Or.inr (by rw [hl]; omega))))
    by_cases c5 : 256 - x.tmod 300 < y.tmod 300
    · exact badE x y z w b0 b1 c1 (by omega) c2' c3 c4 c5 (Or.inr (Or.inr (Or.inr (by rw [hl]; omega))))
    exact good x y z (x.tmod 300).toNat (y.tmod 300).toNat (by omega) (by omega) w (by omega) (by omega) (by omega)
  exact key.mono fun e w' h => ⟨h.1, bel h.2⟩


set_option maxRecDepth 100000 in
theorem lifted (os : Os) (started : os.Started) (H : Type) (enc : TypeId × Value → H) :
    ReturnsInHanded {} Try.checked os 6 .any (Rows.journalSizesSpec.pre6 enc Try.prog Try.f6 Rows.journalSizesRow.domain false) (Rows.journalSizesSpec.post enc Try.prog Try.f6 false true false false) := by
  refine returnsInHanded_of_change (C := Try.checked) own started (by kernel_rfl) Try.func6
    (ChangeSpec.witness6 (enc := enc) (C := Try.checked) false ⟨#[], #[.int .i64 0, .int .i64 0, .int .i64 0], []⟩ 8 (by kernel_rfl) (by kernel_rfl) (by kernel_rfl) (by kernel_rfl)) ?_
  intro W base args ds gs before hval0 hW hcnd _
  have hval : ∀ (j : Nat) t v, Try.f6.params[j]? = some t → args[j]? = some v → Value.okWide Try.prog W .any base t v := hval0
  have hW' := hW
  obtain ⟨p, q, hA0, hV, rfl, hfz, hnd⟩ := hW
  have hA : DataW.TrodAll enc Try.prog W 0 (fun _ => true) true Try.f6.params.toList args.toList ds p := hA0
  rw [Try.params6] at hA hval
  obtain ⟨v0, vs0, d0, ds0, p0, q0, hargs, rfl, rfl, h0, r0⟩ := trodAll_cons hA
  obtain ⟨v1, vs1, d1, ds1, p1, q1, rfl, rfl, rfl, h1, r1⟩ := trodAll_cons r0
  obtain ⟨v2, vs2, d2, ds2, p2, q2, rfl, rfl, rfl, h2, r2⟩ := trodAll_cons r1
  obtain ⟨rfl, rfl, rfl⟩ := trodAll_nil r2
  obtain rfl : args = #[v0, v1, v2] := by cases args; simp_all
  obtain ⟨rfl, rfl⟩ := trodVars_none hV
  obtain ⟨a0, rfl, rfl, rfl, w0⟩ := open_int Try.underlying3 (hval 0 3 v0 rfl rfl) h0
  obtain ⟨a1, rfl, rfl, rfl, w1⟩ := open_int Try.underlying3 (hval 1 3 v1 rfl rfl) h1
  obtain ⟨a2, rfl, rfl, rfl, w2⟩ := open_int Try.underlying3 (hval 2 3 v2 rfl rfl) h2
  clear hA0 hval0
  refine (walk a0 a1 a2 W w0 w1 w2).mono fun e W' ⟨he, bel⟩ => ?_
  subst he
  simp only [List.append_nil] at hW'
  exact ⟨_, rfl, _, _, _, [], [], [], hW', (trodAll_cons_mk (shut_bool Try.underlying4 _) trodAll_mk0), (trodAll_cons_mk (shut_int Try.underlying3 w0) (trodAll_cons_mk (shut_int Try.underlying3 w1) (trodAll_cons_mk (shut_int Try.underlying3 w2) trodAll_mk0))), rfl, bel.frame _, fun h => by cases h⟩

theorem over : Rows.journalSizesRow.holds Try.pinned (OpenSpec.ofChange Rows.journalSizesSpec) :=
  OpenClaim.holds_of_wide 6 Try.f6 rfl rfl rfl rfl rfl rfl rfl ⟨rfl, rfl, rfl, rfl, rfl⟩ rfl rfl rfl rfl rfl (by kernel_rfl) Try.func6 (by kernel_rfl)
    (of_decide_eq_true (by kernel_rfl)) (by unfold Func.isWrapper; first | (rw [if_pos (by decide +kernel)]; kernel_rfl) | (rw [if_neg (by decide +kernel)]; exact ⟨rfl, rfl⟩))
    (fun os started H enc _ => lifted os started H enc)

end Go.Proofs.Ytpaefllhngbimaa.journalSizes

namespace Go.Proofs.Ytpaefllhngbimaa
theorem journalSizes_holds : Rows.JournalSizesSaid := journalSizes.over
#print axioms journalSizes_holds
end Go.Proofs.Ytpaefllhngbimaa
