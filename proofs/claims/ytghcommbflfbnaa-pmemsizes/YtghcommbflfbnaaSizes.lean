/-
  Proved: for every words and at, the law PmemSizes returns true. No condition.
-/
import Derived.Test.YtghcommbflfbnaaRows
import Derived.Test.YtghcommbflfbnaaFacts
import Derived.Test.YtghcommbflfbnaaAwake
import Derived.WalkKit
import Derived.ProofKit
import Derived.OpenShut
namespace Go.Proofs.Ytghcommbflfbnaa.pmemSizes
open Go.ChangeShapes Go.WideShapes Go.ChangeAt Go.RowKit
set_option linter.unusedVariables false

theorem own : ownKnob Try.prog.godebug = none := by kernel_rfl

set_option maxHeartbeats 1000000 in
theorem bad_small (a0 a1 : Int) (w : World) (h : a0.tmod 300 < 8) :
    Calls Try.prog 8 #[.int .i64 a0, .int .i64 a1] w fun e w' => e = .returned (.bool true) ∧ Kept [] w w' := by
  go_enter Try.func8, Try.ntmps8
  go_wp2_with fail
  refine (awake_any w).mono ?_
  rintro e w1 ⟨rfl, hK⟩
  have HK : Hid (_) := hK
  clear hK
  go_wp2_with fail
  generalize a0.tmod 300 = r at *
  refine (u_new_no w1 r (by omega)).mono ?_
  rintro e w' ⟨rfl, rfl⟩
  go_wp2_with (first
    | (go_at_call 11; refine (u_num _ _).mono ?_; rintro e w' ⟨rfl, rfl⟩))
  go_ret
  exact ⟨rfl, HK.out⟩

set_option maxHeartbeats 1000000 in
theorem bad_rem (a0 a1 : Int) (w : World) (h : 8 ≤ a0.tmod 300) (h1 : a0.tmod 300 < 300) (h8 : (a0.tmod 300) % 8 ≠ 0) :
    Calls Try.prog 8 #[.int .i64 a0, .int .i64 a1] w fun e w' => e = .returned (.bool true) ∧ Kept [] w w' := by
  go_enter Try.func8, Try.ntmps8
  go_wp2_with fail
  refine (awake_any w).mono ?_
  rintro e w1 ⟨rfl, hK⟩
  have HK : Hid (_) := hK
  clear hK
  go_wp2_with fail
  generalize a0.tmod 300 = r at *
  refine (u_new_no w1 r (by omega)).mono ?_
  rintro e w' ⟨rfl, rfl⟩
  have t1 : (r % 8 != 0) = true := by simp; omega
  go_wp2_with (first
    | (go_at_call 11; refine (u_num _ _).mono ?_; rintro e w' ⟨rfl, rfl⟩))
  go_ret
  exact ⟨rfl, HK.out⟩

set_option maxHeartbeats 2000000 in
theorem good_neg (a0 a1 : Int) (w : World) (g0 : 8 ≤ a0.tmod 300) (g1 : a0.tmod 300 < 300) (g2 : (a0.tmod 300) % 8 = 0) (h : a1 < 0) :
    Calls Try.prog 8 #[.int .i64 a0, .int .i64 a1] w fun e w' => e = .returned (.bool true) ∧ Kept [] w w' := by
  go_enter Try.func8, Try.ntmps8
  go_wp2_with fail
  refine (awake_any w).mono ?_
  rintro e w1 ⟨rfl, hK⟩
  have HK : Hid (_) := hK
  clear hK
  go_wp2_with fail
  generalize a0.tmod 300 = r at *
  have hl : ((fresh r.toNat).seen.length : Int) = r := by simp [fresh]; omega
  refine (u_new w1 r g0 (by omega) g2).mono ?_
  rintro e w2 ⟨b, rfl, hm2⟩
  have hl2 : ((fresh r.toNat).seen.length : Int) = r := by exact hl
  have hl3 : ((fresh r.toNat).seen.length : Int) = r := by exact hl
  have HL : Hid (_ ∧ _ ∧ _) := ⟨hl, hl2, hl3⟩
  clear hl hl2 hl3
  have t1 : (r % 8 != 0) = false := by simp; omega
  go_wp2_with fail
  refine (u_store_no hm2 a1 1 (Or.inl h)).mono ?_
  rintro e w3 ⟨rfl, hm3⟩
  clear hm2
  go_wp2_with fail
  refine (u_flush_no hm3 a1 (Or.inl h)).mono ?_
  rintro e w4 ⟨rfl, hm4⟩
  clear hm3
  go_wp2_with fail
  refine (u_load_no hm4 a1 (Or.inl h)).mono ?_
  rintro e w' ⟨rfl, rfl⟩
  have hKK := HK.out.trans hm4.1 (by simp)
  go_wp2_with (first
    | (go_at_call 11; refine (u_num _ _).mono ?_; rintro e w' ⟨rfl, rfl⟩)
    | (go_at_call 18; refine (u_words hm4).mono ?_; rintro e w' ⟨rfl, rfl⟩; rw [HL.out.2.2]))
  go_ret
  exact ⟨rfl, hKK⟩

set_option maxHeartbeats 2000000 in
theorem good_line (a0 a1 : Int) (w : World) (g0 : 8 ≤ a0.tmod 300) (g1 : a0.tmod 300 < 300) (g2 : (a0.tmod 300) % 8 = 0) (h0 : 0 ≤ a1) (h1 : a1 < (a0.tmod 300) / 8) :
    Calls Try.prog 8 #[.int .i64 a0, .int .i64 a1] w fun e w' => e = .returned (.bool true) ∧ Kept [] w w' := by
  go_enter Try.func8, Try.ntmps8
  go_wp2_with fail
  refine (awake_any w).mono ?_
  rintro e w1 ⟨rfl, hK⟩
  have HK : Hid (_) := hK
  clear hK
  go_wp2_with fail
  generalize a0.tmod 300 = r at *
  have hl : ((fresh r.toNat).seen.length : Int) = r := by simp [fresh]; omega
  refine (u_new w1 r g0 (by omega) g2).mono ?_
  rintro e w2 ⟨b, rfl, hm2⟩
  have hl2 : (((fresh r.toNat).store a1.toNat 1).seen.length : Int) = r := by rw [store_seen, List.length_set]; exact hl
  have hl3 : ((((fresh r.toNat).store a1.toNat 1).flush a1.toNat).seen.length : Int) = r := by rw [flush_seen]; exact hl2
  have HL : Hid (_ ∧ _ ∧ _) := ⟨hl, hl2, hl3⟩
  clear hl hl2 hl3
  have t1 : (r % 8 != 0) = false := by simp; omega
  go_wp2_with fail
  refine (u_store hm2 a1 1 h0 (by rw [HL.out.1]; omega) (by simp [fresh]) (by simp [fresh]) (by simp [fresh]) (by simp [fresh])).mono ?_
  rintro e w3 ⟨rfl, hm3⟩
  clear hm2
  go_wp2_with fail
  refine (u_flush hm3 a1 h0 (by rw [HL.out.2.1]; omega) (by rw [store_steps]; simp [fresh]) (by rw [store_steps]; simp [fresh])).mono ?_
  rintro e w4 ⟨rfl, hm4⟩
  clear hm3
  go_wp2_with fail
  refine (u_load hm4 a1 h0 (by rw [HL.out.2.2]; omega)).mono ?_
  rintro e w' ⟨rfl, rfl⟩
  have hKK := HK.out.trans hm4.1 (by simp)
  go_wp2_with (first
    | (go_at_call 11; refine (u_num _ _).mono ?_; rintro e w' ⟨rfl, rfl⟩)
    | (go_at_call 18; refine (u_words hm4).mono ?_; rintro e w' ⟨rfl, rfl⟩; rw [HL.out.2.2]))
  go_ret
  exact ⟨rfl, hKK⟩

set_option maxHeartbeats 2000000 in
theorem good_word (a0 a1 : Int) (w : World) (g0 : 8 ≤ a0.tmod 300) (g1 : a0.tmod 300 < 300) (g2 : (a0.tmod 300) % 8 = 0) (h0 : 0 ≤ a1) (h1 : (a0.tmod 300) / 8 ≤ a1) (h2 : a1 < a0.tmod 300) :
    Calls Try.prog 8 #[.int .i64 a0, .int .i64 a1] w fun e w' => e = .returned (.bool true) ∧ Kept [] w w' := by
  go_enter Try.func8, Try.ntmps8
  go_wp2_with fail
  refine (awake_any w).mono ?_
  rintro e w1 ⟨rfl, hK⟩
  have HK : Hid (_) := hK
  clear hK
  go_wp2_with fail
  generalize a0.tmod 300 = r at *
  have hl : ((fresh r.toNat).seen.length : Int) = r := by simp [fresh]; omega
  refine (u_new w1 r g0 (by omega) g2).mono ?_
  rintro e w2 ⟨b, rfl, hm2⟩
  have hl2 : (((fresh r.toNat).store a1.toNat 1).seen.length : Int) = r := by rw [store_seen, List.length_set]; exact hl
  have hl3 : (((fresh r.toNat).store a1.toNat 1).seen.length : Int) = r := by exact hl2
  have HL : Hid (_ ∧ _ ∧ _) := ⟨hl, hl2, hl3⟩
  clear hl hl2 hl3
  have t1 : (r % 8 != 0) = false := by simp; omega
  go_wp2_with fail
  refine (u_store hm2 a1 1 h0 (by rw [HL.out.1]; omega) (by simp [fresh]) (by simp [fresh]) (by simp [fresh]) (by simp [fresh])).mono ?_
  rintro e w3 ⟨rfl, hm3⟩
  clear hm2
  go_wp2_with fail
  refine (u_flush_no hm3 a1 (by rw [HL.out.2.1]; omega)).mono ?_
  rintro e w4 ⟨rfl, hm4⟩
  clear hm3
  go_wp2_with fail
  refine (u_load hm4 a1 h0 (by rw [HL.out.2.2]; omega)).mono ?_
  rintro e w' ⟨rfl, rfl⟩
  have hKK := HK.out.trans hm4.1 (by simp)
  go_wp2_with (first
    | (go_at_call 11; refine (u_num _ _).mono ?_; rintro e w' ⟨rfl, rfl⟩)
    | (go_at_call 18; refine (u_words hm4).mono ?_; rintro e w' ⟨rfl, rfl⟩; rw [HL.out.2.2]))
  go_ret
  have hfin : (!decide (a1 < r / 8)) = true := by simp; omega
  exact ⟨congrArg (fun x => Ending.returned (.bool x)) hfin, hKK⟩

set_option maxHeartbeats 2000000 in
theorem good_far (a0 a1 : Int) (w : World) (g0 : 8 ≤ a0.tmod 300) (g1 : a0.tmod 300 < 300) (g2 : (a0.tmod 300) % 8 = 0) (h0 : a0.tmod 300 ≤ a1) :
    Calls Try.prog 8 #[.int .i64 a0, .int .i64 a1] w fun e w' => e = .returned (.bool true) ∧ Kept [] w w' := by
  go_enter Try.func8, Try.ntmps8
  go_wp2_with fail
  refine (awake_any w).mono ?_
  rintro e w1 ⟨rfl, hK⟩
  have HK : Hid (_) := hK
  clear hK
  go_wp2_with fail
  generalize a0.tmod 300 = r at *
  have hl : ((fresh r.toNat).seen.length : Int) = r := by simp [fresh]; omega
  refine (u_new w1 r g0 (by omega) g2).mono ?_
  rintro e w2 ⟨b, rfl, hm2⟩
  have hl2 : ((fresh r.toNat).seen.length : Int) = r := by exact hl
  have hl3 : ((fresh r.toNat).seen.length : Int) = r := by exact hl
  have HL : Hid (_ ∧ _ ∧ _) := ⟨hl, hl2, hl3⟩
  clear hl hl2 hl3
  have t1 : (r % 8 != 0) = false := by simp; omega
  go_wp2_with fail
  refine (u_store_no hm2 a1 1 (by rw [HL.out.1]; omega)).mono ?_
  rintro e w3 ⟨rfl, hm3⟩
  clear hm2
  go_wp2_with fail
  refine (u_flush_no hm3 a1 (by rw [HL.out.1]; omega)).mono ?_
  rintro e w4 ⟨rfl, hm4⟩
  clear hm3
  go_wp2_with fail
  refine (u_load_no hm4 a1 (by rw [HL.out.1]; omega)).mono ?_
  rintro e w' ⟨rfl, rfl⟩
  have hKK := HK.out.trans hm4.1 (by simp)
  go_wp2_with (first
    | (go_at_call 11; refine (u_num _ _).mono ?_; rintro e w' ⟨rfl, rfl⟩)
    | (go_at_call 18; refine (u_words hm4).mono ?_; rintro e w' ⟨rfl, rfl⟩; rw [HL.out.2.2]))
  go_ret
  have hfin : (!decide (a1 < r) && !decide (a1 < r / 8) && !decide (a1 < r)) = true := by simp; omega
  exact ⟨congrArg (fun x => Ending.returned (.bool x)) hfin, hKK⟩

theorem walk (a0 a1 : Int) (w : World) : Calls Try.prog 8 #[.int .i64 a0, .int .i64 a1] w fun e w' => e = .returned (.bool true) ∧ Kept [] w w' := by
  have hr : a0.tmod 300 < 300 := by
    have := Int.tmod_lt_of_pos a0 (show (0 : Int) < 300 by decide)
    exact this
  by_cases h1 : a0.tmod 300 < 8
  · exact bad_small a0 a1 w h1
  · by_cases h2 : (a0.tmod 300) % 8 = 0
    · by_cases h3 : a1 < 0
      · exact good_neg a0 a1 w (by omega) hr h2 h3
      · by_cases h4 : a1 < (a0.tmod 300) / 8
        · exact good_line a0 a1 w (by omega) hr h2 (by omega) h4
        · by_cases h5 : a1 < a0.tmod 300
          · exact good_word a0 a1 w (by omega) hr h2 (by omega) (by omega) h5
          · exact good_far a0 a1 w (by omega) hr h2 (by omega)
    · exact bad_rem a0 a1 w (by omega) hr h2

set_option maxRecDepth 100000 in
theorem lifted (os : Os) (started : os.Started) (H : Type) (enc : TypeId × Value → H) :
    ReturnsInHanded {} Try.checked os 8 .any (Rows.pmemSizesSpec.pre6 enc Try.prog Try.f8 Rows.pmemSizesRow.domain false) (Rows.pmemSizesSpec.post enc Try.prog Try.f8 false true false false) := by
  refine returnsInHanded_of_change (C := Try.checked) own started (by kernel_rfl) Try.func8
    (ChangeSpec.witness6 (enc := enc) (C := Try.checked) false ⟨#[], #[.int .i64 0, .int .i64 0], []⟩ 8 (by kernel_rfl) (by kernel_rfl) (by kernel_rfl) (by kernel_rfl)) ?_
  intro W base args ds gs before hval0 hW hcnd _
  have hval : ∀ (j : Nat) t v, Try.f8.params[j]? = some t → args[j]? = some v → Value.okWide Try.prog W .any base t v := hval0
  have hW' := hW
  obtain ⟨p, q, hA0, hV, rfl, hfz, hnd⟩ := hW
  have hA : DataW.TrodAll enc Try.prog W 0 (fun _ => true) true Try.f8.params.toList args.toList ds p := hA0
  rw [Try.params8] at hA hval
  obtain ⟨v0, vs0, d0, ds0, p0, q0, hargs, rfl, rfl, h0, r0⟩ := trodAll_cons hA
  obtain ⟨v1, vs1, d1, ds1, p1, q1, rfl, rfl, rfl, h1, r1⟩ := trodAll_cons r0
  obtain ⟨rfl, rfl, rfl⟩ := trodAll_nil r1
  obtain rfl : args = #[v0, v1] := by cases args; simp_all
  obtain ⟨rfl, rfl⟩ := trodVars_none hV
  obtain ⟨a0, rfl, rfl, rfl, w0⟩ := open_int Try.underlying3 (hval 0 3 v0 rfl rfl) h0
  obtain ⟨a1, rfl, rfl, rfl, w1⟩ := open_int Try.underlying3 (hval 1 3 v1 rfl rfl) h1
  clear hA0 hval0
  simp only [List.append_nil] at hW'
  refine (walk a0 a1 W).mono fun e W' ⟨he, hg⟩ => ?_
  subst he
  exact ⟨_, rfl, _, _, _, [], [], [], hW', (trodAll_cons_mk (shut_bool Try.underlying4 _) trodAll_mk0), (trodAll_cons_mk (shut_int Try.underlying3 w0) (trodAll_cons_mk (shut_int Try.underlying3 w1) trodAll_mk0)), rfl,
    (hg.below (Nat.le_refl _) (by simp)).frame _, fun h => by cases h⟩

theorem over : Rows.pmemSizesRow.holds Try.pinned (OpenSpec.ofChange Rows.pmemSizesSpec) :=
  OpenClaim.holds_of_wide 8 Try.f8 rfl rfl rfl rfl rfl rfl rfl ⟨rfl, rfl, rfl, rfl, rfl⟩ rfl rfl rfl rfl rfl (by kernel_rfl) Try.func8 (by kernel_rfl)
    (of_decide_eq_true (by kernel_rfl)) (by unfold Func.isWrapper; first | (rw [if_pos (by decide +kernel)]; kernel_rfl) | (rw [if_neg (by decide +kernel)]; exact ⟨rfl, rfl⟩))
    (fun os started H enc _ => lifted os started H enc)

end Go.Proofs.Ytghcommbflfbnaa.pmemSizes

namespace Go.Proofs.Ytghcommbflfbnaa
theorem pmemSizes_holds : Rows.PmemSizesSaid := pmemSizes.over
#print axioms pmemSizes_holds
end Go.Proofs.Ytghcommbflfbnaa
