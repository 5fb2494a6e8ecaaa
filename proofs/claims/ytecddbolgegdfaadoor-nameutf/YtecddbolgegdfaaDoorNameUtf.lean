/-
  NameUtf: for every rune of two bytes that the law draws, all of its bytes must be there for a name, and each stray byte counts as one rune (P8.1, P8.2); no condition beyond the row's own.
-/
import Derived.Test.YtecddbolgegdfaaDoorRows
import Derived.Test.YtecddbolgegdfaaDoorCards
import Derived.Test.YtecddbolgegdfaaDoorTie
import Derived.Test.YtecddbolgegdfaaDoorLaid
import Derived.Test.YtecddbolgegdfaaDoorUt
import Derived.WalkKit
import Derived.ProofKit
import Derived.OpenShut
import Derived.ShutString
import Derived.ChangeOld
import Derived.Below
import Derived.Deep.Slices
import Derived.LaidMore
import Derived.Lay
import Derived.SizedLaws
import Derived.Laws.BytesArg
import Derived.Stop.Joined
import Derived.SevenTiedAt
namespace Go.Proofs.YtecddbolgegdfaaDoor.nameUtf
open Go.ChangeShapes Go.WideShapes Go.ChangeAt Go.RowKit
open Go.ChangeMaps (open_string shut_string)
set_option linter.unusedVariables false

set_option maxRecDepth 100000 in
set_option maxHeartbeats 2000000 in
theorem main (r : Int) (w : World) (hT : Tab w) :
    Calls Tryd.prog 7 #[.int .i64 r] w fun e w' => e = .returned (.bool true) ∧ Kept [] w w' := by
  obtain ⟨m, hm, hm2⟩ : ∃ m : Nat, (IntKind.u64.wrap r).tmod 1900 = (m : Int) ∧ m < 1900 := by
    have : 0 ≤ IntKind.u64.wrap r := by simp [IntKind.wrap, IntKind.signed, IntKind.bits]; omega
    obtain ⟨q, hq⟩ : ∃ q : Nat, IntKind.u64.wrap r = (q : Int) := ⟨(IntKind.u64.wrap r).toNat, by omega⟩
    refine ⟨q % 1900, ?_, Nat.mod_lt _ (by omega)⟩
    rw [hq]; rfl
  obtain ⟨q, hq⟩ : ∃ q : Nat, (128 + (m : Int)) / 64 = (q : Int) := ⟨(128 + m) / 64, by omega⟩
  obtain ⟨t, ht⟩ : ∃ t : Nat, (128 + (m : Int)) % 64 = (t : Int) := ⟨(128 + m) % 64, by omega⟩
  have hq0 : 2 ≤ q := by omega
  have hq1 : q < 32 := by omega
  have ht1 : t < 64 := by omega
  have hc : (q * 64 + t : Nat) = 128 + m := by omega
  obtain ⟨g1, g2, g3, g4, g5, g6, g7, g8, g9⟩ := utf_facts q t hq0 hq1 ht1
  rw [hc] at g3
  have z1 : (ab q t).size = 2 := strOfNums_size _
  have z2 : (ao q).size = 1 := strOfNums_size _
  have z3 : (at' t).size = 1 := strOfNums_size _
  have HT : Hid (Tab w) := hT
  clear hT hc
  go_enter Tryd.func7, Tryd.ntmps7
  go_wp2_with fail
  refine (awake_any w HT.out).mono ?_
  rintro e w1 ⟨rfl, hkk⟩
  have HK : Hid (Kept [] w w1) := hkk
  clear hkk
  obtain ⟨W, hW⟩ : ∃ W, w1.alloc (.cells #[.int .u8 (192 + (q : Int)), .int .u8 (128 + (t : Int))] 5) = W := ⟨_, rfl⟩
  have hB1 : Bs w W w1.heap.size [192 + (q : Int), 128 + (t : Int)] := by
    rw [← hW]
    exact ⟨HK.out.alloc _, HK.out.size, by show (w1.heap.push _)[w1.heap.size]? = _; simp⟩
  have hcv0 : (convert 30 9 (.slice (some ⟨w1.heap.size, 0, none⟩) 2 2)).run Tryd.prog W = .ok (.string (ab q t)) W := hB1.conv 2 rfl 2
  have hB2 : Bs w W.drew w1.heap.size [192 + (q : Int), 128 + (t : Int)] := ⟨hB1.kept.drew, hB1.new, hB1.here⟩
  have hcv1 : (convert 30 9 (.slice (some ⟨w1.heap.size, 0, none⟩) 1 2)).run Tryd.prog W.drew = .ok (.string (ao q)) W.drew :=
    run_convert_bytes_arg (P := Tryd.prog) W.drew 30 5 Tryd.underlying30 Tryd.underlying5 w1.heap.size 0 1 2 [192 + (q : Int)] rfl (fun i hi => by
      obtain rfl : i = 0 := by omega
      exact hB2.cell (by simp)) 9 Tryd.underlying9
  have hcv2 : (convert 30 9 (.slice (some ⟨w1.heap.size, 1, none⟩) 1 1)).run Tryd.prog W.drew = .ok (.string (at' t)) W.drew :=
    run_convert_bytes_arg (P := Tryd.prog) W.drew 30 5 Tryd.underlying30 Tryd.underlying5 w1.heap.size 1 1 1 [128 + (t : Int)] rfl (fun i hi => by
      obtain rfl : i = 0 := by omega
      exact hB2.cell (i := 1) (by simp)) 9 Tryd.underlying9
  obtain ⟨sb, hsb⟩ : ∃ x, ab q t = x := ⟨_, rfl⟩
  obtain ⟨so, hso⟩ : ∃ x, ao q = x := ⟨_, rfl⟩
  obtain ⟨st, hst⟩ : ∃ x, at' t = x := ⟨_, rfl⟩
  rw [hsb] at g1 g2 g3 g7 g8 g9 z1 hcv0
  rw [hso] at g4 g6 g8 z2 hcv1
  rw [hst] at g5 g9 z3 hcv2
  rw [show ((128 + m : Nat) : Int) = 128 + (m : Int) by omega] at g3
  have HG : Hid (_ ∧ _ ∧ _ ∧ _ ∧ _ ∧ _ ∧ _ ∧ _ ∧ _) := ⟨g1, g2, g3, g4, g5, g6, g7, g8, g9⟩
  have HW : Hid (_ ∧ _) := ⟨hW, hB2.kept⟩
  have z1' : sb.size ≤ 2 := by omega
  have z2' : so.size ≤ 2 := by omega
  have z3' : st.size ≤ 2 := by omega
  have z4' : (sb ++ st).size ≤ 4 := by rw [ByteArray.size_append]; omega
  rw [← hW] at hcv0
  clear g1 g2 g3 g4 g5 g6 g7 g8 g9 hsb hso hst hW hB1 hB2 HK z1 z2 z3 hq0 hq1 ht1
  have k1 : ¬ (128 + (m : Int)) < 128 := by omega
  have k2 : ¬ 2047 < (128 + (m : Int)) := by omega
  have k3 : decide ((128 + (m : Int)) < 128) = false := by simp; omega
  have k4 : decide (2047 < (128 + (m : Int))) = false := by simp; omega
  go_wp2_with fail
  rw [HW.out.1]
  clear hcv0
  go_region
  go_wp2_with fail
  have HK0 : Hid (Kept [] w W.drew) := HW.out.2
  obtain ⟨c, hc⟩ : ∃ c : Nat, 128 + (m : Int) = (c : Int) := ⟨128 + m, by omega⟩
  have hc2 : c < 2048 := by omega
  rw [hc] at HG ⊢
  have z5 : (sb ++ st ++ sb).size ≤ 6 := by rw [ByteArray.size_append]; omega
  clear hcv1 hcv2 HW hq ht hm k1 k2 k3 k4 hc hm2
  refine (n_may sb _ (HT.out.kept HK0.out)).mono ?_
  rintro e v0 ⟨rfl, hkk⟩
  have HK1 : Hid (Kept [] w v0) := HK0.out.trans hkk (by simp)
  clear hkk HK0
  rw [HG.out.1]
  go_wp2_with fail
  refine (n_runes sb _ (by omega)).mono ?_
  rintro e v1 ⟨rfl, hkk⟩
  have HK2 : Hid (Kept [] w v1) := HK1.out.trans hkk (by simp)
  clear hkk HK1
  rw [HG.out.2.1]
  go_wp2_with fail
  refine (n_hash sb _).mono ?_
  rintro e v2 ⟨rfl, hkk⟩
  have HK3 : Hid (Kept [] w v2) := HK2.out.trans hkk (by simp)
  clear hkk HK2
  rw [HG.out.2.2.1]
  obtain ⟨z, hz⟩ : ∃ z : Int, 217 + (c : Int) = z := ⟨_, rfl⟩
  rw [hz]
  have e1 : (z == (217 + (c : Int)) % 4294967296) = true := by simp; omega
  have e2 : (z == 217 + (c : Int)) = true := by simp; omega
  have e3 : (z == (217 + (c : Int)).tmod 4294967296) = true := by
    rw [Int.tmod_eq_emod_of_nonneg (by omega)]; exact e1
  clear hz
  go_wp2_with fail
  refine (n_may so _ (HT.out.kept HK3.out)).mono ?_
  rintro e v3 ⟨rfl, hkk⟩
  have HK4 : Hid (Kept [] w v3) := HK3.out.trans hkk (by simp)
  clear hkk HK3
  rw [HG.out.2.2.2.1]
  go_wp2_with fail
  refine (n_may st _ (HT.out.kept HK4.out)).mono ?_
  rintro e v4 ⟨rfl, hkk⟩
  have HK5 : Hid (Kept [] w v4) := HK4.out.trans hkk (by simp)
  clear hkk HK4
  rw [HG.out.2.2.2.2.1]
  go_wp2_with fail
  refine (n_hash so _).mono ?_
  rintro e v5 ⟨rfl, hkk⟩
  have HK6 : Hid (Kept [] w v5) := HK5.out.trans hkk (by simp)
  clear hkk HK5
  rw [HG.out.2.2.2.2.2.1]
  go_wp2_with fail
  refine (n_may _ _ (HT.out.kept HK6.out)).mono ?_
  rintro e v6 ⟨rfl, hkk⟩
  have HK7 : Hid (Kept [] w v6) := HK6.out.trans hkk (by simp)
  clear hkk HK6
  rw [HG.out.2.2.2.2.2.2.1]
  go_wp2_with fail
  refine (n_may _ _ (HT.out.kept HK7.out)).mono ?_
  rintro e v7 ⟨rfl, hkk⟩
  have HK8 : Hid (Kept [] w v7) := HK7.out.trans hkk (by simp)
  clear hkk HK7
  rw [HG.out.2.2.2.2.2.2.2.1]
  go_wp2_with fail
  refine (n_runes _ _ (by omega)).mono ?_
  rintro e v8 ⟨rfl, hkk⟩
  have HK9 : Hid (Kept [] w v8) := HK8.out.trans hkk (by simp)
  clear hkk HK8
  rw [HG.out.2.2.2.2.2.2.2.2]
  go_wp2_with fail
  go_ret
  exact ⟨rfl, HK9.out⟩

theorem walk (r : Int) (w : World) (hT : Tab w) (_ : (Lit.int .i64 r).wf = true) :
    Calls Tryd.prog 7 #[.int .i64 r] w fun e w' => e = .returned (.bool true) ∧ Below w.heap.size w w' :=
  (main r w hT).mono fun e w' ⟨he, hk⟩ => ⟨he, hk.below (Nat.le_refl _) (by simp)⟩

set_option maxRecDepth 100000 in
theorem lifted (os : Os) (started : os.Started) (H : Type) (enc : TypeId × Value → H) :
    ReturnsInHanded {} Tryd.checked os 7 .any (fun w args => (Rows.nameUtfSpec.pre enc Tryd.prog Tryd.f7 [] false w args ∧ laidMetH Tryd.prog laid2 w) ∧ sizedMet enc Tryd.prog Tryd.f7 (OpenSpec.ofChange Rows.nameUtfSpec) false w args)
      (Rows.nameUtfSpec.post enc Tryd.prog Tryd.f7 false true false false) := by
  refine returnsInHanded_of_change_and (C := Tryd.checked) (X := fun w _ => laidMetH Tryd.prog laid2 w) (fun _ _ _ hh h => h.of_heap hh) own started (by kernel_rfl) Tryd.func7
    (ChangeSpec.witness_shaped (enc := enc) (C := Tryd.checked) (os := os) (X := fun w _ => laidMetH Tryd.prog laid2 w) false (World.laidAll Tryd.prog os laid2) #[.int .i64 0] 8 (World.laidAll_os _ _ _) (World.shaped_of_ZipB (by kernel_rfl) (by kernel_rfl)) (by kernel_rfl) (by kernel_rfl) (by kernel_rfl) (met_laid os _)) ?_
  intro W base args ds gs before hval0 hW _ hsz0 hL _
  have hsz : (DataW.weightsEach Tryd.prog (Tryd.f7.params.toList ++ Rows.nameUtfSpec.plain.varTypes Tryd.prog) (ds ++ gs)).all (· ≤ reachBytes) = true := hsz0
  have hval : ∀ (j : Nat) t v, Tryd.f7.params[j]? = some t → args[j]? = some v → Value.okWide Tryd.prog W .any base t v := hval0
  have hW' := hW
  obtain ⟨p, q, hA0, hV, rfl, hfz, hnd⟩ := hW
  have hA : DataW.TrodAll enc Tryd.prog W 0 (fun _ => true) true Tryd.f7.params.toList args.toList ds p := hA0
  rw [Tryd.params7] at hA hval hsz
  obtain ⟨v0, vs0, d0, ds0, p0, q0, hargs, rfl, rfl, h0, r0⟩ := trodAll_cons hA
  obtain ⟨rfl, rfl, rfl⟩ := trodAll_nil r0
  obtain rfl : args = #[v0] := by cases args; simp_all
  obtain ⟨rfl, rfl⟩ := trodVars_none hV
  obtain ⟨a0, rfl, rfl, rfl, w0⟩ := open_int Tryd.underlying3 (hval 0 3 v0 rfl rfl) h0
  clear hA0 hval0
  refine (walk a0 W (of_laid hL) w0).mono fun e W' ⟨he, bel⟩ => ?_
  subst he
  simp only [List.append_nil] at hW'
  exact ⟨_, rfl, _, _, _, [], [], [], hW', (trodAll_cons_mk (shut_bool Tryd.underlying4 _) trodAll_mk0), (trodAll_cons_mk (shut_int Tryd.underlying3 w0) trodAll_mk0), rfl, bel.frame _, fun h => by cases h⟩

theorem over : Rows.nameUtfRow.holds Tryd.pinned (OpenSpec.ofChange Rows.nameUtfSpec) :=
  OpenClaim.holds_of_wide 7 Tryd.f7 rfl rfl rfl rfl rfl rfl rfl ⟨rfl, rfl, rfl, rfl, rfl⟩ rfl rfl rfl rfl rfl (by kernel_rfl) Tryd.func7 (by kernel_rfl)
    (of_decide_eq_true (by kernel_rfl)) (by unfold Func.isWrapper; first | (rw [if_pos (by decide +kernel)]; kernel_rfl) | (rw [if_neg (by decide +kernel)]; exact ⟨rfl, rfl⟩))
    (fun os started H enc _ => lifted os started H enc)

theorem card : Rows.NameUtfCardSaid :=
  Claim7.holds_tied_plain_at .later [] [.data, .pinned] true (true, "a19ee9f1284ada8f5c47f7762ea83e95fcdbdffd576c9b261bd8f54d32d6a93a") false
    over (fun _ h => by cases h) (by kernel_rfl) (fun _ h => by cases h) nameUtf_row_tie rfl ⟨rfl, rfl⟩ (by kernel_rfl) rfl
    (fun f fn hf hfn => by
      obtain rfl : f = 7 := Option.some.inj ((show Tryd.prog.funcNamed "concourse/concourselaw8.NameUtf" = some 7 by kernel_rfl).symm.trans hf) |>.symm
      obtain rfl : fn = Tryd.f7 := (Option.some.inj (Tryd.func7.symm.trans hfn)).symm
      exact ⟨by kernel_rfl, fun j t ht => by
        rw [Tryd.params7] at ht
        have hm : t ∈ [3] := by simpa using Array.mem_of_getElem? ht
        have hall : ([3].all fun u => !Tryd.prog.wantsStandIn u) = true := by kernel_rfl
        exact (show Tryd.prog.wantsStandIn t = false by simpa using List.all_eq_true.1 hall t hm)⟩)
    (by kernel_rfl)

end Go.Proofs.YtecddbolgegdfaaDoor.nameUtf

namespace Go.Proofs.YtecddbolgegdfaaDoor
theorem nameUtf_holds : Rows.NameUtfCardSaid := nameUtf.card
#print axioms nameUtf_holds
end Go.Proofs.YtecddbolgegdfaaDoor
