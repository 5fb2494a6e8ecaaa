/-
  DirMoves: for all texts a, b and every number: a moved entry keeps its number, and its old name is free (P9.1); no condition beyond the row's own.
-/
import Derived.Test.YtnbbcbjfejdceaaDoorRows
import Derived.Test.YtnbbcbjfejdceaaDoorCards
import Derived.Test.YtnbbcbjfejdceaaDoorTie
import Derived.Test.YtnbbcbjfejdceaaDoorLaid
import Derived.Test.YtnbbcbjfejdceaaDoorWk
import Derived.WalkKit
import Derived.ProofKit
import Derived.OpenShut
import Derived.ShutString
import Derived.ChangeOld
import Derived.Below
import Derived.Deep.Slices
import Derived.LaidMore
import Derived.Lay
import Derived.SizedLaws
import Derived.Laws.BytesArg
import Derived.Stop.Joined
import Derived.SevenTiedAt
namespace Go.Proofs.YtnbbcbjfejdceaaDoor.dirMoves
open Go.ChangeShapes Go.WideShapes Go.ChangeAt Go.RowKit
open Go.ChangeMaps (open_string shut_string)
set_option linter.unusedVariables false

theorem and1023 (n : Int) : bits .and .i64 n 1023 = n % 1024 := by
  have h1 : (BitVec.ofInt 64 1023).toNat = 2 ^ 10 - 1 := by decide
  have key : (BitVec.ofInt 64 n &&& BitVec.ofInt 64 1023).toNat = (n % ((2 ^ 64 : Nat) : Int)).toNat % 2 ^ 10 := by
    rw [BitVec.toNat_and, BitVec.toNat_ofInt, h1, Nat.and_two_pow_sub_one_eq_mod]
  show IntKind.i64.wrap ((BitVec.ofInt 64 n &&& BitVec.ofInt 64 1023).toNat : Nat) = n % 1024
  rw [key, IntKind.wrap_i64]
  omega

theorem one_ne {s t : ByteArray} {x : Int} (h : s ≠ t) : ∀ y ∈ [((s, x) : En)], y.1 ≠ t := fun y hy => by
  rw [List.mem_singleton] at hy
  rw [hy]
  exact h

set_option maxRecDepth 100000 in
set_option maxHeartbeats 8000000 in
theorem main (s t : ByteArray) (num v : Int) (w : World) (hT : Tab w) (hv : wrap64 (1 + bits .and .i64 num 1023) = v) (hv1 : 1 ≤ v) (hv2 : v ≤ 1024) :
    Calls Tryd.prog 6 #[.string s, .string t, .int .i64 num] w fun e w' => e = .returned (.bool true) ∧ Kept [] w w' := by
  have HV : Hid (_) := hv
  have HT : Hid (Tab w) := hT
  clear hT hv
  go_enter Tryd.func6, Tryd.ntmps6
  go_wp2_with fail
  refine (awake_dir w HT.out).mono ?_
  rintro e w1 ⟨rfl, hk1⟩
  have HK : Hid (Kept [] w w1 ∧ Tab w1) := ⟨hk1, Tab.kept HT.out hk1⟩
  clear hk1 HT
  go_wp2_with fail
  refine (made_any w1 HK.out.2).mono ?_
  rintro e w2 ⟨b, g, rfl, h2⟩
  have H2 : Hid (_) := h2
  clear h2
  go_wp2_with fail
  rw [HV.out]
  obtain ⟨p, hp⟩ : ∃ p, chk s = p := ⟨_, rfl⟩
  obtain ⟨q, hq⟩ : ∃ q, chk t = q := ⟨_, rfl⟩
  have HP : Hid (chk s = p ∧ chk t = q) := ⟨hp, hq⟩
  clear hp hq
  obtain ⟨n, hn8, hn⟩ := bkt_nat s
  obtain ⟨m, hm8, hm⟩ := bkt_nat t
  have HN : Hid (_ ∧ _) := ⟨hn, hm⟩
  clear hn hm
  by_cases p0 : p = 0
  · subst p0
    refine (e_insert_ok H2.out 0 n s v HP.out.1 (by simp) (not_full (by simp) _ _) HN.out.1 (by omega) hv1 (by omega) (anyR _ _ _) (anyW _ _ _) (by omega)).mono ?_
    rintro e w3 ⟨rfl, h3⟩
    have H3 : Hid (Dd AnyT [(g, box b 0)] w1 w3 b g 0 4 1024 111 [(s, v)]) := h3
    clear h3 H2
    by_cases q0 : q = 0
    · subst q0
      by_cases hst : s = t
      · have es : (s.toList == t.toList) = true := by rw [hst]; simp
        have HST : Hid (_) := hst
        clear hst
        go_wp2_with fail
        refine (e_move_exist H3.out 1 s t v (by simp) ⟨v, by rw [← HST.out]; simp⟩ (by omega) (fun n _ => anyR _ _ n) (fun n _ => anyW _ _ n) (by omega)).mono ?_
        rintro e w4 ⟨rfl, h4⟩
        have H4 : Hid (_) := h4
        clear h4 H3
        go_wp2_with fail
        refine (e_find_yes H4.out 2 m t v (by rw [← HST.out]; simp) HN.out.2 (by omega) (anyR _ _ _) (by omega)).mono ?_
        rintro e w5 ⟨rfl, h5⟩
        have H5 : Hid (_) := h5
        clear h5 H4
        go_wp2_with fail
        refine (e_find_yes H5.out 3 n s v (by simp) HN.out.1 (by omega) (anyR _ _ _) (by omega)).mono ?_
        rintro e w6 ⟨rfl, h6⟩
        have H6 : Hid (_) := h6.old
        clear h6 H5
        go_wp2_with fail
        refine (f_check_any s w6).mono ?_
        rintro e w7 ⟨rfl, rfl⟩
        rw [HP.out.1]
        go_wp2_with fail
        refine (f_check_any t w7).mono ?_
        rintro e w8 ⟨rfl, rfl⟩
        rw [HP.out.2]
        go_wp2_with (first
          | (go_at_call 11; refine (num9 _ _).mono ?_; rintro e w' ⟨rfl, rfl⟩))
        go_ret
        exact ⟨rfl, HK.out.1.trans H6.out (by simp)⟩
      · have es : (s.toList == t.toList) = false := by
          rw [← Bool.not_eq_true, beq_iff_eq]
          exact fun h => hst (toList_inj h)
        have es2 : ¬ s.toList = t.toList := fun h => hst (toList_inj h)
        have HST : Hid (_) := hst
        clear hst
        go_wp2_with fail
        refine (e_move_ok H3.out 1 s t v HP.out.2 (by simp) (one_ne HST.out) (not_full (by simp) _ _) (by omega) (fun n _ => anyR _ _ n) (fun n _ => anyW _ _ n) (by omega)).mono ?_
        rintro e w4 ⟨rfl, h4⟩
        rw [drop_one] at h4
        have H4 : Hid (Dd AnyT [(g, box b 0)] w1 w4 b g 0 4 1024 (111 + 30) [(t, v)]) := h4
        clear h4 H3
        go_wp2_with fail
        refine (e_find_yes H4.out 2 m t v (by simp) HN.out.2 (by omega) (anyR _ _ _) (by omega)).mono ?_
        rintro e w5 ⟨rfl, h5⟩
        have H5 : Hid (_) := h5
        clear h5 H4
        go_wp2_with fail
        refine (e_find_no H5.out 3 n s HP.out.1 (one_ne (Ne.symm HST.out)) HN.out.1 (by omega) (anyR _ _ _) (by omega)).mono ?_
        rintro e w6 ⟨rfl, h6⟩
        have H6 : Hid (_) := h6
        clear h6 H5
        go_wp2_with fail
        refine (f_check_any s w6).mono ?_
        rintro e w7 ⟨rfl, hw7⟩
        subst hw7
        rw [HP.out.1]
        go_wp2_with fail
        refine (f_check_any t w7).mono ?_
        rintro e w8 ⟨rfl, hw8⟩
        subst hw8
        rw [HP.out.2]
        go_wp2_with fail
        refine (e_insert_ok H6.out 0 n s (v + 1) HP.out.1 (one_ne (Ne.symm HST.out)) (not_full (by simp) _ _) HN.out.1 (by omega) (by omega) (by omega) (anyR _ _ _) (anyW _ _ _) (by omega)).mono ?_
        rintro e w9 ⟨rfl, h9⟩
        have H9 : Hid (_) := h9
        have HL : Hid ((putE [(t, v)] (s, v + 1)).length = 2) := put_length _ _
        clear h9 H6
        go_wp2_with (first
          | (go_at_call 11; refine (num9 _ _).mono ?_; rintro e w' ⟨rfl, rfl⟩))
        refine (e_list H9.out 0 (by omega) (fun n _ => anyR _ _ n) (by omega)).mono ?_
        rintro e w10 ⟨u, D, rfl, hu, h10, -⟩
        obtain ⟨ua, uc, rfl⟩ := hu.slice
        rw [HL.out]
        have H10 : Hid (_) := h10.old
        clear hu h10 H9
        go_wp2_with fail
        go_ret
        exact ⟨rfl, HK.out.1.trans H10.out (by simp)⟩
    · have q1 : (q != 0) = true := by simpa using q0
      have q2 : (q == 0) = false := by simpa using q0
      go_wp2_with fail
      refine (e_move_bad H3.out 1 s t (by rw [HP.out.1, HP.out.2]; omega)).mono ?_
      rintro e w4 ⟨rfl, h4⟩
      have H4 : Hid (_) := h4
      clear h4 H3
      go_wp2_with fail
      refine (e_find_bad H4.out 2 t (by rw [HP.out.2]; omega)).mono ?_
      rintro e w5 ⟨rfl, h5⟩
      have H5 : Hid (_) := h5
      clear h5 H4
      go_wp2_with fail
      refine (e_find_yes H5.out 3 n s v (by simp) HN.out.1 (by omega) (anyR _ _ _) (by omega)).mono ?_
      rintro e w6 ⟨rfl, h6⟩
      have H6 : Hid (_) := h6.old
      clear h6 H5
      go_wp2_with fail
      refine (f_check_any s w6).mono ?_
      rintro e w7 ⟨rfl, rfl⟩
      rw [HP.out.1]
      go_wp2_with fail
      refine (f_check_any t w7).mono ?_
      rintro e w8 ⟨rfl, rfl⟩
      rw [HP.out.2]
      go_wp2_with (first
        | (go_at_call 11; refine (num9 _ _).mono ?_; rintro e w' ⟨rfl, rfl⟩))
      go_ret
      exact ⟨rfl, HK.out.1.trans H6.out (by simp)⟩
  · have p1 : (p != 0) = true := by simpa using p0
    have p2 : (p == 0) = false := by simpa using p0
    refine (e_insert_bad H2.out 0 s v (by rw [HP.out.1]; omega)).mono ?_
    rintro e w3 ⟨rfl, h3⟩
    have H3 : Hid (_) := h3
    clear h3 H2
    go_wp2_with fail
    refine (e_move_bad H3.out 1 s t (by rw [HP.out.1]; omega)).mono ?_
    rintro e w4 ⟨rfl, h4⟩
    have H4 : Hid (_) := h4
    clear h4 H3
    go_wp2_with fail
    refine (find_any H4.out 2 t (by omega) (by omega) (fun n _ _ => anyR _ _ n)).mono ?_
    rintro e w5 ⟨x, z, rfl, -, h5⟩
    have H5 : Hid (_) := h5
    clear h5 H4
    go_wp2_with fail
    refine (e_find_bad H5.out 3 s (by rw [HP.out.1]; omega)).mono ?_
    rintro e w6 ⟨rfl, h6⟩
    have H6 : Hid (_) := h6.old
    clear h6 H5
    go_wp2_with fail
    refine (f_check_any s w6).mono ?_
    rintro e w7 ⟨rfl, rfl⟩
    rw [HP.out.1]
    go_wp2_with (first
      | (go_at_call 11; refine (num9 _ _).mono ?_; rintro e w' ⟨rfl, rfl⟩))
    go_ret
    exact ⟨rfl, HK.out.1.trans H6.out (by simp)⟩

theorem walk (s t : ByteArray) (num : Int) (w : World) (hT : Tab w) (_ : s.size ≤ 140737488351232) (_ : t.size ≤ 140737488351232) (_ : (Lit.int .i64 num).wf = true) :
    Calls Tryd.prog 6 #[.string s, .string t, .int .i64 num] w fun e w' => e = .returned (.bool true) ∧ Below w.heap.size w w' := by
  refine (main s t num (1 + num % 1024) w hT ?_ (by omega) (by omega)).mono fun e w' ⟨he, hk⟩ => ⟨he, hk.below (Nat.le_refl _) (by simp)⟩
  rw [and1023, wrap_small _ (by omega) (by omega)]

set_option maxRecDepth 100000 in
theorem lifted (os : Os) (started : os.Started) (H : Type) (enc : TypeId × Value → H) :
    ReturnsInHanded {} Tryd.checked os 6 .any (fun w args => (Rows.dirMovesSpec.pre enc Tryd.prog Tryd.f6 [] false w args ∧ laidMetH Tryd.prog laid2 w) ∧ sizedMet enc Tryd.prog Tryd.f6 (OpenSpec.ofChange Rows.dirMovesSpec) false w args)
      (Rows.dirMovesSpec.post enc Tryd.prog Tryd.f6 false true false false) := by
  refine returnsInHanded_of_change_and (C := Tryd.checked) (X := fun w _ => laidMetH Tryd.prog laid2 w) (fun _ _ _ hh h => h.of_heap hh) own started (by kernel_rfl) Tryd.func6
    (ChangeSpec.witness_shaped (enc := enc) (C := Tryd.checked) (os := os) (X := fun w _ => laidMetH Tryd.prog laid2 w) false (World.laidAll Tryd.prog os laid2) #[.string ⟨#[]⟩, .string ⟨#[]⟩, .int .i64 0] 8 (World.laidAll_os _ _ _) (World.shaped_of_ZipB (by kernel_rfl) (by kernel_rfl)) (by kernel_rfl) (by kernel_rfl) (by kernel_rfl) (met_laid os _)) ?_
  intro W base args ds gs before hval0 hW _ hsz0 hL _
  have hsz : (DataW.weightsEach Tryd.prog (Tryd.f6.params.toList ++ Rows.dirMovesSpec.plain.varTypes Tryd.prog) (ds ++ gs)).all (· ≤ reachBytes) = true := hsz0
  have hval : ∀ (j : Nat) t v, Tryd.f6.params[j]? = some t → args[j]? = some v → Value.okWide Tryd.prog W .any base t v := hval0
  have hW' := hW
  obtain ⟨p, q, hA0, hV, rfl, hfz, hnd⟩ := hW
  have hA : DataW.TrodAll enc Tryd.prog W 0 (fun _ => true) true Tryd.f6.params.toList args.toList ds p := hA0
  rw [Tryd.params6] at hA hval hsz
  obtain ⟨v0, vs0, d0, ds0, p0, q0, hargs, rfl, rfl, h0, r0⟩ := trodAll_cons hA
  obtain ⟨v1, vs1, d1, ds1, p1, q1, rfl, rfl, rfl, h1, r1⟩ := trodAll_cons r0
  obtain ⟨v2, vs2, d2, ds2, p2, q2, rfl, rfl, rfl, h2, r2⟩ := trodAll_cons r1
  obtain ⟨rfl, rfl, rfl⟩ := trodAll_nil r2
  obtain rfl : args = #[v0, v1, v2] := by cases args; simp_all
  obtain ⟨rfl, rfl⟩ := trodVars_none hV
  obtain ⟨a0, rfl, rfl, rfl, m0⟩ := open_string Tryd.underlying9 (hval 0 9 v0 rfl rfl) h0
  have w0 : a0.size ≤ 140737488351232 := by have := sized_string hsz (j := 0) rfl rfl; simpa [reachBytes] using this
  obtain ⟨a1, rfl, rfl, rfl, m1⟩ := open_string Tryd.underlying9 (hval 1 9 v1 rfl rfl) h1
  have w1 : a1.size ≤ 140737488351232 := by have := sized_string hsz (j := 1) rfl rfl; simpa [reachBytes] using this
  obtain ⟨a2, rfl, rfl, rfl, w2⟩ := open_int Tryd.underlying3 (hval 2 3 v2 rfl rfl) h2
  clear hA0 hval0
  refine (walk a0 a1 a2 W (of_laid hL) w0 w1 w2).mono fun e W' ⟨he, bel⟩ => ?_
  subst he
  simp only [List.append_nil] at hW'
  exact ⟨_, rfl, _, _, _, [], [], [], hW', (trodAll_cons_mk (shut_bool Tryd.underlying4 _) trodAll_mk0), (trodAll_cons_mk (shut_string Tryd.underlying9 m0) (trodAll_cons_mk (shut_string Tryd.underlying9 m1) (trodAll_cons_mk (shut_int Tryd.underlying3 w2) trodAll_mk0))), rfl, bel.frame _, fun h => by cases h⟩

theorem over : Rows.dirMovesRow.holds Tryd.pinned (OpenSpec.ofChange Rows.dirMovesSpec) :=
  OpenClaim.holds_of_wide 6 Tryd.f6 rfl rfl rfl rfl rfl rfl rfl ⟨rfl, rfl, rfl, rfl, rfl⟩ rfl rfl rfl rfl rfl (by kernel_rfl) Tryd.func6 (by kernel_rfl)
    (of_decide_eq_true (by kernel_rfl)) (by unfold Func.isWrapper; first | (rw [if_pos (by decide +kernel)]; kernel_rfl) | (rw [if_neg (by decide +kernel)]; exact ⟨rfl, rfl⟩))
    (fun os started H enc _ => lifted os started H enc)

theorem card : Rows.DirMovesCardSaid :=
  Claim7.holds_tied_plain_at .later [] [.data, .pinned] true (true, "b52752b4ad1ea57d169ecc7371ec3f9f9e5e71061f90f46f4a0915212379700a") true
    over (fun _ h => by cases h) (by kernel_rfl) (fun _ h => by cases h) dirMoves_row_tie rfl ⟨rfl, rfl⟩ (by kernel_rfl) rfl
    (fun f fn hf hfn => by
      obtain rfl : f = 6 := Option.some.inj ((show Tryd.prog.funcNamed "concourse/concourselaw9.DirMoves" = some 6 by kernel_rfl).symm.trans hf) |>.symm
      obtain rfl : fn = Tryd.f6 := (Option.some.inj (Tryd.func6.symm.trans hfn)).symm
      exact ⟨by kernel_rfl, fun j t ht => by
        rw [Tryd.params6] at ht
        have hm : t ∈ [9, 9, 3] := by simpa using Array.mem_of_getElem? ht
        have hall : ([9, 9, 3].all fun u => !Tryd.prog.wantsStandIn u) = true := by kernel_rfl
        exact (show Tryd.prog.wantsStandIn t = false by simpa using List.all_eq_true.1 hall t hm)⟩)
    (by kernel_rfl)

end Go.Proofs.YtnbbcbjfejdceaaDoor.dirMoves

namespace Go.Proofs.YtnbbcbjfejdceaaDoor
theorem dirMoves_holds : Rows.DirMovesCardSaid := dirMoves.card
#print axioms dirMoves_holds
end Go.Proofs.YtnbbcbjfejdceaaDoor
