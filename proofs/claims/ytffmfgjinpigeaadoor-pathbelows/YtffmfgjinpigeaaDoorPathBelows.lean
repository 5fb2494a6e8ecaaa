/-
  PathBelows: a path lies below another just if it goes on from it.
-/
import Derived.Test.YtffmfgjinpigeaaDoorRows
import Derived.Test.YtffmfgjinpigeaaDoorCards
import Derived.Test.YtffmfgjinpigeaaDoorTie
import Derived.Test.YtffmfgjinpigeaaDoorSt
import Derived.WalkKit
import Derived.ProofKit
import Derived.OpenShut
import Derived.ShutString
import Derived.ChangeOld
import Derived.Below
import Derived.Deep.Slices
import Derived.LaidMore
import Derived.Lay
import Derived.SizedLaws
import Derived.Laws.BytesArg
import Derived.Stop.Joined
import Derived.SevenTiedAt
namespace Go.Proofs.YtffmfgjinpigeaaDoor.pathBelows
open Go.ChangeShapes Go.WideShapes Go.ChangeAt Go.RowKit
open Go.ChangeMaps (open_string shut_string)
set_option linter.unusedVariables false

theorem below_on {a t : ByteArray} {xs ys : List ByteArray} (ha : parseR a = (xs, 0)) (ht : parseR t = (xs ++ ys, 0)) : belowR a t = decide (0 < ys.length) := by
  unfold belowR
  rw [ha, ht]
  cases ys with
  | nil => simp
  | cons y l => simp

theorem below_root {a : ByteArray} {xs : List ByteArray} (ha : parseR a = (xs, 0)) : belowR ⟨#[47]⟩ a = decide (0 < xs.length) := below_on (xs := []) v_root ha

theorem below_one {a b : ByteArray} (h : belowR a b = true) : belowR b a = false := by
  rw [← Bool.not_eq_true]
  intro h2
  unfold belowR at h h2
  simp only [Bool.and_eq_true, decide_eq_true_eq] at h h2
  omega

set_option maxRecDepth 100000 in
set_option maxHeartbeats 4000000 in
theorem walk (a b : ByteArray) (w : World) (hT : Tab w) (hsa : a.size ≤ 140737488351232) (hsb : b.size ≤ 140737488351232) :
    Calls Tryd.prog 8 #[.string a, .string b] w fun e w' => e = .returned (.bool true) ∧ Below w.heap.size w w' := by
  have HT : Hid (Tab w) := hT
  clear hT
  have hfa := (parse_few a).1
  have hfb := (parse_few b).1
  obtain ⟨⟨xs, x⟩, hx⟩ : ∃ p, parseR a = p := ⟨_, rfl⟩
  obtain ⟨⟨ys, y⟩, hy⟩ : ∃ p, parseR b = p := ⟨_, rfl⟩
  obtain ⟨⟨t, z⟩, hz⟩ : ∃ p, printR (xs ++ ys) = p := ⟨_, rfl⟩
  rw [hx] at hfa
  rw [hy] at hfb
  simp only [] at hfa hfb
  have HX : Hid (parseR a = (xs, x)) := hx
  have HY : Hid (parseR b = (ys, y)) := hy
  have HZ : Hid (printR (xs ++ ys) = (t, z)) := hz
  have HP : Hid (z = 0 → parseR t = (xs ++ ys, 0)) := by
    show z = 0 → _
    intro h
    have := (parse_print (l := xs ++ ys) (by rw [hz]; exact h)).1
    rw [hz] at this
    exact this
  clear hx hy hz
  go_enter Tryd.func8, Tryd.ntmps8
  go_wp2_with fail
  refine (awake_any w HT.out).mono ?_
  rintro e w1 ⟨rfl, hk⟩
  have H1 : Hid (Kept [] w w1 ∧ Tab w1) := ⟨hk, HT.out.kept hk⟩
  clear hk HT
  go_wp2_with fail
  refine (p_parse a w1 H1.out.2).mono ?_
  rintro e w2 ⟨v, he, hS, hk⟩
  rw [HX.out] at he hS
  simp only [] at he hS
  subst he
  obtain ⟨a2, c2, hv, hr2, -⟩ := hS.read
  obtain ⟨n, hn⟩ : ∃ n, xs.length = n := ⟨_, rfl⟩
  rw [hn] at hv hfa
  subst hv
  have H2 : Hid (Ss w2 a2 xs ∧ n = xs.length ∧ Kept [] w w2 ∧ Tab w2) := ⟨hr2, hn.symm, H1.out.1.trans hk (by simp), H1.out.2.kept hk⟩
  clear hS hr2 hk H1 hn
  go_wp2_with fail
  refine (p_parse b w2 H2.out.2.2.2).mono ?_
  rintro e w3 ⟨v, he, hS, hk⟩
  rw [HY.out] at he hS
  simp only [] at he hS
  subst he
  obtain ⟨a3, c3, hv, hr3, -⟩ := hS.read
  obtain ⟨m, hm⟩ : ∃ m, ys.length = m := ⟨_, rfl⟩
  rw [hm] at hv hfb
  subst hv
  have H3 : Hid (Ss w3 a2 xs ∧ Ss w3 a3 ys ∧ n = xs.length ∧ m = ys.length ∧ Kept [] w w3 ∧ Tab w3) := ⟨H2.out.1.kept hk, hr3, H2.out.2.1, hm.symm, H2.out.2.2.1.trans hk (by simp), H2.out.2.2.2.kept hk⟩
  clear hS hr3 hk H2 hm
  -- the two appends
  have hk0 : Kept [] w3 (w3.alloc (.cells #[] 9)) := (Kept.refl [] w3).alloc _
  obtain ⟨v4, w4, hr4, h4, hg4⟩ := append_any (Sr.built w3 w3.heap.size (Nat.le_refl _)) (by have := hk0.size; omega) a2 n c2 H3.out.2.2.1 (H3.out.1.kept hk0) (by have := H3.out.2.2.1; simp; omega) 22
  have hk4 : Kept [] w3 w4 := hk0.trans hg4 fun x hx => Or.inr (by simp [Value.ownBlock] at hx; omega)
  rw [List.nil_append] at h4
  obtain ⟨v5, w5, hr5, h5, hg5⟩ := append_any h4 hk4.size a3 m c3 H3.out.2.2.2.1 (H3.out.2.1.kept hk4) (by have := H3.out.2.2.1; have := H3.out.2.2.2.1; omega) 22
  have hk5 : Kept [] w3 w5 := hk4.trans hg5 fun x hx => Or.inr (h4.block x (by simpa using hx)).1
  obtain ⟨a5, c5, hv5, hs5, -⟩ := h5.read
  obtain ⟨k, hk⟩ : ∃ k, (xs ++ ys).length = k := ⟨_, rfl⟩
  rw [hk] at hv5
  subst hv5
  obtain ⟨a4, n4, c4, hv4⟩ := h4.slice
  subst hv4
  have HA4 : Hid (_) := hr4
  have HA5 : Hid (_) := hr5
  have H5 : Hid (Ss w5 a5 (xs ++ ys) ∧ k = (xs ++ ys).length ∧ Kept [] w w5 ∧ Tab w5 ∧ n = xs.length ∧ m = ys.length) := ⟨hs5, hk.symm, H3.out.2.2.2.2.1.trans hk5 (by simp), H3.out.2.2.2.2.2.kept hk5, H3.out.2.2.1, H3.out.2.2.2.1⟩
  clear hk0 hr4 h4 hg4 hk4 hr5 h5 hg5 hk5 hs5 hk H3
  have tok1 : True := trivial
  go_wp2_with (first | (at_builtin; clear tok1; refine wpList_append_run _ rfl _ _ 22 22 rfl _ _ rfl rfl _ _ HA4.out ?_) | (at_builtin; refine wpList_append_run _ rfl _ _ 22 22 rfl _ _ rfl rfl _ _ HA5.out ?_))
  refine (p_print _ _ _ (xs ++ ys) w5 H5.out.2.2.2.1 H5.out.2.1 H5.out.1).mono ?_
  rintro e w6 ⟨he, hk⟩
  rw [HZ.out] at he
  simp only [] at he
  subst he
  have H6 : Hid (Kept [] w w6 ∧ Tab w6 ∧ n = xs.length ∧ m = ys.length) := ⟨H5.out.2.2.1.trans hk (by simp), H5.out.2.2.2.1.kept hk, H5.out.2.2.2.2⟩
  clear hk H5 HA4 HA5
  go_wp2_with fail
  refine (num_of _ _).mono ?_
  rintro e w7 ⟨rfl, hw⟩
  have hw2 := hw.symm
  subst hw2
  by_cases hx0 : x = 0
  · subst hx0
    go_wp2_with fail
    refine (num_of _ _).mono ?_
    rintro e w7 ⟨rfl, hw⟩
    have hw2 := hw.symm
    subst hw2
    by_cases hy0 : y = 0
    · subst hy0
      go_wp2_with fail
      refine (num_of _ _).mono ?_
      rintro e w7 ⟨rfl, hw⟩
      have hw2 := hw.symm
      subst hw2
      by_cases hz0 : z = 0
      · have HT : Hid (parseR t = (xs ++ ys, 0)) := HP.out hz0
        subst hz0
        have HB1 : Hid (belowR a t = decide (0 < m)) := by
          show belowR a t = _
          rw [below_on HX.out HT.out, ← H6.out.2.2.2]
        have HB2 : Hid (belowR ⟨#[47]⟩ a = decide (0 < n)) := by
          show belowR _ a = _
          rw [below_root HX.out, ← H6.out.2.2.1]
        clear HP HT HZ
        go_wp2_with fail
        refine (p_below a t w6 H6.out.2.1).mono ?_
        rintro e w7 ⟨rfl, hk⟩
        rw [HB1.out]
        have H7 : Hid (Kept [] w w7 ∧ Tab w7) := ⟨H6.out.1.trans hk (by simp), H6.out.2.1.kept hk⟩
        clear hk H6 HB1
        go_wp2_with fail
        refine (p_below a a w7 H7.out.2).mono ?_
        rintro e w8 ⟨rfl, hk⟩
        rw [belowR_self]
        have H8 : Hid (Kept [] w w8 ∧ Tab w8) := ⟨H7.out.1.trans hk (by simp), H7.out.2.kept hk⟩
        clear hk H7
        go_wp2_with fail
        refine (p_below _ a w8 H8.out.2).mono ?_
        rintro e w9 ⟨rfl, hk⟩
        rw [HB2.out]
        have H9 : Hid (Kept [] w w9 ∧ Tab w9) := ⟨H8.out.1.trans hk (by simp), H8.out.2.kept hk⟩
        clear hk H8 HB2
        go_wp2_with fail
        refine (p_below a b w9 H9.out.2).mono ?_
        rintro e w10 ⟨rfl, hk⟩
        have H10 : Hid (Kept [] w w10 ∧ Tab w10) := ⟨H9.out.1.trans hk (by simp), H9.out.2.kept hk⟩
        clear hk H9
        by_cases hab : belowR a b = true
        · rw [hab]
          have HBA : Hid (belowR b a = false) := below_one hab
          clear hab
          go_wp2_with fail
          refine (p_below b a w10 H10.out.2).mono ?_
          rintro e w11 ⟨rfl, hk⟩
          rw [HBA.out]
          have H11 : Hid (Below w.heap.size w w11) := (H10.out.1.trans hk (by simp)).below (Nat.le_refl _) (by simp)
          clear hk H10 HBA
          go_wp2_with fail
          go_ret
          exact ⟨rfl, H11.out⟩
        · have hab2 : belowR a b = false := by simpa using hab
          rw [hab2]
          clear hab hab2
          have H11 : Hid (Below w.heap.size w w10) := H10.out.1.below (Nat.le_refl _) (by simp)
          go_wp2_with fail
          go_ret
          exact ⟨rfl, H11.out⟩
      · have hzb : (z == 0) = false := by simpa using hz0
        have H7 : Hid (Below w.heap.size w w6) := H6.out.1.below (Nat.le_refl _) (by simp)
        go_wp2_with fail
        go_ret
        exact ⟨rfl, H7.out⟩
    · have hyb : (y == 0) = false := by simpa using hy0
      have H7 : Hid (Below w.heap.size w w6) := H6.out.1.below (Nat.le_refl _) (by simp)
      go_wp2_with fail
      go_ret
      exact ⟨rfl, H7.out⟩
  · have hxb : (x == 0) = false := by simpa using hx0
    have H7 : Hid (Below w.heap.size w w6) := H6.out.1.below (Nat.le_refl _) (by simp)
    go_wp2_with fail
    go_ret
    exact ⟨rfl, H7.out⟩

set_option maxRecDepth 100000 in
theorem lifted (os : Os) (started : os.Started) (H : Type) (enc : TypeId × Value → H) :
    ReturnsInHanded {} Tryd.checked os 8 .any (fun w args => (Rows.pathBelowsSpec.pre enc Tryd.prog Tryd.f8 [] false w args ∧ laidMetH Tryd.prog laid2 w) ∧ sizedMet enc Tryd.prog Tryd.f8 (OpenSpec.ofChange Rows.pathBelowsSpec) false w args)
      (Rows.pathBelowsSpec.post enc Tryd.prog Tryd.f8 false true false false) := by
  refine returnsInHanded_of_change_and (C := Tryd.checked) (X := fun w _ => laidMetH Tryd.prog laid2 w) (fun _ _ _ hh h => h.of_heap hh) own started (by kernel_rfl) Tryd.func8
    (ChangeSpec.witness_shaped (enc := enc) (C := Tryd.checked) (os := os) (X := fun w _ => laidMetH Tryd.prog laid2 w) false (World.laidAll Tryd.prog os laid2) #[.string ⟨#[]⟩, .string ⟨#[]⟩] 8 (World.laidAll_os _ _ _) (World.shaped_of_ZipB (by kernel_rfl) (by kernel_rfl)) (by kernel_rfl) (by kernel_rfl) (by kernel_rfl) (met_laid os _)) ?_
  intro W base args ds gs before hval0 hW _ hsz0 hL _
  have hsz : (DataW.weightsEach Tryd.prog (Tryd.f8.params.toList ++ Rows.pathBelowsSpec.plain.varTypes Tryd.prog) (ds ++ gs)).all (· ≤ reachBytes) = true := hsz0
  have hval : ∀ (j : Nat) t v, Tryd.f8.params[j]? = some t → args[j]? = some v → Value.okWide Tryd.prog W .any base t v := hval0
  have hW' := hW
  obtain ⟨p, q, hA0, hV, rfl, hfz, hnd⟩ := hW
  have hA : DataW.TrodAll enc Tryd.prog W 0 (fun _ => true) true Tryd.f8.params.toList args.toList ds p := hA0
  rw [Tryd.params8] at hA hval hsz
  obtain ⟨v0, vs0, d0, ds0, p0, q0, hargs, rfl, rfl, h0, r0⟩ := trodAll_cons hA
  obtain ⟨v1, vs1, d1, ds1, p1, q1, rfl, rfl, rfl, h1, r1⟩ := trodAll_cons r0
  obtain ⟨rfl, rfl, rfl⟩ := trodAll_nil r1
  obtain rfl : args = #[v0, v1] := by cases args; simp_all
  obtain ⟨rfl, rfl⟩ := trodVars_none hV
  obtain ⟨a0, rfl, rfl, rfl, m0⟩ := open_string Tryd.underlying9 (hval 0 9 v0 rfl rfl) h0
  have w0 : a0.size ≤ 140737488351232 := by have := sized_string hsz (j := 0) rfl rfl; simpa [reachBytes] using this
  obtain ⟨a1, rfl, rfl, rfl, m1⟩ := open_string Tryd.underlying9 (hval 1 9 v1 rfl rfl) h1
  have w1 : a1.size ≤ 140737488351232 := by have := sized_string hsz (j := 1) rfl rfl; simpa [reachBytes] using this
  clear hA0 hval0
  refine (walk a0 a1 W (of_laid hL) w0 w1).mono fun e W' ⟨he, bel⟩ => ?_
  subst he
  simp only [List.append_nil] at hW'
  exact ⟨_, rfl, _, _, _, [], [], [], hW', (trodAll_cons_mk (shut_bool Tryd.underlying4 _) trodAll_mk0), (trodAll_cons_mk (shut_string Tryd.underlying9 m0) (trodAll_cons_mk (shut_string Tryd.underlying9 m1) trodAll_mk0)), rfl, bel.frame _, fun h => by cases h⟩

theorem over : Rows.pathBelowsRow.holds Tryd.pinned (OpenSpec.ofChange Rows.pathBelowsSpec) :=
  OpenClaim.holds_of_wide 8 Tryd.f8 rfl rfl rfl rfl rfl rfl rfl ⟨rfl, rfl, rfl, rfl, rfl⟩ rfl rfl rfl rfl rfl (by kernel_rfl) Tryd.func8 (by kernel_rfl)
    (of_decide_eq_true (by kernel_rfl)) (by unfold Func.isWrapper; first | (rw [if_pos (by decide +kernel)]; kernel_rfl) | (rw [if_neg (by decide +kernel)]; exact ⟨rfl, rfl⟩))
    (fun os started H enc _ => lifted os started H enc)

theorem card : Rows.PathBelowsCardSaid :=
  Claim7.holds_tied_plain_at .later [] [.data, .pinned] true (true, "9e4aaf6cee642efeb51a8be85a17a31591f1cb05bc2a301100ccc79ecbe3d53b") false
    over (fun _ h => by cases h) (by kernel_rfl) (fun _ h => by cases h) pathBelows_row_tie rfl ⟨rfl, rfl⟩ (by kernel_rfl) rfl
    (fun f fn hf hfn => by
      obtain rfl : f = 8 := Option.some.inj ((show Tryd.prog.funcNamed "concourse/concourselaw11.PathBelows" = some 8 by kernel_rfl).symm.trans hf) |>.symm
      obtain rfl : fn = Tryd.f8 := (Option.some.inj (Tryd.func8.symm.trans hfn)).symm
      exact ⟨by kernel_rfl, fun j t ht => by
        rw [Tryd.params8] at ht
        have hm : t ∈ [9, 9] := by simpa using Array.mem_of_getElem? ht
        have hall : ([9, 9].all fun u => !Tryd.prog.wantsStandIn u) = true := by kernel_rfl
        exact (show Tryd.prog.wantsStandIn t = false by simpa using List.all_eq_true.1 hall t hm)⟩)
    (by kernel_rfl)

end Go.Proofs.YtffmfgjinpigeaaDoor.pathBelows

namespace Go.Proofs.YtffmfgjinpigeaaDoor
theorem pathBelows_holds : Rows.PathBelowsCardSaid := pathBelows.card
#print axioms pathBelows_holds
end Go.Proofs.YtffmfgjinpigeaaDoor
