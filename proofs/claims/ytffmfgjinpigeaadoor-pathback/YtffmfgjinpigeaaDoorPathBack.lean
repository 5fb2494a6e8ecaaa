/-
  PathBack: names that are printed are parsed back, and what is parsed is printed as it stood.
-/
import Derived.Test.YtffmfgjinpigeaaDoorRows
import Derived.Test.YtffmfgjinpigeaaDoorCards
import Derived.Test.YtffmfgjinpigeaaDoorTie
import Derived.Test.YtffmfgjinpigeaaDoorSt
import Derived.WalkKit
import Derived.ProofKit
import Derived.OpenShut
import Derived.ShutString
import Derived.ChangeOld
import Derived.Below
import Derived.Deep.Slices
import Derived.LaidMore
import Derived.Lay
import Derived.SizedLaws
import Derived.Laws.BytesArg
import Derived.Stop.Joined
import Derived.SevenTiedAt
namespace Go.Proofs.YtffmfgjinpigeaaDoor.pathBack
open Go.ChangeShapes Go.WideShapes Go.ChangeAt Go.RowKit
open Go.ChangeMaps (open_string shut_string)
set_option linter.unusedVariables false

set_option maxRecDepth 100000 in
set_option maxHeartbeats 4000000 in
theorem walk (a : Option Addr) (len cap : Nat) (l : List ByteArray) (s : ByteArray) (w : World) (hT : Tab w) (h0 : IsStrs w a len l) (hs : s.size ≤ 140737488351232) :
    Calls Tryd.prog 5 #[.slice a len cap, .string s] w fun e w' => e = .returned (.bool true) ∧ Below w.heap.size w w' := by
  obtain ⟨hl, hS, hz, hb, -⟩ := h0
  have hlen63 : len ≤ 9223372036854775807 := by have := hS.1; omega
  have HI : Hid (len = l.length ∧ Ss w a l ∧ Tab w) := ⟨hl, hS, hT⟩
  clear hl hS hz hb hT
  obtain ⟨⟨t, x⟩, hx⟩ : ∃ p, printR l = p := ⟨_, rfl⟩
  have HX : Hid (printR l = (t, x)) := hx
  clear hx
  obtain ⟨⟨ys, y⟩, hy⟩ : ∃ p, parseR s = p := ⟨_, rfl⟩
  have HY : Hid (parseR s = (ys, y)) := hy
  have HB : Hid (y ≠ 0 → ys = []) := by
    have := (parse_few s).2.1
    rw [hy] at this
    exact this
  have HP : Hid (y = 0 → printR ys = (s, 0)) := fun h => by
    have := print_parse (s := s) (by rw [hy]; exact h)
    rw [hy] at this
    exact this
  clear hy
  go_enter Tryd.func5, Tryd.ntmps5
  go_wp2_with fail
  refine (awake_any w HI.out.2.2).mono ?_
  rintro e w1 ⟨rfl, hk⟩
  have H1 : Hid (Ss w1 a l ∧ Kept [] w w1 ∧ Tab w1) := ⟨HI.out.2.1.kept hk, hk, HI.out.2.2.kept hk⟩
  clear hk
  go_wp2_with fail
  refine (p_print _ _ _ l w1 H1.out.2.2 HI.out.1 H1.out.1).mono ?_
  rintro e w2 ⟨he, hk⟩
  rw [HX.out] at he
  simp only [] at he
  subst he
  have H2 : Hid (Ss w2 a l ∧ Kept [] w w2 ∧ Tab w2) := ⟨H1.out.1.kept hk, H1.out.2.1.trans hk (by simp), H1.out.2.2.kept hk⟩
  clear hk H1
  go_wp2_with fail
  refine (num_of _ _).mono ?_
  rintro e w3 ⟨rfl, hw⟩
  have hw2 := hw.symm
  subst hw2
  by_cases hx0 : x = 0
  · subst hx0
    have hpp := parse_print (l := l) (by rw [HX.out])
    rw [HX.out] at hpp
    simp only [] at hpp
    obtain ⟨hp1, hp2, hp3, hp4⟩ := hpp
    have htz : t.size ≤ 52 := by
      have := join_long hp2 hp3
      have h5 := congrArg Prod.fst hp4
      simp only [] at h5
      rw [h5]; exact this
    have k1 : ¬ (64 : Int) < (t.size : Int) := by omega
    have k2 : ¬ (4 : Int) < (len : Int) := by have := HI.out.1; omega
    have HQ : Hid (parseR t = (l, 0)) := hp1
    clear hp1 hp2 hp3 hp4
    go_wp2_with fail
    refine (p_parse t w2 H2.out.2.2).mono ?_
    rintro e w3 ⟨v, he, hS, hk⟩
    rw [HQ.out] at he hS
    simp only [] at he hS
    subst he
    obtain ⟨a3, c3, hv, hr3, -⟩ := hS.read
    rw [← HI.out.1] at hv
    subst hv
    have H3 : Hid (Ss w3 a3 l ∧ Ss w3 a l ∧ Kept [] w w3 ∧ Tab w3) := ⟨hr3, H2.out.1.kept hk, H2.out.2.1.trans hk (by simp), H2.out.2.2.kept hk⟩
    clear hS hr3 hk H2
    go_wp2_with fail
    refine (num_of _ _).mono ?_
    rintro e w4 ⟨rfl, hw⟩
    have hw2 := hw.symm
    subst hw2
    go_wp2_with fail
    refine (same_texts _ _ _ _ _ _ l l w3 HI.out.1 HI.out.1 H3.out.1 H3.out.2.1).mono ?_
    rintro e w4 ⟨rfl, q, hw⟩
    rw [show decide (l = l) = true from decide_eq_true rfl]
    have hk4 : Kept [] w3 w4 := by rw [hw]; exact (Kept.refl [] w3).drewN q
    have H4 : Hid (Kept [] w w4 ∧ Tab w4) := ⟨H3.out.2.2.1.trans hk4 (by simp), H3.out.2.2.2.kept hk4⟩
    clear hw hk4 H3
    go_wp2_with fail
    refine (p_parse s w4 H4.out.2).mono ?_
    rintro e w5 ⟨v, he, hS, hk⟩
    rw [HY.out] at he hS
    simp only [] at he hS
    subst he
    obtain ⟨a5, c5, hv, hr5, -⟩ := hS.read
    obtain ⟨n, hn⟩ : ∃ n, ys.length = n := ⟨_, rfl⟩
    rw [hn] at hv
    subst hv
    have H5 : Hid (Ss w5 a5 ys ∧ n = ys.length ∧ Kept [] w w5 ∧ Tab w5) := ⟨hr5, hn.symm, H4.out.1.trans hk (by simp), H4.out.2.kept hk⟩
    clear hS hr5 hk H4 hn
    go_wp2_with fail
    refine (num_of _ _).mono ?_
    rintro e w6 ⟨rfl, hw⟩
    have hw2 := hw.symm
    subst hw2
    by_cases hy0 : y = 0
    · subst hy0
      go_wp2_with fail
      refine (p_print _ _ _ ys w5 H5.out.2.2.2 H5.out.2.1 H5.out.1).mono ?_
      rintro e w6 ⟨he, hk⟩
      rw [HP.out (by simp)] at he
      simp only [] at he
      subst he
      have H6 : Hid (Below w.heap.size w w6) := (H5.out.2.2.1.trans hk (by simp)).below (Nat.le_refl _) (by simp)
      clear hk H5
      go_wp2_with fail
      refine (num_of _ _).mono ?_
      rintro e w7 ⟨rfl, hw⟩
      have hw2 := hw.symm
      subst hw2
      have hself : (s.toList == s.toList) = true := by simp
      go_wp2_with fail
      go_ret
      exact ⟨rfl, H6.out⟩
    · have hyb : (y == 0) = false := by simpa using hy0
      have hn0 : n = 0 := by have h1 := H5.out.2.1; rw [HB.out hy0] at h1; exact h1
      subst hn0
      have H6 : Hid (Below w.heap.size w w5) := H5.out.2.2.1.below (Nat.le_refl _) (by simp)
      go_wp2_with fail
      go_ret
      exact ⟨rfl, H6.out⟩
  · have hxb : (x == 0) = false := by simpa using hx0
    have H4 : Hid (Kept [] w w2 ∧ Tab w2) := H2.out.2
    go_wp2_with fail
    refine (p_parse s w2 H4.out.2).mono ?_
    rintro e w5 ⟨v, he, hS, hk⟩
    rw [HY.out] at he hS
    simp only [] at he hS
    subst he
    obtain ⟨a5, c5, hv, hr5, -⟩ := hS.read
    obtain ⟨n, hn⟩ : ∃ n, ys.length = n := ⟨_, rfl⟩
    rw [hn] at hv
    subst hv
    have H5 : Hid (Ss w5 a5 ys ∧ n = ys.length ∧ Kept [] w w5 ∧ Tab w5) := ⟨hr5, hn.symm, H4.out.1.trans hk (by simp), H4.out.2.kept hk⟩
    clear hS hr5 hk H4 hn
    go_wp2_with fail
    refine (num_of _ _).mono ?_
    rintro e w6 ⟨rfl, hw⟩
    have hw2 := hw.symm
    subst hw2
    by_cases hy0 : y = 0
    · subst hy0
      go_wp2_with fail
      refine (p_print _ _ _ ys w5 H5.out.2.2.2 H5.out.2.1 H5.out.1).mono ?_
      rintro e w6 ⟨he, hk⟩
      rw [HP.out (by simp)] at he
      simp only [] at he
      subst he
      have H6 : Hid (Below w.heap.size w w6) := (H5.out.2.2.1.trans hk (by simp)).below (Nat.le_refl _) (by simp)
      clear hk H5
      go_wp2_with fail
      refine (num_of _ _).mono ?_
      rintro e w7 ⟨rfl, hw⟩
      have hw2 := hw.symm
      subst hw2
      have hself : (s.toList == s.toList) = true := by simp
      go_wp2_with fail
      go_ret
      exact ⟨rfl, H6.out⟩
    · have hyb : (y == 0) = false := by simpa using hy0
      have hn0 : n = 0 := by have h1 := H5.out.2.1; rw [HB.out hy0] at h1; exact h1
      subst hn0
      have H6 : Hid (Below w.heap.size w w5) := H5.out.2.2.1.below (Nat.le_refl _) (by simp)
      go_wp2_with fail
      go_ret
      exact ⟨rfl, H6.out⟩

set_option maxRecDepth 100000 in
theorem lifted (os : Os) (started : os.Started) (H : Type) (enc : TypeId × Value → H) :
    ReturnsInHanded {} Tryd.checked os 5 .any (fun w args => (Rows.pathBackSpec.pre enc Tryd.prog Tryd.f5 [] false w args ∧ laidMetH Tryd.prog laid2 w) ∧ sizedMet enc Tryd.prog Tryd.f5 (OpenSpec.ofChange Rows.pathBackSpec) false w args)
      (Rows.pathBackSpec.post enc Tryd.prog Tryd.f5 false true false false) := by
  refine returnsInHanded_of_change_and (C := Tryd.checked) (X := fun w _ => laidMetH Tryd.prog laid2 w) (fun _ _ _ hh h => h.of_heap hh) own started (by kernel_rfl) Tryd.func5
    (ChangeSpec.witness_shaped (enc := enc) (C := Tryd.checked) (os := os) (X := fun w _ => laidMetH Tryd.prog laid2 w) false (World.laidAll Tryd.prog os laid2) #[.slice none 0 0, .string ⟨#[]⟩] 8 (World.laidAll_os _ _ _) (World.shaped_of_ZipB (by kernel_rfl) (by kernel_rfl)) (by kernel_rfl) (by kernel_rfl) (by kernel_rfl) (met_laid os _)) ?_
  intro W base args ds gs before hval0 hW _ hsz0 hL _
  have hsz : (DataW.weightsEach Tryd.prog (Tryd.f5.params.toList ++ Rows.pathBackSpec.plain.varTypes Tryd.prog) (ds ++ gs)).all (· ≤ reachBytes) = true := hsz0
  have hval : ∀ (j : Nat) t v, Tryd.f5.params[j]? = some t → args[j]? = some v → Value.okWide Tryd.prog W .any base t v := hval0
  have hW' := hW
  obtain ⟨p, q, hA0, hV, rfl, hfz, hnd⟩ := hW
  have hA : DataW.TrodAll enc Tryd.prog W 0 (fun _ => true) true Tryd.f5.params.toList args.toList ds p := hA0
  rw [Tryd.params5] at hA hval hsz
  obtain ⟨v0, vs0, d0, ds0, p0, q0, hargs, rfl, rfl, h0, r0⟩ := trodAll_cons hA
  obtain ⟨v1, vs1, d1, ds1, p1, q1, rfl, rfl, rfl, h1, r1⟩ := trodAll_cons r0
  obtain ⟨rfl, rfl, rfl⟩ := trodAll_nil r1
  obtain rfl : args = #[v0, v1] := by cases args; simp_all
  obtain ⟨rfl, rfl⟩ := trodVars_none hV
  obtain ⟨a0, len0, cap0, rfl⟩ := okWide_slice Tryd.underlying22 (hval 0 22 v0 rfl rfl)
  have k0 := h0
  have lt0 : ∀ x ∈ p0, x.block < W.heap.size := by obtain ⟨m, hm⟩ := k0; exact DataW.trod_lt m _ _ _ hm
  have wt0 : ∀ n ∈ d0.weights Tryd.prog 22, n ≤ reachBytes := fun n hn => by
    have := List.all_eq_true.1 hsz n (DataW.weights_mem_each (j := 0) rfl rfl n hn)
    simpa using this
  obtain ⟨z0, w0⟩ : ∃ ss, IsStrs W a0 len0 ss := by
    obtain ⟨fuel, hf⟩ := h0
    exact strs_at hf wt0
  obtain ⟨a1, rfl, rfl, rfl, m1⟩ := open_string Tryd.underlying9 (hval 1 9 v1 rfl rfl) h1
  have w1 : a1.size ≤ 140737488351232 := by have := sized_string hsz (j := 1) rfl rfl; simpa [reachBytes] using this
  clear hA0 hval0
  refine (walk a0 len0 cap0 z0 a1 W (of_laid hL) w0 w1).mono fun e W' ⟨he, bel⟩ => ?_
  subst he
  exact ⟨_, rfl, _, _, _, [], _, [], hW', trodAll_mk1 (shut_bool Tryd.underlying4 _), (trodAll_cons_mk (Below.trod laidOut (by kernel_rfl) (of_decide_eq_true (by kernel_rfl)) k0 bel lt0) (trodAll_cons_mk (shut_string Tryd.underlying9 m1) trodAll_mk0)), rfl, bel.frame _, fun h => by cases h⟩

theorem over : Rows.pathBackRow.holds Tryd.pinned (OpenSpec.ofChange Rows.pathBackSpec) :=
  OpenClaim.holds_of_wide 5 Tryd.f5 rfl rfl rfl rfl rfl rfl rfl ⟨rfl, rfl, rfl, rfl, rfl⟩ rfl rfl rfl rfl rfl (by kernel_rfl) Tryd.func5 (by kernel_rfl)
    (of_decide_eq_true (by kernel_rfl)) (by unfold Func.isWrapper; first | (rw [if_pos (by decide +kernel)]; kernel_rfl) | (rw [if_neg (by decide +kernel)]; exact ⟨rfl, rfl⟩))
    (fun os started H enc _ => lifted os started H enc)

theorem card : Rows.PathBackCardSaid :=
  Claim7.holds_tied_plain_at .later [] [.data, .pinned] true (true, "9e4aaf6cee642efeb51a8be85a17a31591f1cb05bc2a301100ccc79ecbe3d53b") false
    over (fun _ h => by cases h) (by kernel_rfl) (fun _ h => by cases h) pathBack_row_tie rfl ⟨rfl, rfl⟩ (by kernel_rfl) rfl
    (fun f fn hf hfn => by
      obtain rfl : f = 5 := Option.some.inj ((show Tryd.prog.funcNamed "concourse/concourselaw11.PathBack" = some 5 by kernel_rfl).symm.trans hf) |>.symm
      obtain rfl : fn = Tryd.f5 := (Option.some.inj (Tryd.func5.symm.trans hfn)).symm
      exact ⟨by kernel_rfl, fun j t ht => by
        rw [Tryd.params5] at ht
        have hm : t ∈ [22, 9] := by simpa using Array.mem_of_getElem? ht
        have hall : ([22, 9].all fun u => !Tryd.prog.wantsStandIn u) = true := by kernel_rfl
        exact (show Tryd.prog.wantsStandIn t = false by simpa using List.all_eq_true.1 hall t hm)⟩)
    (by kernel_rfl)

end Go.Proofs.YtffmfgjinpigeaaDoor.pathBack

namespace Go.Proofs.YtffmfgjinpigeaaDoor
theorem pathBack_holds : Rows.PathBackCardSaid := pathBack.card
#print axioms pathBack_holds
end Go.Proofs.YtffmfgjinpigeaaDoor
