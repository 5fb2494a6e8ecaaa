/-
  PathPrints: Print of any names and Below of any two texts as the document asks; nothing is below itself.
-/
import Derived.Test.YtffmfgjinpigeaaDoorRows
import Derived.Test.YtffmfgjinpigeaaDoorCards
import Derived.Test.YtffmfgjinpigeaaDoorTie
import Derived.Test.YtffmfgjinpigeaaDoorSt
import Derived.WalkKit
import Derived.ProofKit
import Derived.OpenShut
import Derived.ShutString
import Derived.ChangeOld
import Derived.Below
import Derived.Deep.Slices
import Derived.LaidMore
import Derived.Lay
import Derived.SizedLaws
import Derived.Laws.BytesArg
import Derived.Stop.Joined
import Derived.SevenTiedAt
namespace Go.Proofs.YtffmfgjinpigeaaDoor.pathPrints
open Go.ChangeShapes Go.WideShapes Go.ChangeAt Go.RowKit
open Go.ChangeMaps (open_string shut_string)
set_option linter.unusedVariables false

set_option maxRecDepth 100000 in
set_option maxHeartbeats 4000000 in
theorem walk (a : Option Addr) (len cap : Nat) (l : List ByteArray) (s1 s2 : ByteArray) (w : World) (hT : Tab w) (h0 : IsStrs w a len l) (hs1 : s1.size ≤ 140737488351232) (hs2 : s2.size ≤ 140737488351232) :
    Calls Tryd.prog 4 #[.slice a len cap, .string s1, .string s2] w fun e w' => e = .returned (.bool true) ∧ Below w.heap.size w w' := by
  obtain ⟨hl, hS, hz, hb, -⟩ := h0
  have hlen63 : len ≤ 9223372036854775807 := by have := hS.1; omega
  have hk0 : Kept [] w (w.alloc (.cells #[] 9)) := (Kept.refl [] w).alloc _
  obtain ⟨v', w1, hr, h2, h3⟩ := append_any (Sr.built w w.heap.size (Nat.le_refl _)) (by have := hk0.size; omega) a len cap hl (hS.kept hk0) (by simp; omega) 22
  have hk1 : Kept [] w w1 := hk0.trans h3 fun x hx => Or.inr (by simp [Value.ownBlock] at hx; omega)
  rw [List.nil_append] at h2
  obtain ⟨va, vc, hv, hr1, -⟩ := h2.read
  rw [← hl] at hv
  subst hv
  have HA : Hid (_) := hr
  have H1 : Hid (len = l.length ∧ Ss w1 va l ∧ Ss w1 a l ∧ Kept [] w w1 ∧ Tab w1 ∧ ∀ j, (tx l j).size ≤ 9223372036854775000) := ⟨hl, hr1, hS.kept hk1, hk1, hT.kept hk1, fun j => by have := hz j; omega⟩
  clear hr h2 h3 hk0 hk1 hr1 hS hT hz hl hb
  obtain ⟨⟨t, x⟩, hx⟩ : ∃ p, printR l = p := ⟨_, rfl⟩
  have HX : Hid (printR l = (t, x)) := hx
  clear hx
  go_enter Tryd.func4, Tryd.ntmps4
  go_wp2_with (at_builtin; refine wpList_append_run _ rfl _ _ 22 22 rfl _ _ rfl rfl _ _ HA.out ?_)
  refine (p_print _ _ _ l w1 H1.out.2.2.2.2.1 H1.out.1 H1.out.2.1).mono ?_
  rintro e w2 ⟨he, hk⟩
  rw [HX.out] at he
  simp only [] at he
  subst he
  have H2 : Hid (Ss w2 va l ∧ Ss w2 a l ∧ Kept [] w w2 ∧ Tab w2) := ⟨H1.out.2.1.kept hk, H1.out.2.2.1.kept hk, H1.out.2.2.2.1.trans hk (by simp), H1.out.2.2.2.2.1.kept hk⟩
  clear hk HA
  go_wp2_with fail
  refine (f_print _ _ _ l w2 H1.out.1 H2.out.2.1 H1.out.2.2.2.2.2).mono ?_
  rintro e w3 ⟨he, hk⟩
  rw [HX.out] at he
  simp only [] at he
  subst he
  have H3 : Hid (Ss w3 va l ∧ Ss w3 a l ∧ Kept [] w w3 ∧ Tab w3) := ⟨H2.out.1.kept hk, H2.out.2.1.kept hk, H2.out.2.2.1.trans hk (by simp), H2.out.2.2.2.kept hk⟩
  clear hk H2
  have hself : (t.toList == t.toList) = true := by simp
  go_wp2_with fail
  refine (num_of _ _).mono ?_
  rintro e w4 ⟨rfl, hw⟩
  have hw2 := hw.symm
  subst hw2
  go_wp2_with fail
  refine (same_texts _ _ _ _ _ _ l l w3 H1.out.1 H1.out.1 H3.out.1 H3.out.2.1).mono ?_
  rintro e w4 ⟨rfl, q, hw⟩
  rw [show decide (l = l) = true from decide_eq_true rfl]
  have hk4 : Kept [] w3 w4 := by rw [hw]; exact (Kept.refl [] w3).drewN q
  have H4 : Hid (Kept [] w w4 ∧ Tab w4) := ⟨H3.out.2.2.1.trans hk4 (by simp), H3.out.2.2.2.kept hk4⟩
  clear hw hk4 H3
  go_wp2_with fail
  refine (p_below s1 s2 w4 H4.out.2).mono ?_
  rintro e w5 ⟨rfl, hk⟩
  have H5 : Hid (Kept [] w w5 ∧ Tab w5) := ⟨H4.out.1.trans hk (by simp), H4.out.2.kept hk⟩
  clear hk H4
  obtain ⟨z, hz⟩ : ∃ z, belowR s1 s2 = z := ⟨_, rfl⟩
  have HZ : Hid (_) := hz
  rw [hz]
  clear hz
  go_wp2_with fail
  refine (f_below s1 s2 w5).mono ?_
  rintro e w6 ⟨rfl, hk⟩
  rw [HZ.out]
  have H6 : Hid (Kept [] w w6 ∧ Tab w6) := ⟨H5.out.1.trans hk (by simp), H5.out.2.kept hk⟩
  clear hk H5 HZ
  have hzz : (z == z) = true := by simp
  go_wp2_with fail
  refine (p_below t t w6 H6.out.2).mono ?_
  rintro e w7 ⟨rfl, hk⟩
  rw [belowR_self]
  have H7 : Hid (Kept [] w w7 ∧ Tab w7) := ⟨H6.out.1.trans hk (by simp), H6.out.2.kept hk⟩
  clear hk H6
  go_wp2_with fail
  refine (awake_any w7 H7.out.2).mono ?_
  rintro e w8 ⟨rfl, hk⟩
  have H8 : Hid (Below w.heap.size w w8) := (H7.out.1.trans hk (by simp)).below (Nat.le_refl _) (by simp)
  clear hk H7
  go_wp2_with fail
  go_ret
  exact ⟨rfl, H8.out⟩

set_option maxRecDepth 100000 in
theorem lifted (os : Os) (started : os.Started) (H : Type) (enc : TypeId × Value → H) :
    ReturnsInHanded {} Tryd.checked os 4 .any (fun w args => (Rows.pathPrintsSpec.pre enc Tryd.prog Tryd.f4 [] false w args ∧ laidMetH Tryd.prog laid2 w) ∧ sizedMet enc Tryd.prog Tryd.f4 (OpenSpec.ofChange Rows.pathPrintsSpec) false w args)
      (Rows.pathPrintsSpec.post enc Tryd.prog Tryd.f4 false true false false) := by
  refine returnsInHanded_of_change_and (C := Tryd.checked) (X := fun w _ => laidMetH Tryd.prog laid2 w) (fun _ _ _ hh h => h.of_heap hh) own started (by kernel_rfl) Tryd.func4
    (ChangeSpec.witness_shaped (enc := enc) (C := Tryd.checked) (os := os) (X := fun w _ => laidMetH Tryd.prog laid2 w) false (World.laidAll Tryd.prog os laid2) #[.slice none 0 0, .string ⟨#[]⟩, .string ⟨#[]⟩] 8 (World.laidAll_os _ _ _) (World.shaped_of_ZipB (by kernel_rfl) (by kernel_rfl)) (by kernel_rfl) (by kernel_rfl) (by kernel_rfl) (met_laid os _)) ?_
  intro W base args ds gs before hval0 hW _ hsz0 hL _
  have hsz : (DataW.weightsEach Tryd.prog (Tryd.f4.params.toList ++ Rows.pathPrintsSpec.plain.varTypes Tryd.prog) (ds ++ gs)).all (· ≤ reachBytes) = true := hsz0
  have hval : ∀ (j : Nat) t v, Tryd.f4.params[j]? = some t → args[j]? = some v → Value.okWide Tryd.prog W .any base t v := hval0
  have hW' := hW
  obtain ⟨p, q, hA0, hV, rfl, hfz, hnd⟩ := hW
  have hA : DataW.TrodAll enc Tryd.prog W 0 (fun _ => true) true Tryd.f4.params.toList args.toList ds p := hA0
  rw [Tryd.params4] at hA hval hsz
  obtain ⟨v0, vs0, d0, ds0, p0, q0, hargs, rfl, rfl, h0, r0⟩ := trodAll_cons hA
  obtain ⟨v1, vs1, d1, ds1, p1, q1, rfl, rfl, rfl, h1, r1⟩ := trodAll_cons r0
  obtain ⟨v2, vs2, d2, ds2, p2, q2, rfl, rfl, rfl, h2, r2⟩ := trodAll_cons r1
  obtain ⟨rfl, rfl, rfl⟩ := trodAll_nil r2
  obtain rfl : args = #[v0, v1, v2] := by cases args; simp_all
  obtain ⟨rfl, rfl⟩ := trodVars_none hV
  obtain ⟨a0, len0, cap0, rfl⟩ := okWide_slice Tryd.underlying22 (hval 0 22 v0 rfl rfl)
  have k0 := h0
  have lt0 : ∀ x ∈ p0, x.block < W.heap.size := by obtain ⟨m, hm⟩ := k0; exact DataW.trod_lt m _ _ _ hm
  have wt0 : ∀ n ∈ d0.weights Tryd.prog 22, n ≤ reachBytes := fun n hn => by
    have := List.all_eq_true.1 hsz n (DataW.weights_mem_each (j := 0) rfl rfl n hn)
    simpa using this
  obtain ⟨z0, w0⟩ : ∃ ss, IsStrs W a0 len0 ss := by
    obtain ⟨fuel, hf⟩ := h0
    exact strs_at hf wt0
  obtain ⟨a1, rfl, rfl, rfl, m1⟩ := open_string Tryd.underlying9 (hval 1 9 v1 rfl rfl) h1
  have w1 : a1.size ≤ 140737488351232 := by have := sized_string hsz (j := 1) rfl rfl; simpa [reachBytes] using this
  obtain ⟨a2, rfl, rfl, rfl, m2⟩ := open_string Tryd.underlying9 (hval 2 9 v2 rfl rfl) h2
  have w2 : a2.size ≤ 140737488351232 := by have := sized_string hsz (j := 2) rfl rfl; simpa [reachBytes] using this
  clear hA0 hval0
  refine (walk a0 len0 cap0 z0 a1 a2 W (of_laid hL) w0 w1 w2).mono fun e W' ⟨he, bel⟩ => ?_
  subst he
  exact ⟨_, rfl, _, _, _, [], _, [], hW', trodAll_mk1 (shut_bool Tryd.underlying4 _), (trodAll_cons_mk (Below.trod laidOut (by kernel_rfl) (of_decide_eq_true (by kernel_rfl)) k0 bel lt0) (trodAll_cons_mk (shut_string Tryd.underlying9 m1) (trodAll_cons_mk (shut_string Tryd.underlying9 m2) trodAll_mk0))), rfl, bel.frame _, fun h => by cases h⟩

theorem over : Rows.pathPrintsRow.holds Tryd.pinned (OpenSpec.ofChange Rows.pathPrintsSpec) :=
  OpenClaim.holds_of_wide 4 Tryd.f4 rfl rfl rfl rfl rfl rfl rfl ⟨rfl, rfl, rfl, rfl, rfl⟩ rfl rfl rfl rfl rfl (by kernel_rfl) Tryd.func4 (by kernel_rfl)
    (of_decide_eq_true (by kernel_rfl)) (by unfold Func.isWrapper; first | (rw [if_pos (by decide +kernel)]; kernel_rfl) | (rw [if_neg (by decide +kernel)]; exact ⟨rfl, rfl⟩))
    (fun os started H enc _ => lifted os started H enc)

theorem card : Rows.PathPrintsCardSaid :=
  Claim7.holds_tied_plain_at .later [] [.data, .pinned] true (true, "9e4aaf6cee642efeb51a8be85a17a31591f1cb05bc2a301100ccc79ecbe3d53b") false
    over (fun _ h => by cases h) (by kernel_rfl) (fun _ h => by cases h) pathPrints_row_tie rfl ⟨rfl, rfl⟩ (by kernel_rfl) rfl
    (fun f fn hf hfn => by
      obtain rfl : f = 4 := Option.some.inj ((show Tryd.prog.funcNamed "concourse/concourselaw11.PathPrints" = some 4 by kernel_rfl).symm.trans hf) |>.symm
      obtain rfl : fn = Tryd.f4 := (Option.some.inj (Tryd.func4.symm.trans hfn)).symm
      exact ⟨by kernel_rfl, fun j t ht => by
        rw [Tryd.params4] at ht
        have hm : t ∈ [22, 9, 9] := by simpa using Array.mem_of_getElem? ht
        have hall : ([22, 9, 9].all fun u => !Tryd.prog.wantsStandIn u) = true := by kernel_rfl
        exact (show Tryd.prog.wantsStandIn t = false by simpa using List.all_eq_true.1 hall t hm)⟩)
    (by kernel_rfl)

end Go.Proofs.YtffmfgjinpigeaaDoor.pathPrints

namespace Go.Proofs.YtffmfgjinpigeaaDoor
theorem pathPrints_holds : Rows.PathPrintsCardSaid := pathPrints.card
#print axioms pathPrints_holds
end Go.Proofs.YtffmfgjinpigeaaDoor
