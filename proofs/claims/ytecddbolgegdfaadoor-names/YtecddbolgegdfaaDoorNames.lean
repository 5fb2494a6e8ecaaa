/-
  Names: for every text, package name's Check, May, Hash, Bucket and Runes are what the document's answer is (P8.1, P8.2); no condition beyond the row's own.
-/
import Derived.Test.YtecddbolgegdfaaDoorRows
import Derived.Test.YtecddbolgegdfaaDoorCards
import Derived.Test.YtecddbolgegdfaaDoorTie
import Derived.Test.YtecddbolgegdfaaDoorLaid
import Derived.WalkKit
import Derived.ProofKit
import Derived.OpenShut
import Derived.ShutString
import Derived.ChangeOld
import Derived.Below
import Derived.Deep.Slices
import Derived.LaidMore
import Derived.Lay
import Derived.SizedLaws
import Derived.Stop.Joined
import Derived.SevenTiedAt
namespace Go.Proofs.YtecddbolgegdfaaDoor.names
open Go.ChangeShapes Go.WideShapes Go.ChangeAt Go.RowKit
open Go.ChangeMaps (open_string shut_string)
set_option linter.unusedVariables false

set_option maxRecDepth 100000 in
set_option maxHeartbeats 2000000 in
theorem main (s : ByteArray) (w : World) (hT : Tab w) (hs : s.size ≤ 140737488351232) :
    Calls Tryd.prog 3 #[.string s] w fun e w' => e = .returned (.bool true) ∧ Kept [] w w' := by
  obtain ⟨z, hz⟩ : ∃ z, chk s = z := ⟨_, rfl⟩
  obtain ⟨h, hh⟩ : ∃ h, hashL (rs s 0) 7 = h := ⟨_, rfl⟩
  obtain ⟨k, hk⟩ : ∃ k, (rs s 0).length = k := ⟨_, rfl⟩
  have HE : Hid (_ ∧ _ ∧ _) := ⟨hz, hh, hk⟩
  clear hz hh hk
  have tz : (z == z) = true := by simp
  have tb : ((z == 0) == (z == 0)) = true := by simp
  have th : (h == h) = true := by simp
  have tk : ((k : Int) == (k : Int)) = true := by simp
  have tq : (h % 8 == h % 8) = true := by simp
  have HT : Hid (Tab w) := hT
  clear hT
  go_enter Tryd.func3, Tryd.ntmps3
  go_wp2_with fail
  refine (n_check s w HT.out).mono ?_
  rintro e w1 ⟨rfl, hk⟩
  have H1 : Hid (_) := hk
  clear hk
  rw [HE.out.1]
  go_wp2_with fail
  refine (f_check s w1 (by omega)).mono ?_
  rintro e w2 ⟨rfl, rfl⟩
  rw [HE.out.1]
  go_wp2_with (first
    | (go_at_call 11; refine (num _ _).mono ?_; rintro e w' ⟨rfl, rfl⟩))
  refine (n_may s _ (HT.out.kept H1.out)).mono ?_
  rintro e w3 ⟨rfl, hk⟩
  have H3 : Hid (_) := H1.out.trans hk (by simp)
  clear hk H1
  rw [HE.out.1]
  go_wp2_with fail
  refine (n_hash s w3).mono ?_
  rintro e w4 ⟨rfl, hk⟩
  have H4 : Hid (_) := H3.out.trans hk (by simp)
  clear hk H3
  rw [HE.out.2.1]
  go_wp2_with fail
  refine (f_hash s w4 (by omega)).mono ?_
  rintro e w5 ⟨rfl, rfl⟩
  rw [HE.out.2.1]
  go_wp2_with fail
  refine (n_bucket s _).mono ?_
  rintro e w6 ⟨rfl, hk⟩
  have H6 : Hid (_) := H4.out.trans hk (by simp)
  clear hk H4
  rw [HE.out.2.1]
  go_wp2_with fail
  refine (f_bucket s w6 (by omega)).mono ?_
  rintro e w7 ⟨rfl, rfl⟩
  rw [HE.out.2.1]
  go_wp2_with fail
  refine (n_runes s _ (by omega)).mono ?_
  rintro e w8 ⟨rfl, hk⟩
  have H8 : Hid (_) := H6.out.trans hk (by simp)
  clear hk H6
  rw [HE.out.2.2]
  go_wp2_with fail
  refine (f_runes s w8 (by omega)).mono ?_
  rintro e w9 ⟨rfl, rfl⟩
  rw [HE.out.2.2]
  go_wp2_with fail
  refine (awake_any _ (HT.out.kept H8.out)).mono ?_
  rintro e w10 ⟨rfl, hk⟩
  have H10 : Hid (_) := H8.out.trans hk (by simp)
  clear hk H8
  go_wp2_with fail
  go_ret
  exact ⟨rfl, H10.out⟩

theorem walk (s : ByteArray) (w : World) (hT : Tab w) (hs : s.size ≤ 140737488351232) :
    Calls Tryd.prog 3 #[.string s] w fun e w' => e = .returned (.bool true) ∧ Below w.heap.size w w' :=
  (main s w hT hs).mono fun e w' ⟨he, hk⟩ => ⟨he, hk.below (Nat.le_refl _) (by simp)⟩

set_option maxRecDepth 100000 in
theorem lifted (os : Os) (started : os.Started) (H : Type) (enc : TypeId × Value → H) :
    ReturnsInHanded {} Tryd.checked os 3 .any (fun w args => (Rows.namesSpec.pre enc Tryd.prog Tryd.f3 [] false w args ∧ laidMetH Tryd.prog laid2 w) ∧ sizedMet enc Tryd.prog Tryd.f3 (OpenSpec.ofChange Rows.namesSpec) false w args)
      (Rows.namesSpec.post enc Tryd.prog Tryd.f3 false true false false) := by
  refine returnsInHanded_of_change_and (C := Tryd.checked) (X := fun w _ => laidMetH Tryd.prog laid2 w) (fun _ _ _ hh h => h.of_heap hh) own started (by kernel_rfl) Tryd.func3
    (ChangeSpec.witness_shaped (enc := enc) (C := Tryd.checked) (os := os) (X := fun w _ => laidMetH Tryd.prog laid2 w) false (World.laidAll Tryd.prog os laid2) #[.string ⟨#[]⟩] 8 (World.laidAll_os _ _ _) (World.shaped_of_ZipB (by kernel_rfl) (by kernel_rfl)) (by kernel_rfl) (by kernel_rfl) (by kernel_rfl) (met_laid os _)) ?_
  intro W base args ds gs before hval0 hW _ hsz0 hL _
  have hsz : (DataW.weightsEach Tryd.prog (Tryd.f3.params.toList ++ Rows.namesSpec.plain.varTypes Tryd.prog) (ds ++ gs)).all (· ≤ reachBytes) = true := hsz0
  have hval : ∀ (j : Nat) t v, Tryd.f3.params[j]? = some t → args[j]? = some v → Value.okWide Tryd.prog W .any base t v := hval0
  have hW' := hW
  obtain ⟨p, q, hA0, hV, rfl, hfz, hnd⟩ := hW
  have hA : DataW.TrodAll enc Tryd.prog W 0 (fun _ => true) true Tryd.f3.params.toList args.toList ds p := hA0
  rw [Tryd.params3] at hA hval hsz
  obtain ⟨v0, vs0, d0, ds0, p0, q0, hargs, rfl, rfl, h0, r0⟩ := trodAll_cons hA
  obtain ⟨rfl, rfl, rfl⟩ := trodAll_nil r0
  obtain rfl : args = #[v0] := by cases args; simp_all
  obtain ⟨rfl, rfl⟩ := trodVars_none hV
  obtain ⟨a0, rfl, rfl, rfl, m0⟩ := open_string Tryd.underlying9 (hval 0 9 v0 rfl rfl) h0
  have w0 : a0.size ≤ 140737488351232 := by have := sized_string hsz (j := 0) rfl rfl; simpa [reachBytes] using this
  clear hA0 hval0
  refine (walk a0 W (of_laid hL) w0).mono fun e W' ⟨he, bel⟩ => ?_
  subst he
  simp only [List.append_nil] at hW'
  exact ⟨_, rfl, _, _, _, [], [], [], hW', (trodAll_cons_mk (shut_bool Tryd.underlying4 _) trodAll_mk0), (trodAll_cons_mk (shut_string Tryd.underlying9 m0) trodAll_mk0), rfl, bel.frame _, fun h => by cases h⟩

theorem over : Rows.namesRow.holds Tryd.pinned (OpenSpec.ofChange Rows.namesSpec) :=
  OpenClaim.holds_of_wide 3 Tryd.f3 rfl rfl rfl rfl rfl rfl rfl ⟨rfl, rfl, rfl, rfl, rfl⟩ rfl rfl rfl rfl rfl (by kernel_rfl) Tryd.func3 (by kernel_rfl)
    (of_decide_eq_true (by kernel_rfl)) (by unfold Func.isWrapper; first | (rw [if_pos (by decide +kernel)]; kernel_rfl) | (rw [if_neg (by decide +kernel)]; exact ⟨rfl, rfl⟩))
    (fun os started H enc _ => lifted os started H enc)

theorem card : Rows.NamesCardSaid :=
  Claim7.holds_tied_plain_at .later [] [.data, .pinned] true (true, "a19ee9f1284ada8f5c47f7762ea83e95fcdbdffd576c9b261bd8f54d32d6a93a") false
    over (fun _ h => by cases h) (by kernel_rfl) (fun _ h => by cases h) names_row_tie rfl ⟨rfl, rfl⟩ (by kernel_rfl) rfl
    (fun f fn hf hfn => by
      obtain rfl : f = 3 := Option.some.inj ((show Tryd.prog.funcNamed "concourse/concourselaw8.Names" = some 3 by kernel_rfl).symm.trans hf) |>.symm
      obtain rfl : fn = Tryd.f3 := (Option.some.inj (Tryd.func3.symm.trans hfn)).symm
      exact ⟨by kernel_rfl, fun j t ht => by
        rw [Tryd.params3] at ht
        have hm : t ∈ [9] := by simpa using Array.mem_of_getElem? ht
        have hall : ([9].all fun u => !Tryd.prog.wantsStandIn u) = true := by kernel_rfl
        exact (show Tryd.prog.wantsStandIn t = false by simpa using List.all_eq_true.1 hall t hm)⟩)
    (by kernel_rfl)

end Go.Proofs.YtecddbolgegdfaaDoor.names

namespace Go.Proofs.YtecddbolgegdfaaDoor
theorem names_holds : Rows.NamesCardSaid := names.card
#print axioms names_holds
end Go.Proofs.YtecddbolgegdfaaDoor
