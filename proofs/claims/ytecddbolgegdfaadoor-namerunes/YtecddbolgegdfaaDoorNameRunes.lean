/-
  NameRunes: for every two texts, Runes is at most the bytes, a quarter of them at least, and adds up where a text is cut behind a byte below 128 (P8.2); no condition beyond the row's own.
-/
import Derived.Test.YtecddbolgegdfaaDoorRows
import Derived.Test.YtecddbolgegdfaaDoorCards
import Derived.Test.YtecddbolgegdfaaDoorTie
import Derived.Test.YtecddbolgegdfaaDoorLaid
import Derived.WalkKit
import Derived.ProofKit
import Derived.OpenShut
import Derived.ShutString
import Derived.ChangeOld
import Derived.Below
import Derived.Deep.Slices
import Derived.LaidMore
import Derived.Lay
import Derived.SizedLaws
import Derived.Stop.Joined
import Derived.SevenTiedAt
namespace Go.Proofs.YtecddbolgegdfaaDoor.nameRunes
open Go.ChangeShapes Go.WideShapes Go.ChangeAt Go.RowKit
open Go.ChangeMaps (open_string shut_string)
set_option linter.unusedVariables false

theorem tail_x (s : ByteArray) : (s ++ ⟨#[120]⟩ : ByteArray).size = s.size + 1 ∧ at8 (s ++ ⟨#[120]⟩) ((s ++ ⟨#[120]⟩ : ByteArray).size - 1) < 128 := by
  have h : (s ++ ⟨#[120]⟩ : ByteArray).size = s.size + 1 := by rw [ByteArray.size_append]; rfl
  refine ⟨h, ?_⟩
  rw [h, Nat.add_sub_cancel, show s.size = s.size + 0 from rfl, at8_right]
  decide +kernel

theorem rs_none : rs ⟨#[]⟩ 0 = [] := rs_end (by decide)

set_option maxRecDepth 100000 in
set_option maxHeartbeats 2000000 in
theorem main (s t : ByteArray) (w : World) (hT : Tab w) (hs : s.size ≤ 140737488351232) (ht : t.size ≤ 140737488351232) :
    Calls Tryd.prog 4 #[.string s, .string t] w fun e w' => e = .returned (.bool true) ∧ Kept [] w w' := by
  obtain ⟨a, ha⟩ : ∃ a, (s ++ ⟨#[120]⟩ : ByteArray) = a := ⟨_, rfl⟩
  obtain ⟨h1, h2⟩ := tail_x s
  rw [ha] at h1 h2
  have h3 := rs_both t h2
  have h4 := rs_many a a.size 0 (by omega)
  have h5 : (rs (a ++ t) 0).length = (rs a 0).length + (rs t 0).length := by rw [h3, List.length_append]
  have h6 : (a ++ t).size = a.size + t.size := ByteArray.size_append
  have h7 := (rs_many t t.size 0 (by omega)).1
  have HA : Hid (_) := ha
  have h8 : a.size ≤ 140737488351233 := by omega
  have h9 : (a ++ t).size ≤ 281474976702465 := by omega
  have H15 : Hid (_) := h5
  clear ha h1 h2 h3 h5 h6
  have HT : Hid (Tab w) := hT
  clear hT
  go_enter Tryd.func4, Tryd.ntmps4
  go_wp2_with fail
  refine (awake_any w HT.out).mono ?_
  rintro e w1 ⟨rfl, hk⟩
  have HK : Hid (_) := hk
  clear hk
  go_wp2_with fail
  rw [HA.out]
  refine (n_runes a w1 (by omega)).mono ?_
  rintro e w2 ⟨rfl, hk⟩
  have H2 : Hid (_) := HK.out.trans hk (by simp)
  clear hk HK
  obtain ⟨k, hk⟩ : ∃ k, (rs a 0).length = k := ⟨_, rfl⟩
  rw [hk] at h4 H15 ⊢
  clear hk
  have i1 : (k : Int) ≤ (a.size : Int) := by omega
  have i2 : (a.size : Int) ≤ 4 * (k : Int) := by omega
  go_wp2_with fail
  try rw [HA.out]
  refine (n_runes (a ++ t) w2 (by omega)).mono ?_
  rintro e w3 ⟨rfl, hk⟩
  have H3 : Hid (_) := H2.out.trans hk (by simp)
  clear hk H2
  rw [H15.out]
  clear H15
  go_wp2_with fail
  refine (n_runes t w3 (by omega)).mono ?_
  rintro e w4 ⟨rfl, hk⟩
  have H4 : Hid (_) := H3.out.trans hk (by simp)
  clear hk H3
  obtain ⟨m, hm⟩ : ∃ m, (rs t 0).length = m := ⟨_, rfl⟩
  rw [hm] at h7 ⊢
  clear hm
  go_wp2_with fail
  refine (n_runes ⟨#[]⟩ w4 (by decide)).mono ?_
  rintro e w5 ⟨rfl, hk⟩
  have H5 : Hid (_) := H4.out.trans hk (by simp)
  clear hk H4
  rw [rs_none]
  go_wp2_with fail
  go_ret
  exact ⟨rfl, H5.out⟩

theorem walk (s t : ByteArray) (w : World) (hT : Tab w) (hs : s.size ≤ 140737488351232) (ht : t.size ≤ 140737488351232) :
    Calls Tryd.prog 4 #[.string s, .string t] w fun e w' => e = .returned (.bool true) ∧ Below w.heap.size w w' :=
  (main s t w hT hs ht).mono fun e w' ⟨he, hk⟩ => ⟨he, hk.below (Nat.le_refl _) (by simp)⟩

set_option maxRecDepth 100000 in
theorem lifted (os : Os) (started : os.Started) (H : Type) (enc : TypeId × Value → H) :
    ReturnsInHanded {} Tryd.checked os 4 .any (fun w args => (Rows.nameRunesSpec.pre enc Tryd.prog Tryd.f4 [] false w args ∧ laidMetH Tryd.prog laid2 w) ∧ sizedMet enc Tryd.prog Tryd.f4 (OpenSpec.ofChange Rows.nameRunesSpec) false w args)
      (Rows.nameRunesSpec.post enc Tryd.prog Tryd.f4 false true false false) := by
  refine returnsInHanded_of_change_and (C := Tryd.checked) (X := fun w _ => laidMetH Tryd.prog laid2 w) (fun _ _ _ hh h => h.of_heap hh) own started (by kernel_rfl) Tryd.func4
    (ChangeSpec.witness_shaped (enc := enc) (C := Tryd.checked) (os := os) (X := fun w _ => laidMetH Tryd.prog laid2 w) false (World.laidAll Tryd.prog os laid2) #[.string ⟨#[]⟩, .string ⟨#[]⟩] 8 (World.laidAll_os _ _ _) (World.shaped_of_ZipB (by kernel_rfl) (by kernel_rfl)) (by kernel_rfl) (by kernel_rfl) (by kernel_rfl) (met_laid os _)) ?_
  intro W base args ds gs before hval0 hW _ hsz0 hL _
  have hsz : (DataW.weightsEach Tryd.prog (Tryd.f4.params.toList ++ Rows.nameRunesSpec.plain.varTypes Tryd.prog) (ds ++ gs)).all (· ≤ reachBytes) = true := hsz0
  have hval : ∀ (j : Nat) t v, Tryd.f4.params[j]? = some t → args[j]? = some v → Value.okWide Tryd.prog W .any base t v := hval0
  have hW' := hW
  obtain ⟨p, q, hA0, hV, rfl, hfz, hnd⟩ := hW
  have hA : DataW.TrodAll enc Tryd.prog W 0 (fun _ => true) true Tryd.f4.params.toList args.toList ds p := hA0
  rw [Tryd.params4] at hA hval hsz
  obtain ⟨v0, vs0, d0, ds0, p0, q0, hargs, rfl, rfl, h0, r0⟩ := trodAll_cons hA
  obtain ⟨v1, vs1, d1, ds1, p1, q1, rfl, rfl, rfl, h1, r1⟩ := trodAll_cons r0
  obtain ⟨rfl, rfl, rfl⟩ := trodAll_nil r1
  obtain rfl : args = #[v0, v1] := by cases args; simp_all
  obtain ⟨rfl, rfl⟩ := trodVars_none hV
  obtain ⟨a0, rfl, rfl, rfl, m0⟩ := open_string Tryd.underlying9 (hval 0 9 v0 rfl rfl) h0
  have w0 : a0.size ≤ 140737488351232 := by have := sized_string hsz (j := 0) rfl rfl; simpa [reachBytes] using this
  obtain ⟨a1, rfl, rfl, rfl, m1⟩ := open_string Tryd.underlying9 (hval 1 9 v1 rfl rfl) h1
  have w1 : a1.size ≤ 140737488351232 := by have := sized_string hsz (j := 1) rfl rfl; simpa [reachBytes] using this
  clear hA0 hval0
  refine (walk a0 a1 W (of_laid hL) w0 w1).mono fun e W' ⟨he, bel⟩ => ?_
  subst he
  simp only [List.append_nil] at hW'
  exact ⟨_, rfl, _, _, _, [], [], [], hW', (trodAll_cons_mk (shut_bool Tryd.underlying4 _) trodAll_mk0), (trodAll_cons_mk (shut_string Tryd.underlying9 m0) (trodAll_cons_mk (shut_string Tryd.underlying9 m1) trodAll_mk0)), rfl, bel.frame _, fun h => by cases h⟩

theorem over : Rows.nameRunesRow.holds Tryd.pinned (OpenSpec.ofChange Rows.nameRunesSpec) :=
  OpenClaim.holds_of_wide 4 Tryd.f4 rfl rfl rfl rfl rfl rfl rfl ⟨rfl, rfl, rfl, rfl, rfl⟩ rfl rfl rfl rfl rfl (by kernel_rfl) Tryd.func4 (by kernel_rfl)
    (of_decide_eq_true (by kernel_rfl)) (by unfold Func.isWrapper; first | (rw [if_pos (by decide +kernel)]; kernel_rfl) | (rw [if_neg (by decide +kernel)]; exact ⟨rfl, rfl⟩))
    (fun os started H enc _ => lifted os started H enc)

theorem card : Rows.NameRunesCardSaid :=
  Claim7.holds_tied_plain_at .later [] [.data, .pinned] true (true, "a19ee9f1284ada8f5c47f7762ea83e95fcdbdffd576c9b261bd8f54d32d6a93a") false
    over (fun _ h => by cases h) (by kernel_rfl) (fun _ h => by cases h) nameRunes_row_tie rfl ⟨rfl, rfl⟩ (by kernel_rfl) rfl
    (fun f fn hf hfn => by
      obtain rfl : f = 4 := Option.some.inj ((show Tryd.prog.funcNamed "concourse/concourselaw8.NameRunes" = some 4 by kernel_rfl).symm.trans hf) |>.symm
      obtain rfl : fn = Tryd.f4 := (Option.some.inj (Tryd.func4.symm.trans hfn)).symm
      exact ⟨by kernel_rfl, fun j t ht => by
        rw [Tryd.params4] at ht
        have hm : t ∈ [9, 9] := by simpa using Array.mem_of_getElem? ht
        have hall : ([9, 9].all fun u => !Tryd.prog.wantsStandIn u) = true := by kernel_rfl
        exact (show Tryd.prog.wantsStandIn t = false by simpa using List.all_eq_true.1 hall t hm)⟩)
    (by kernel_rfl)

end Go.Proofs.YtecddbolgegdfaaDoor.nameRunes

namespace Go.Proofs.YtecddbolgegdfaaDoor
theorem nameRunes_holds : Rows.NameRunesCardSaid := nameRunes.card
#print axioms nameRunes_holds
end Go.Proofs.YtecddbolgegdfaaDoor
