/-
  NameLongs: for every number, how long a name may be goes by bytes, not by runes (P8.1); no condition beyond the row's own.
-/
import Derived.Test.YtecddbolgegdfaaDoorRows
import Derived.Test.YtecddbolgegdfaaDoorCards
import Derived.Test.YtecddbolgegdfaaDoorTie
import Derived.Test.YtecddbolgegdfaaDoorLaid
import Derived.Test.YtecddbolgegdfaaDoorBits
import Derived.WalkKit
import Derived.ProofKit
import Derived.OpenShut
import Derived.ShutString
import Derived.ChangeOld
import Derived.Below
import Derived.Deep.Slices
import Derived.LaidMore
import Derived.Lay
import Derived.SizedLaws
import Derived.Laws.BytesArg
import Derived.Stop.Joined
import Derived.SevenTiedAt
namespace Go.Proofs.YtecddbolgegdfaaDoor.nameLongs
open Go.ChangeShapes Go.WideShapes Go.ChangeAt Go.RowKit
open Go.ChangeMaps (open_string shut_string)
set_option linter.unusedVariables false

/-- A text of so many runes of two bytes. -/
def ee : Nat → ByteArray
  | 0 => ⟨#[]⟩
  | n + 1 => ee n ++ ⟨#[195, 169]⟩

theorem ee_size (n : Nat) : (ee n).size = 2 * n := by
  induction n with
  | zero => rfl
  | succ n ih => show (ee n ++ ⟨#[195, 169]⟩ : ByteArray).size = _; rw [ByteArray.size_append, ih]; show _ + 2 = _; omega

def ceOf (k : Nat) : Int := if k = 0 then 800 else if k ≤ 6 then 0 else 801
def cfOf (k : Nat) : Int := if k ≤ 5 then 0 else 801

theorem all_longs : ∀ k : Fin 16, chkF (ee k.1) = ceOf k.1 ∧ chkF (ee k.1 ++ ⟨#[120]⟩) = cfOf k.1 ∧ (rsF 30 (ee k.1) 0).length = k.1 := by decide +kernel

theorem longs (k : Nat) (h : k < 16) : chk (ee k) = ceOf k ∧ chk (ee k ++ ⟨#[120]⟩) = cfOf k ∧ (rs (ee k) 0).length = k := by
  have := all_longs ⟨k, h⟩
  rw [chk_eq, chk_eq, rs_fuel _ 30 0 (by rw [ee_size]; omega)]
  exact this

set_option maxRecDepth 100000 in
set_option maxHeartbeats 2000000 in
theorem main (n : Int) (w : World) (hT : Tab w) :
    Calls Tryd.prog 8 #[.int .i64 n] w fun e w' => e = .returned (.bool true) ∧ Kept [] w w' := by
  obtain ⟨k, hk, hk2⟩ : ∃ k : Nat, bits .and .i64 n 15 = (k : Int) ∧ k < 16 := ⟨(n % 16).toNat, by rw [i64_and15]; omega, by omega⟩
  have HT : Hid (Tab w) := hT
  clear hT
  go_enter Tryd.func8, Tryd.ntmps8
  go_wp2_with fail
  refine (awake_any w HT.out).mono ?_
  rintro e w1 ⟨rfl, hkk⟩
  have HK : Hid (Kept [] w w1) := hkk
  clear hkk
  go_wp2_with fail
  go_loopw [4, 5] (fun s i wr => ∃ (j : Nat), s = .string (ee j) ∧ i = .int .i64 (j : Int) ∧ j ≤ k ∧ wr = w1) (fun _ i _ => (k - intOf i).toNat)
  case atStart => exact ⟨0, rfl, rfl, by omega, rfl⟩
  case round =>
    obtain ⟨j, rfl, rfl, hj, rfl⟩ := hrel
    by_cases hlt : j < k
    · have i1 : (j : Int) < (k : Int) := by omega
      have hz := ee_size j
      have hz2 : (ee j).size ≤ 32 := by omega
      clear hz
      go_wp2_with fail
      go_roundw
      case rel => exact ⟨j + 1, rfl, by go_num, by omega, trivial⟩
      case measure => simp [intOf]; omega
    · have e1 : j = k := by omega
      subst e1
      have i1 : ¬ (j : Int) < (j : Int) := by omega
      obtain ⟨g1, g2, g3⟩ := longs j hk2
      have hz := ee_size j
      have hz2 : (ee j).size ≤ 32 := by omega
      clear hz
      obtain ⟨s, hs⟩ : ∃ s, ee j = s := ⟨_, rfl⟩
      rw [hs] at g1 g2 g3 hz2 ⊢
      have HG : Hid (_ ∧ _ ∧ _) := ⟨g1, g2, g3⟩
      clear g1 g2 g3 hs hlt
      go_wp2_with fail
      refine (n_check s wr (HT.out.kept HK.out)).mono ?_
      rintro e w2 ⟨rfl, hk1⟩
      have H2 : Hid (Kept [] w w2) := HK.out.trans hk1 (by simp)
      clear hk1 HK
      rw [HG.out.1]
      go_wp2_with fail
      refine (n_check _ w2 (HT.out.kept H2.out)).mono ?_
      rintro e w3 ⟨rfl, hk1⟩
      have H3 : Hid (Kept [] w w3) := H2.out.trans hk1 (by simp)
      clear hk1 H2
      rw [HG.out.2.1]
      have hcs : (j = 0) ∨ (1 ≤ j ∧ j ≤ 5) ∨ j = 6 ∨ 7 ≤ j := by omega
      rcases hcs with hc | hc | hc | hc
      · subst hc
        have e1 : ceOf 0 = 800 := rfl
        have e2 : cfOf 0 = 0 := rfl
        rw [e1, e2]
        go_wp2_with fail
        refine (num _ _).mono ?_
        rintro e w' ⟨rfl, rfl⟩
        go_wp2_with fail
        refine (num _ _).mono ?_
        rintro e w' ⟨rfl, rfl⟩
        go_wp2_with fail
        refine (num _ _).mono ?_
        rintro e w' ⟨rfl, rfl⟩
        go_wp2_with fail
        refine (n_runes s _ (by omega)).mono ?_
        rintro e w4 ⟨rfl, hk1⟩
        have H4 : Hid (Kept [] w w4) := H3.out.trans hk1 (by simp)
        clear hk1 H3
        rw [HG.out.2.2]
        go_wp2_with fail
        go_ret
        exact ⟨rfl, H4.out⟩
      · have e1 : ceOf j = 0 := by unfold ceOf; rw [if_neg (by omega), if_pos (by omega)]
        have e2 : cfOf j = 0 := by unfold cfOf; rw [if_pos (by omega)]
        rw [e1, e2]
        have q1 : (0 : Int) < (j : Int) := by omega
        have q2 : 2 * (j : Int) ≤ 12 := by omega
        have q3 : 2 * (j : Int) + 1 ≤ 12 := by omega
        go_wp2_with fail
        refine (num _ _).mono ?_
        rintro e w' ⟨rfl, rfl⟩
        go_wp2_with fail
        refine (num _ _).mono ?_
        rintro e w' ⟨rfl, rfl⟩
        go_wp2_with fail
        refine (num _ _).mono ?_
        rintro e w' ⟨rfl, rfl⟩
        go_wp2_with fail
        refine (n_runes s _ (by omega)).mono ?_
        rintro e w4 ⟨rfl, hk1⟩
        have H4 : Hid (Kept [] w w4) := H3.out.trans hk1 (by simp)
        clear hk1 H3
        rw [HG.out.2.2]
        go_wp2_with fail
        go_ret
        exact ⟨rfl, H4.out⟩
      · have e1 : ceOf j = 0 := by unfold ceOf; rw [if_neg (by omega), if_pos (by omega)]
        have e2 : cfOf j = 801 := by unfold cfOf; rw [if_neg (by omega)]
        rw [e1, e2]
        have q1 : (0 : Int) < (j : Int) := by omega
        have q2 : 2 * (j : Int) ≤ 12 := by omega
        have q3 : ¬ 2 * (j : Int) + 1 ≤ 12 := by omega
        have q4 : decide (2 * (j : Int) + 1 ≤ 12) = false := by simp; omega
        clear hc
        go_wp2_with fail
        refine (num _ _).mono ?_
        rintro e w' ⟨rfl, rfl⟩
        go_wp2_with fail
        refine (num _ _).mono ?_
        rintro e w' ⟨rfl, rfl⟩
        go_wp2_with fail
        refine (num _ _).mono ?_
        rintro e w' ⟨rfl, rfl⟩
        go_wp2_with fail
        refine (n_runes s _ (by omega)).mono ?_
        rintro e w4 ⟨rfl, hk1⟩
        have H4 : Hid (Kept [] w w4) := H3.out.trans hk1 (by simp)
        clear hk1 H3
        rw [HG.out.2.2]
        go_wp2_with fail
        go_ret
        exact ⟨rfl, H4.out⟩
      · have e1 : ceOf j = 801 := by unfold ceOf; rw [if_neg (by omega), if_neg (by omega)]
        have e2 : cfOf j = 801 := by unfold cfOf; rw [if_neg (by omega)]
        rw [e1, e2]
        have q1 : (0 : Int) < (j : Int) := by omega
        have q2 : ¬ 2 * (j : Int) ≤ 12 := by omega
        have q5 : decide (2 * (j : Int) ≤ 12) = false := by simp; omega
        have q3 : ¬ 2 * (j : Int) + 1 ≤ 12 := by omega
        have q4 : decide (2 * (j : Int) + 1 ≤ 12) = false := by simp; omega
        go_wp2_with fail
        refine (num _ _).mono ?_
        rintro e w' ⟨rfl, rfl⟩
        go_wp2_with fail
        refine (num _ _).mono ?_
        rintro e w' ⟨rfl, rfl⟩
        go_wp2_with fail
        refine (num _ _).mono ?_
        rintro e w' ⟨rfl, rfl⟩
        go_wp2_with fail
        refine (n_runes s _ (by omega)).mono ?_
        rintro e w4 ⟨rfl, hk1⟩
        have H4 : Hid (Kept [] w w4) := H3.out.trans hk1 (by simp)
        clear hk1 H3
        rw [HG.out.2.2]
        go_wp2_with fail
        go_ret
        exact ⟨rfl, H4.out⟩

theorem walk (n : Int) (w : World) (hT : Tab w) (_ : (Lit.int .i64 n).wf = true) :
    Calls Tryd.prog 8 #[.int .i64 n] w fun e w' => e = .returned (.bool true) ∧ Below w.heap.size w w' :=
  (main n w hT).mono fun e w' ⟨he, hk⟩ => ⟨he, hk.below (Nat.le_refl _) (by simp)⟩

set_option maxRecDepth 100000 in
theorem lifted (os : Os) (started : os.Started) (H : Type) (enc : TypeId × Value → H) :
    ReturnsInHanded {} Tryd.checked os 8 .any (fun w args => (Rows.nameLongsSpec.pre enc Tryd.prog Tryd.f8 [] false w args ∧ laidMetH Tryd.prog laid2 w) ∧ sizedMet enc Tryd.prog Tryd.f8 (OpenSpec.ofChange Rows.nameLongsSpec) false w args)
      (Rows.nameLongsSpec.post enc Tryd.prog Tryd.f8 false true false false) := by
  refine returnsInHanded_of_change_and (C := Tryd.checked) (X := fun w _ => laidMetH Tryd.prog laid2 w) (fun _ _ _ hh h => h.of_heap hh) own started (by kernel_rfl) Tryd.func8
    (ChangeSpec.witness_shaped (enc := enc) (C := Tryd.checked) (os := os) (X := fun w _ => laidMetH Tryd.prog laid2 w) false (World.laidAll Tryd.prog os laid2) #[.int .i64 0] 8 (World.laidAll_os _ _ _) (World.shaped_of_ZipB (by kernel_rfl) (by kernel_rfl)) (by kernel_rfl) (by kernel_rfl) (by kernel_rfl) (met_laid os _)) ?_
  intro W base args ds gs before hval0 hW _ hsz0 hL _
  have hsz : (DataW.weightsEach Tryd.prog (Tryd.f8.params.toList ++ Rows.nameLongsSpec.plain.varTypes Tryd.prog) (ds ++ gs)).all (· ≤ reachBytes) = true := hsz0
  have hval : ∀ (j : Nat) t v, Tryd.f8.params[j]? = some t → args[j]? = some v → Value.okWide Tryd.prog W .any base t v := hval0
  have hW' := hW
  obtain ⟨p, q, hA0, hV, rfl, hfz, hnd⟩ := hW
  have hA : DataW.TrodAll enc Tryd.prog W 0 (fun _ => true) true Tryd.f8.params.toList args.toList ds p := hA0
  rw [Tryd.params8] at hA hval hsz
  obtain ⟨v0, vs0, d0, ds0, p0, q0, hargs, rfl, rfl, h0, r0⟩ := trodAll_cons hA
  obtain ⟨rfl, rfl, rfl⟩ := trodAll_nil r0
  obtain rfl : args = #[v0] := by cases args; simp_all
  obtain ⟨rfl, rfl⟩ := trodVars_none hV
  obtain ⟨a0, rfl, rfl, rfl, w0⟩ := open_int Tryd.underlying3 (hval 0 3 v0 rfl rfl) h0
  clear hA0 hval0
  refine (walk a0 W (of_laid hL) w0).mono fun e W' ⟨he, bel⟩ => ?_
  subst he
  simp only [List.append_nil] at hW'
  exact ⟨_, rfl, _, _, _, [], [], [], hW', (trodAll_cons_mk (shut_bool Tryd.underlying4 _) trodAll_mk0), (trodAll_cons_mk (shut_int Tryd.underlying3 w0) trodAll_mk0), rfl, bel.frame _, fun h => by cases h⟩

theorem over : Rows.nameLongsRow.holds Tryd.pinned (OpenSpec.ofChange Rows.nameLongsSpec) :=
  OpenClaim.holds_of_wide 8 Tryd.f8 rfl rfl rfl rfl rfl rfl rfl ⟨rfl, rfl, rfl, rfl, rfl⟩ rfl rfl rfl rfl rfl (by kernel_rfl) Tryd.func8 (by kernel_rfl)
    (of_decide_eq_true (by kernel_rfl)) (by unfold Func.isWrapper; first | (rw [if_pos (by decide +kernel)]; kernel_rfl) | (rw [if_neg (by decide +kernel)]; exact ⟨rfl, rfl⟩))
    (fun os started H enc _ => lifted os started H enc)

theorem card : Rows.NameLongsCardSaid :=
  Claim7.holds_tied_plain_at .later [] [.data, .pinned] true (true, "a19ee9f1284ada8f5c47f7762ea83e95fcdbdffd576c9b261bd8f54d32d6a93a") false
    over (fun _ h => by cases h) (by kernel_rfl) (fun _ h => by cases h) nameLongs_row_tie rfl ⟨rfl, rfl⟩ (by kernel_rfl) rfl
    (fun f fn hf hfn => by
      obtain rfl : f = 8 := Option.some.inj ((show Tryd.prog.funcNamed "concourse/concourselaw8.NameLongs" = some 8 by kernel_rfl).symm.trans hf) |>.symm
      obtain rfl : fn = Tryd.f8 := (Option.some.inj (Tryd.func8.symm.trans hfn)).symm
      exact ⟨by kernel_rfl, fun j t ht => by
        rw [Tryd.params8] at ht
        have hm : t ∈ [3] := by simpa using Array.mem_of_getElem? ht
        have hall : ([3].all fun u => !Tryd.prog.wantsStandIn u) = true := by kernel_rfl
        exact (show Tryd.prog.wantsStandIn t = false by simpa using List.all_eq_true.1 hall t hm)⟩)
    (by kernel_rfl)

end Go.Proofs.YtecddbolgegdfaaDoor.nameLongs

namespace Go.Proofs.YtecddbolgegdfaaDoor
theorem nameLongs_holds : Rows.NameLongsCardSaid := nameLongs.card
#print axioms nameLongs_holds
end Go.Proofs.YtecddbolgegdfaaDoor
