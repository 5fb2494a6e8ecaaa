/-
  PathDepths: how many names a path may have.
-/
import Derived.Test.YtffmfgjinpigeaaDoorRows
import Derived.Test.YtffmfgjinpigeaaDoorCards
import Derived.Test.YtffmfgjinpigeaaDoorTie
import Derived.Test.YtffmfgjinpigeaaDoorSt
import Derived.Test.YtffmfgjinpigeaaDoorBits
import Derived.WalkKit
import Derived.ProofKit
import Derived.OpenShut
import Derived.ShutString
import Derived.ChangeOld
import Derived.Below
import Derived.Deep.Slices
import Derived.LaidMore
import Derived.Lay
import Derived.SizedLaws
import Derived.Laws.BytesArg
import Derived.Stop.Joined
import Derived.SevenTiedAt
namespace Go.Proofs.YtffmfgjinpigeaaDoor.pathDepths
open Go.ChangeShapes Go.WideShapes Go.ChangeAt Go.RowKit
open Go.ChangeMaps (open_string shut_string)
set_option linter.unusedVariables false

/-- So many names of one letter, a stroke ahead of each. -/
def dd (r : Nat) : Nat → ByteArray
  | 0 => ⟨#[]⟩
  | j + 1 => dd r j ++ ⟨#[47]⟩ ++ strOfNums [((97 + (r + j) % 16 : Nat) : Int)]

theorem dd_size (r n : Nat) : (dd r n).size = 2 * n := by
  induction n with
  | zero => rfl
  | succ n ih =>
    show (dd r n ++ ⟨#[47]⟩ ++ strOfNums [((97 + (r + n) % 16 : Nat) : Int)] : ByteArray).size = _
    rw [ByteArray.size_append, ByteArray.size_append, ih, strOfNums_size, one_47]
    simp
    omega

def fin (r k : Nat) : ByteArray := if k = 0 then ⟨#[47]⟩ else dd r k

theorem all_depths : ∀ r : Fin 16, ∀ k : Fin 8, (parseF (fin r.1 k.1)).2 = (if k.1 ≤ 4 then 0 else 1102) ∧ (parseF (fin r.1 k.1)).1.length = (if k.1 ≤ 4 then k.1 else 0) ∧ (parseF (fin r.1 k.1 ++ ⟨#[47]⟩)).2 = 1100 ∧ (parseF (⟨#[47]⟩ ++ fin r.1 k.1)).2 = 1100 := by decide +kernel

theorem depths (r k : Nat) (hr : r < 16) (hk : k < 8) : (parseR (fin r k)).2 = (if k ≤ 4 then 0 else 1102) ∧ (parseR (fin r k)).1.length = (if k ≤ 4 then k else 0) ∧ (parseR (fin r k ++ ⟨#[47]⟩)).2 = 1100 ∧ (parseR (⟨#[47]⟩ ++ fin r k)).2 = 1100 := by
  rw [parse_eq, parse_eq, parse_eq]
  exact all_depths ⟨r, hr⟩ ⟨k, hk⟩

/-- The row of one byte, as a text. -/
theorem conv_one (w : World) (z : Int) : (convert 40 9 (.slice (some ⟨w.heap.size, 0, none⟩) 1 1)).run Tryd.prog (w.alloc (.cells #[.int .u8 z] 5)) = .ok (.string (strOfNums [z])) (w.alloc (.cells #[.int .u8 z] 5)) :=
  run_convert_bytes_arg (P := Tryd.prog) _ 40 5 Tryd.underlying40 Tryd.underlying5 w.heap.size 0 1 1 [z] rfl (fun i hi => by
    have : i = 0 := by omega
    subst this
    rw [cell_of_row _ _ _ _ _ _ (heap_alloc_new w _)]
    rfl) 9 Tryd.underlying9

set_option maxRecDepth 100000 in
set_option maxHeartbeats 4000000 in
theorem walk (many c : Int) (w : World) (hT : Tab w) (hw0 : (Lit.int .i64 many).wf = true) (hw1 : (Lit.int .i64 c).wf = true) :
    Calls Tryd.prog 6 #[.int .i64 many, .int .i64 c] w fun e w' => e = .returned (.bool true) ∧ Below w.heap.size w w' := by
  obtain ⟨k, hk, hk8⟩ : ∃ k : Nat, bits .and .i64 many 7 = (k : Int) ∧ k < 8 := ⟨(many % 8).toNat, by rw [i64_and7]; omega, by omega⟩
  obtain ⟨r, hr, hr16⟩ : ∃ r : Nat, c % 16 = (r : Int) ∧ r < 16 := ⟨(c % 16).toNat, by omega, by omega⟩
  have hbit : ∀ j : Nat, bits .and .i64 (wrap64 (c + (j : Int))) 15 = (((r + j) % 16 : Nat) : Int) := fun j => by
    rw [i64_and15]
    unfold wrap64
    omega
  have HT : Hid (Tab w) := hT
  have HB : Hid (_) := hbit
  clear hT hr hbit hw0 hw1
  go_enter Tryd.func6, Tryd.ntmps6
  go_wp2_with fail
  refine (awake_any w HT.out).mono ?_
  rintro e w1 ⟨rfl, hkk⟩
  have HK : Hid (Kept [] w w1) := hkk
  clear hkk
  go_wp2_with fail
  go_loopw [6, 7] (fun s i wr => ∃ (j : Nat) (t : ByteArray), s = .string t ∧ i = .int .i64 (j : Int) ∧ j ≤ k ∧ t.size ≤ 16 ∧ Hid (Kept [] w wr ∧ t = dd r j)) (fun _ i _ => (k - intOf i).toNat)
  case atStart => exact ⟨0, _, rfl, rfl, by omega, by exact Nat.zero_le _, HK.out, by rfl⟩
  case round =>
    obtain ⟨j, t, rfl, rfl, hj, htz, HJ⟩ := hrel
    by_cases hlt : j < k
    · have i1 : (j : Int) < (k : Int) := by omega
      have hb := HB.out j
      obtain ⟨y, hy⟩ : ∃ y, (r + j) % 16 = y := ⟨_, rfl⟩
      have hy16 : y < 16 := by omega
      rw [hy] at hb
      have hz1 : wrap64 (97 + (y : Int)) = 97 + (y : Int) := by unfold wrap64; omega
      obtain ⟨z, hz⟩ : ∃ z : Int, 97 + (y : Int) = z := ⟨_, rfl⟩
      have hz97 : 97 ≤ z ∧ z < 113 := by omega
      rw [hz] at hz1
      have hcv := conv_one wr z
      have HS : Hid (dd r (j + 1) = t ++ ⟨#[47]⟩ ++ strOfNums [z]) := by
        show dd r j ++ ⟨#[47]⟩ ++ strOfNums [((97 + (r + j) % 16 : Nat) : Int)] = _
        rw [← HJ.out.2, hy, ← hz]
        rfl
      have hsz : (t ++ ⟨#[47]⟩ ++ strOfNums [z]).size ≤ 16 := by
        rw [← HS.out, dd_size]; omega
      have hsz1 : (strOfNums [z]).size = 1 := by rw [strOfNums_size]; rfl
      have HE : Hid (Kept [] w (wr.alloc (.cells #[.int .u8 z] 5)) ∧ t ++ ⟨#[47]⟩ ++ strOfNums [z] = dd r (j + 1)) := ⟨HJ.out.1.alloc _, HS.out.symm⟩
      clear hy HS HJ
      go_wp2_with fail
      go_roundw
      case rel => exact ⟨j + 1, _, rfl, by go_num, by omega, hsz, HE.out.1, HE.out.2⟩
      case measure => simp [intOf]; omega
    · have i1 : ¬ (j : Int) < (k : Int) := by omega
      have e1 : j = k := by omega
      have HQ : Hid (Kept [] w wr ∧ Tab wr) := ⟨HJ.out.1, HT.out.kept HJ.out.1⟩
      obtain ⟨u, hu⟩ : ∃ u, fin r k = u := ⟨_, rfl⟩
      have huz : u.size ≤ 16 := by
        rw [← hu]
        unfold fin
        split
        · rw [one_47]; omega
        · rw [dd_size]; omega
      have hd := depths r k hr16 hk8
      rw [hu] at hd
      have ht : k ≠ 0 → t = u := fun h => by
        rw [← hu]
        unfold fin
        rw [if_neg h, HJ.out.2, e1]
      have hu0 : k = 0 → u = ⟨#[47]⟩ := fun h => by
        rw [← hu]
        unfold fin
        rw [if_pos h]
      have HD : Hid (_ ∧ _ ∧ _ ∧ _) := hd
      clear hd hu HJ HB e1
      by_cases hk0 : k = 0
      · have e0 : u = ⟨#[47]⟩ := hu0 hk0
        have i2 : (k : Int) = 0 := by omega
        subst e0
        clear ht hu0
        go_wp2_with fail
        refine (p_parse (⟨#[47]⟩ : ByteArray) wr HQ.out.2).mono ?_
        rintro e w2 ⟨v, he, hS, hk2⟩
        obtain ⟨a2, c2, hv, -⟩ := hS.read
        obtain ⟨x, hx⟩ : ∃ x, (parseR (⟨#[47]⟩ : ByteArray)).2 = x := ⟨_, rfl⟩
        obtain ⟨n, hn⟩ : ∃ n, (parseR (⟨#[47]⟩ : ByteArray)).1.length = n := ⟨_, rfl⟩
        rw [hx] at he
        rw [hn] at hv
        subst he
        subst hv
        have HD2 : Hid (x = (if k ≤ 4 then 0 else 1102) ∧ n = (if k ≤ 4 then k else 0) ∧ (parseR ((⟨#[47]⟩ : ByteArray) ++ ⟨#[47]⟩)).2 = 1100 ∧ (parseR (⟨#[47]⟩ ++ (⟨#[47]⟩ : ByteArray))).2 = 1100) := ⟨hx ▸ HD.out.1, hn ▸ HD.out.2.1, HD.out.2.2⟩
        have H2 : Hid (Kept [] w w2 ∧ Tab w2) := ⟨HQ.out.1.trans hk2 (by simp), HQ.out.2.kept hk2⟩
        clear hS hk2 hx hn HD HQ
        by_cases h4 : k ≤ 4
        · have hx0 : x = 0 := by have := HD2.out.1; rw [if_pos h4] at this; exact this
          have hnk : n = k := by have := HD2.out.2.1; rw [if_pos h4] at this; exact this
          have i4 : (k : Int) ≤ 4 := by omega
          subst hx0
          subst hnk
          go_wp2_with fail
          refine (p_parse _ w2 H2.out.2).mono ?_
          rintro e w3 ⟨v3, he, hS, hk3⟩
          rw [HD2.out.2.2.1] at he
          subst he
          have H3 : Hid (Kept [] w w3 ∧ Tab w3) := ⟨H2.out.1.trans hk3 (by simp), H2.out.2.kept hk3⟩
          clear hS hk3 H2
          go_wp2_with fail
          refine (p_parse _ w3 H3.out.2).mono ?_
          rintro e w4 ⟨v4, he, hS, hk4⟩
          rw [HD2.out.2.2.2] at he
          subst he
          have H4 : Hid (Below w.heap.size w w4) := (H3.out.1.trans hk4 (by simp)).below (Nat.le_refl _) (by simp)
          clear hS hk4 H3 HD2
          go_wp2_with fail
          refine (num_of _ _).mono ?_
          rintro e w5 ⟨rfl, hw⟩
          have hw2 := hw.symm
          subst hw2
          go_wp2_with fail
          refine (num_of _ _).mono ?_
          rintro e w5 ⟨rfl, hw⟩
          have hw2 := hw.symm
          subst hw2
          go_wp2_with fail
          refine (num_of _ _).mono ?_
          rintro e w5 ⟨rfl, hw⟩
          have hw2 := hw.symm
          subst hw2
          go_wp2_with fail
          go_ret
          exact ⟨rfl, H4.out⟩
        · exact absurd (show k ≤ 4 by omega) h4
      · have e0 : t = u := ht hk0
        have i2 : ¬ (k : Int) = 0 := by omega
        have i3 : ((k : Int) == 0) = false := by simpa using i2
        subst e0
        clear ht hu0
        go_wp2_with fail
        refine (p_parse t wr HQ.out.2).mono ?_
        rintro e w2 ⟨v, he, hS, hk2⟩
        obtain ⟨a2, c2, hv, -⟩ := hS.read
        obtain ⟨x, hx⟩ : ∃ x, (parseR t).2 = x := ⟨_, rfl⟩
        obtain ⟨n, hn⟩ : ∃ n, (parseR t).1.length = n := ⟨_, rfl⟩
        rw [hx] at he
        rw [hn] at hv
        subst he
        subst hv
        have HD2 : Hid (x = (if k ≤ 4 then 0 else 1102) ∧ n = (if k ≤ 4 then k else 0) ∧ (parseR (t ++ ⟨#[47]⟩)).2 = 1100 ∧ (parseR (⟨#[47]⟩ ++ t)).2 = 1100) := ⟨hx ▸ HD.out.1, hn ▸ HD.out.2.1, HD.out.2.2⟩
        have H2 : Hid (Kept [] w w2 ∧ Tab w2) := ⟨HQ.out.1.trans hk2 (by simp), HQ.out.2.kept hk2⟩
        clear hS hk2 hx hn HD HQ
        by_cases h4 : k ≤ 4
        · have hx0 : x = 0 := by have := HD2.out.1; rw [if_pos h4] at this; exact this
          have hnk : n = k := by have := HD2.out.2.1; rw [if_pos h4] at this; exact this
          have i4 : (k : Int) ≤ 4 := by omega
          subst hx0
          subst hnk
          go_wp2_with fail
          refine (p_parse _ w2 H2.out.2).mono ?_
          rintro e w3 ⟨v3, he, hS, hk3⟩
          rw [HD2.out.2.2.1] at he
          subst he
          have H3 : Hid (Kept [] w w3 ∧ Tab w3) := ⟨H2.out.1.trans hk3 (by simp), H2.out.2.kept hk3⟩
          clear hS hk3 H2
          go_wp2_with fail
          refine (p_parse _ w3 H3.out.2).mono ?_
          rintro e w4 ⟨v4, he, hS, hk4⟩
          rw [HD2.out.2.2.2] at he
          subst he
          have H4 : Hid (Below w.heap.size w w4) := (H3.out.1.trans hk4 (by simp)).below (Nat.le_refl _) (by simp)
          clear hS hk4 H3 HD2
          go_wp2_with fail
          refine (num_of _ _).mono ?_
          rintro e w5 ⟨rfl, hw⟩
          have hw2 := hw.symm
          subst hw2
          go_wp2_with fail
          refine (num_of _ _).mono ?_
          rintro e w5 ⟨rfl, hw⟩
          have hw2 := hw.symm
          subst hw2
          go_wp2_with fail
          refine (num_of _ _).mono ?_
          rintro e w5 ⟨rfl, hw⟩
          have hw2 := hw.symm
          subst hw2
          go_wp2_with fail
          go_ret
          exact ⟨rfl, H4.out⟩
        · have hx0 : x = 1102 := by have := HD2.out.1; rw [if_neg h4] at this; exact this
          have i4 : ¬ (k : Int) ≤ 4 := by omega
          subst hx0
          go_wp2_with fail
          refine (p_parse _ w2 H2.out.2).mono ?_
          rintro e w3 ⟨v3, he, hS, hk3⟩
          rw [HD2.out.2.2.1] at he
          subst he
          have H3 : Hid (Kept [] w w3 ∧ Tab w3) := ⟨H2.out.1.trans hk3 (by simp), H2.out.2.kept hk3⟩
          clear hS hk3 H2
          go_wp2_with fail
          refine (p_parse _ w3 H3.out.2).mono ?_
          rintro e w4 ⟨v4, he, hS, hk4⟩
          rw [HD2.out.2.2.2] at he
          subst he
          have H4 : Hid (Below w.heap.size w w4) := (H3.out.1.trans hk4 (by simp)).below (Nat.le_refl _) (by simp)
          clear hS hk4 H3 HD2
          go_wp2_with fail
          refine (num_of _ _).mono ?_
          rintro e w5 ⟨rfl, hw⟩
          have hw2 := hw.symm
          subst hw2
          go_wp2_with fail
          refine (num_of _ _).mono ?_
          rintro e w5 ⟨rfl, hw⟩
          have hw2 := hw.symm
          subst hw2
          go_wp2_with fail
          refine (num_of _ _).mono ?_
          rintro e w5 ⟨rfl, hw⟩
          have hw2 := hw.symm
          subst hw2
          go_wp2_with fail
          refine (num_of _ _).mono ?_
          rintro e w5 ⟨rfl, hw⟩
          have hw2 := hw.symm
          subst hw2
          go_wp2_with fail
          go_ret
          exact ⟨rfl, H4.out⟩

set_option maxRecDepth 100000 in
theorem lifted (os : Os) (started : os.Started) (H : Type) (enc : TypeId × Value → H) :
    ReturnsInHanded {} Tryd.checked os 6 .any (fun w args => (Rows.pathDepthsSpec.pre enc Tryd.prog Tryd.f6 [] false w args ∧ laidMetH Tryd.prog laid2 w) ∧ sizedMet enc Tryd.prog Tryd.f6 (OpenSpec.ofChange Rows.pathDepthsSpec) false w args)
      (Rows.pathDepthsSpec.post enc Tryd.prog Tryd.f6 false true false false) := by
  refine returnsInHanded_of_change_and (C := Tryd.checked) (X := fun w _ => laidMetH Tryd.prog laid2 w) (fun _ _ _ hh h => h.of_heap hh) own started (by kernel_rfl) Tryd.func6
    (ChangeSpec.witness_shaped (enc := enc) (C := Tryd.checked) (os := os) (X := fun w _ => laidMetH Tryd.prog laid2 w) false (World.laidAll Tryd.prog os laid2) #[.int .i64 0, .int .i64 0] 8 (World.laidAll_os _ _ _) (World.shaped_of_ZipB (by kernel_rfl) (by kernel_rfl)) (by kernel_rfl) (by kernel_rfl) (by kernel_rfl) (met_laid os _)) ?_
  intro W base args ds gs before hval0 hW _ hsz0 hL _
  have hsz : (DataW.weightsEach Tryd.prog (Tryd.f6.params.toList ++ Rows.pathDepthsSpec.plain.varTypes Tryd.prog) (ds ++ gs)).all (· ≤ reachBytes) = true := hsz0
  have hval : ∀ (j : Nat) t v, Tryd.f6.params[j]? = some t → args[j]? = some v → Value.okWide Tryd.prog W .any base t v := hval0
  have hW' := hW
  obtain ⟨p, q, hA0, hV, rfl, hfz, hnd⟩ := hW
  have hA : DataW.TrodAll enc Tryd.prog W 0 (fun _ => true) true Tryd.f6.params.toList args.toList ds p := hA0
  rw [Tryd.params6] at hA hval hsz
  obtain ⟨v0, vs0, d0, ds0, p0, q0, hargs, rfl, rfl, h0, r0⟩ := trodAll_cons hA
  obtain ⟨v1, vs1, d1, ds1, p1, q1, rfl, rfl, rfl, h1, r1⟩ := trodAll_cons r0
  obtain ⟨rfl, rfl, rfl⟩ := trodAll_nil r1
  obtain rfl : args = #[v0, v1] := by cases args; simp_all
  obtain ⟨rfl, rfl⟩ := trodVars_none hV
  obtain ⟨a0, rfl, rfl, rfl, w0⟩ := open_int Tryd.underlying3 (hval 0 3 v0 rfl rfl) h0
  obtain ⟨a1, rfl, rfl, rfl, w1⟩ := open_int Tryd.underlying3 (hval 1 3 v1 rfl rfl) h1
  clear hA0 hval0
  refine (walk a0 a1 W (of_laid hL) w0 w1).mono fun e W' ⟨he, bel⟩ => ?_
  subst he
  simp only [List.append_nil] at hW'
  exact ⟨_, rfl, _, _, _, [], [], [], hW', (trodAll_cons_mk (shut_bool Tryd.underlying4 _) trodAll_mk0), (trodAll_cons_mk (shut_int Tryd.underlying3 w0) (trodAll_cons_mk (shut_int Tryd.underlying3 w1) trodAll_mk0)), rfl, bel.frame _, fun h => by cases h⟩

theorem over : Rows.pathDepthsRow.holds Tryd.pinned (OpenSpec.ofChange Rows.pathDepthsSpec) :=
  OpenClaim.holds_of_wide 6 Tryd.f6 rfl rfl rfl rfl rfl rfl rfl ⟨rfl, rfl, rfl, rfl, rfl⟩ rfl rfl rfl rfl rfl (by kernel_rfl) Tryd.func6 (by kernel_rfl)
    (of_decide_eq_true (by kernel_rfl)) (by unfold Func.isWrapper; first | (rw [if_pos (by decide +kernel)]; kernel_rfl) | (rw [if_neg (by decide +kernel)]; exact ⟨rfl, rfl⟩))
    (fun os started H enc _ => lifted os started H enc)

theorem card : Rows.PathDepthsCardSaid :=
  Claim7.holds_tied_plain_at .later [] [.data, .pinned] true (true, "9e4aaf6cee642efeb51a8be85a17a31591f1cb05bc2a301100ccc79ecbe3d53b") false
    over (fun _ h => by cases h) (by kernel_rfl) (fun _ h => by cases h) pathDepths_row_tie rfl ⟨rfl, rfl⟩ (by kernel_rfl) rfl
    (fun f fn hf hfn => by
      obtain rfl : f = 6 := Option.some.inj ((show Tryd.prog.funcNamed "concourse/concourselaw11.PathDepths" = some 6 by kernel_rfl).symm.trans hf) |>.symm
      obtain rfl : fn = Tryd.f6 := (Option.some.inj (Tryd.func6.symm.trans hfn)).symm
      exact ⟨by kernel_rfl, fun j t ht => by
        rw [Tryd.params6] at ht
        have hm : t ∈ [3, 3] := by simpa using Array.mem_of_getElem? ht
        have hall : ([3, 3].all fun u => !Tryd.prog.wantsStandIn u) = true := by kernel_rfl
        exact (show Tryd.prog.wantsStandIn t = false by simpa using List.all_eq_true.1 hall t hm)⟩)
    (by kernel_rfl)

end Go.Proofs.YtffmfgjinpigeaaDoor.pathDepths

namespace Go.Proofs.YtffmfgjinpigeaaDoor
theorem pathDepths_holds : Rows.PathDepthsCardSaid := pathDepths.card
#print axioms pathDepths_holds
end Go.Proofs.YtffmfgjinpigeaaDoor
