/-
  Proved: for every cores and many, the law SchedRound returns true. No condition.
-/
import Derived.Test.YtehfmmmkhjjjfaaRows
import Derived.Test.YtehfmmmkhjjjfaaRound
import Derived.WalkKit
import Derived.ProofKit
import Derived.OpenShut
import Derived.ShutString
import Derived.ChangeOld
import Derived.Below
import Derived.Deep.Slices
namespace Go.Proofs.Ytehfmmmkhjjjfaa.schedRound
open Go.ChangeShapes Go.WideShapes Go.ChangeAt Go.RowKit
open Go.ChangeMaps (open_string shut_string)
set_option linter.unusedVariables false

theorem own : ownKnob Try.prog.godebug = none := by kernel_rfl
theorem laidOut : laidOutB Try.prog = true := by kernel_rfl

set_option maxRecDepth 100000 in
set_option maxHeartbeats 8000000 in
theorem main (cores many : Int) (k q : Nat) (w : World) (hk : 1 ≤ k) (hk8 : k ≤ 8) (hq : q ≤ 31) (hb : bits .and .i64 cores 7 = (k : Int) - 1) (hb2 : bits .and .i64 many 31 = (q : Int)) :
    Calls Try.prog 5 #[.int .i64 cores, .int .i64 many] w fun e w' => e = .returned (.bool true) ∧ Below w.heap.size w w' := by
  have e1 : 1 + ((k : Int) - 1) = (k : Int) := by omega
  obtain ⟨m, hm⟩ : ∃ m : Nat, m = k + q := ⟨_, rfl⟩
  have e2 : (k : Int) + (q : Int) = (m : Int) := by omega
  have HM : Hid (_ = _) := hm
  have hm2 : m ≤ 39 := by omega
  have hm3 : k ≤ m := by omega
  clear hm
  have hmk := make_bools k (by omega)
  obtain ⟨i3, hi3, hx0, hx1, hx2⟩ := info_parts info3
  obtain ⟨i22, hi22, hz0, hz1, hz2⟩ := info_parts info22
  go_enter Try.func5, Try.ntmps5
  go_wp2_with fail
  refine (awake_any w).mono ?_
  rintro e w1 ⟨rfl, hS⟩
  have HS1 : Hid (Still w w1) := hS
  clear hS
  have HA : Hid (Al w1 w1.heap.size k 0 (w1.alloc (.cells (List.replicate k (.bool false)).toArray 4))) := Al.start w1 k
  go_wp2_with fail
  obtain ⟨ga, hga⟩ : ∃ ga, w1.heap.size = ga := ⟨_, rfl⟩
  rw [hga]
  have HA2 : Hid (Al w1 ga k 0 (w1.alloc (.cells (List.replicate k (.bool false)).toArray 4))) := by rw [← hga]; exact HA.out
  have HG : Hid (_ = _) := hga
  clear HA hga hmk e1 e2 hb hb2
  go_loopw [10] (fun i wr => ∃ n : Nat, n ≤ k ∧ i = .int .i64 (n : Int) ∧ Hid (Al w1 ga k n wr)) (fun i _ => (k - intOf i).toNat)
  case atStart => exact ⟨0, by omega, rfl, HA2⟩
  case round =>
    clear HA2
    obtain ⟨i, hi, rfl, HR⟩ := hrel
    by_cases hlt : i < k
    · have i0 : (0 : Int) ≤ (i : Int) := by omega
      have i1 : (i : Int) < (k : Int) := by omega
      obtain ⟨⟨b, c0⟩, c1⟩ := HR.out.cell hlt
      go_wp2_with fail
      go_roundw
      case rel => exact ⟨i + 1, by omega, by go_num, HR.out.next hlt⟩
      case measure => simp [intOf]; omega
    · have i1 : ¬ (i : Int) < (k : Int) := by omega
      have : i = k := by omega
      subst this
      go_wp2_with fail
      go_loopw [7, 8, 11] (fun vr vp v wr => ∃ n : Nat, n ≤ m ∧ v = .int .i64 (n : Int) ∧ Hid (Rd w1 ga i n n vr vp wr)) (fun _ _ v _ => (m - intOf v).toNat)
      case atStart => exact ⟨0, by omega, rfl, Rd.start HR.out⟩
      case round =>
        clear HR
        obtain ⟨j, hj, rfl, HR⟩ := hrel
        by_cases hjm : j < m
        · have j1 : (j : Int) < (m : Int) := by omega
          have htm : (j : Int).tmod (i : Int) = ((j % i : Nat) : Int) := by
            rw [Int.tmod_eq_emod_of_nonneg (by omega)]; rfl
          have i0 : ((i : Int) == 0) = false := by simp; omega
          have i2 : (i : Int) ≠ 0 := by omega
          go_wp2_with fail
          refine (pick_any (c := i) HR.out.al.bl (by omega) (j : Int)).mono ?_
          rintro e w3 ⟨rfl, hS⟩
          rw [pick_round i j hk (by omega)]
          have hR3 := HR.out.still hS
          clear hS HR
          obtain ⟨y, hy⟩ : ∃ y : Nat, j % i = y := ⟨_, rfl⟩
          rw [hy] at htm ⊢
          have hyy : ((y : Int) != (y : Int)) = false := by simp
          have hR4 := hR3.still (still_alloc w3 (.cells #[.slice (some ⟨ga, 0, none⟩) i i] 22))
          have hO4 := hR4.rows
          have hB4 : w1.heap.size ≤ (w3.alloc (.cells #[.slice (some ⟨ga, 0, none⟩) i i] 22)).heap.size := hR4.al.still.size
          have HR4 : Hid (_) := hR4
          have HY : Hid (_ = _) := hy
          clear hR3 hR4 hy
          go_wp2_with (first
            | (at_builtin; refine wpList_append_lies _ rfl _ _ 32 rfl w1.heap.size 22 i22 (.slice none 0 0) 1 24 Try.underlying32 hi22 hz0 hz1 hz2 rfl (by omega) _ _ _ rfl hO4 ⟨_, 0, none⟩ 1 1 [.slice (some ⟨ga, 0, none⟩) i i] rfl rfl (cell_one_new _ _ _) (by simp [Value.oneCell']) (by omega) ?h63 ?hby hB4 _ rfl ?_))
          case h63 => unfold maxLen; omega
          case hby => omega
          intro g cap w5 hown hgrow hat hltg
          have hR5 := HR4.out.addRow hown hgrow (by simpa using hat)
          have hR6 := hR5.still (still_alloc w5 (.cells #[.int .i64 (y : Int)] 3))
          have hO6 := hR6.picks
          have hB6 : w1.heap.size ≤ (w5.alloc (.cells #[.int .i64 (y : Int)] 3)).heap.size := hR6.al.still.size
          have HR6 : Hid (_) := hR6
          have hrl := rnd_length i j
          clear hown hgrow hat hltg hO4 hB4 hR5 hR6 HR4
          go_wp2_with (first
            | (at_builtin; refine wpList_append_lies _ rfl _ _ 23 rfl w1.heap.size 3 i3 (.int .i64 0) 1 8 Try.underlying23 hi3 hx0 hx1 hx2 rfl (by omega) _ _ _ rfl hO6 ⟨_, 0, none⟩ 1 1 [.int .i64 (y : Int)] rfl rfl (cell_one_new _ _ _) (by simp [Value.oneCell']) (by omega) ?h632 ?hby2 hB6 _ rfl ?_))
          case h632 => unfold maxLen; omega
          case hby2 => omega
          intro g2 cap2 w7 hown2 hgrow2 hat2 hltg2
          have hN : Own w7 w1.heap.size (.slice (some ⟨g2, 0, none⟩) (j + 1) cap2) (rnd i (j + 1)) := by
            simp only [rnd, HY.out]
            exact Own.more (by rw [hrl]; exact hown2)
          have HN : Hid (_) := HR6.out.addPick hN hgrow2 (by simpa using hat2)
          clear hN hown2 hgrow2 hat2 hltg2 hO6 hB6 HR6
          go_wp2_with fail
          go_roundw
          case rel => exact ⟨j + 1, by omega, by go_num, HN⟩
          case measure => simp [intOf]; omega
        · have j1 : ¬ (j : Int) < (m : Int) := by omega
          have : j = m := by omega
          subst this
          obtain ⟨g, cap, a2, c2, rfl, rfl, hG, hI⟩ := HR.out.handed (by omega)
          have HH : Hid (_ ∧ _ ∧ _) := ⟨hG, hI, HR.out.al.still⟩
          clear HR hG hI
          go_wp2_with fail
          refine (fair_any (c := cap) (c2 := c2) HH.out.1 HH.out.2.1 (by omega) (by omega) (fun _ _ => by omega) (i : Int) (by omega)).mono ?_
          rintro e w3 ⟨⟨r, rfl, hr⟩, hS⟩
          have hr1 : r = true := hr.2 (Or.inr (round_fair i _ hk))
          subst hr1
          have HS3 : Hid (_ ∧ _) := ⟨hS, Still.then HH.out.2.2 hS⟩
          clear hr hS
          by_cases hone : i = 1
          · subst hone
            go_wp2
            go_ret
            exact ⟨rfl, Still.then HS1.out HS3.out.2⟩
          · have i4 : ((i : Int) == 1) = false := by simp; omega
            go_wp2_with fail
            refine (fair_any (c := cap) (c2 := c2) (Gr.still HH.out.1 HS3.out.1) (Il.still HH.out.2.1 HS3.out.1) (by omega) (by omega) (fun _ _ => by omega) ((i : Int) - 1) (by omega)).mono ?_
            rintro e w4 ⟨⟨r, rfl, hr⟩, hS⟩
            have hr1 : r = false := by
              cases r with
              | false => rfl
              | true =>
                rcases hr.1 rfl with h | h
                · omega
                · rw [Nat.min_self] at h
                  exact absurd h (round_unfair i j (by omega) hm3)
            subst hr1
            have HS4 : Hid (_) := Still.then HS3.out.2 hS
            clear hr hS
            go_wp2
            go_ret
            exact ⟨rfl, Still.then HS1.out HS4.out⟩

theorem walk (cores many : Int) (w : World) (_ : (Lit.int .i64 cores).wf = true) (_ : (Lit.int .i64 many).wf = true) :
    Calls Try.prog 5 #[.int .i64 cores, .int .i64 many] w fun e w' => e = .returned (.bool true) ∧ Below w.heap.size w w' :=
  main cores many ((cores % 8).toNat + 1) (many % 32).toNat w (by omega) (by omega) (by omega) (by rw [i64_and7]; omega) (by rw [i64_and31]; omega)

set_option maxRecDepth 100000 in
theorem lifted (os : Os) (started : os.Started) (H : Type) (enc : TypeId × Value → H) :
    ReturnsInHanded {} Try.checked os 5 .any (Rows.schedRoundSpec.pre6 enc Try.prog Try.f5 Rows.schedRoundRow.domain false) (Rows.schedRoundSpec.post enc Try.prog Try.f5 false true false false) := by
  refine returnsInHanded_of_change (C := Try.checked) own started (by kernel_rfl) Try.func5
    (ChangeSpec.witness6 (enc := enc) (C := Try.checked) false ⟨#[], #[.int .i64 0, .int .i64 0], []⟩ 8 (by kernel_rfl) (by kernel_rfl) (by kernel_rfl) (by kernel_rfl)) ?_
  intro W base args ds gs before hval0 hW hcnd _
  have hval : ∀ (j : Nat) t v, Try.f5.params[j]? = some t → args[j]? = some v → Value.okWide Try.prog W .any base t v := hval0
  have hW' := hW
  obtain ⟨p, q, hA0, hV, rfl, hfz, hnd⟩ := hW
  have hA : DataW.TrodAll enc Try.prog W 0 (fun _ => true) true Try.f5.params.toList args.toList ds p := hA0
  rw [Try.params5] at hA hval
  obtain ⟨v0, vs0, d0, ds0, p0, q0, hargs, rfl, rfl, h0, r0⟩ := trodAll_cons hA
  obtain ⟨v1, vs1, d1, ds1, p1, q1, rfl, rfl, rfl, h1, r1⟩ := trodAll_cons r0
  obtain ⟨rfl, rfl, rfl⟩ := trodAll_nil r1
  obtain rfl : args = #[v0, v1] := by cases args; simp_all
  obtain ⟨rfl, rfl⟩ := trodVars_none hV
  obtain ⟨a0, rfl, rfl, rfl, w0⟩ := open_int Try.underlying3 (hval 0 3 v0 rfl rfl) h0
  obtain ⟨a1, rfl, rfl, rfl, w1⟩ := open_int Try.underlying3 (hval 1 3 v1 rfl rfl) h1
  clear hA0 hval0
  refine (walk a0 a1 W w0 w1).mono fun e W' ⟨he, bel⟩ => ?_
  subst he
  simp only [List.append_nil] at hW'
  exact ⟨_, rfl, _, _, _, [], [], [], hW', (trodAll_cons_mk (shut_bool Try.underlying4 _) trodAll_mk0), (trodAll_cons_mk (shut_int Try.underlying3 w0) (trodAll_cons_mk (shut_int Try.underlying3 w1) trodAll_mk0)), rfl, bel.frame _, fun h => by cases h⟩

theorem over : Rows.schedRoundRow.holds Try.pinned (OpenSpec.ofChange Rows.schedRoundSpec) :=
  OpenClaim.holds_of_wide 5 Try.f5 rfl rfl rfl rfl rfl rfl rfl ⟨rfl, rfl, rfl, rfl, rfl⟩ rfl rfl rfl rfl rfl (by kernel_rfl) Try.func5 (by kernel_rfl)
    (of_decide_eq_true (by kernel_rfl)) (by unfold Func.isWrapper; first | (rw [if_pos (by decide +kernel)]; kernel_rfl) | (rw [if_neg (by decide +kernel)]; exact ⟨rfl, rfl⟩))
    (fun os started H enc _ => lifted os started H enc)

end Go.Proofs.Ytehfmmmkhjjjfaa.schedRound

namespace Go.Proofs.Ytehfmmmkhjjjfaa
theorem schedRound_holds : Rows.SchedRoundSaid := schedRound.over
#print axioms schedRound_holds
end Go.Proofs.Ytehfmmmkhjjjfaa
