/-
  Proved: for every ready, pick, cores and picks, of bulk at most 1048576 together, the law SchedPicks returns true. No other condition.
-/
import Derived.Test.YtehfmmmkhjjjfaaRows
import Derived.Test.YtehfmmmkhjjjfaaAwake
import Derived.Test.YtehfmmmkhjjjfaaLend
import Derived.Test.YtehfmmmkhjjjfaaOpen
import Derived.WalkKit
import Derived.ProofKit
import Derived.OpenShut
import Derived.ShutString
import Derived.ChangeOld
import Derived.Below
import Derived.JoinedCond
import Derived.Deep.Slices
namespace Go.Proofs.Ytehfmmmkhjjjfaa.schedPicks
open Go.ChangeShapes Go.WideShapes Go.ChangeAt Go.RowKit
set_option linter.unusedVariables false

theorem own : ownKnob Try.prog.godebug = none := by kernel_rfl
theorem laidOut : laidOutB Try.prog = true := by kernel_rfl

theorem build0b (w : World) : (Instr.buildSlice 22 0 #[]).run Try.prog w = .ok (.slice (some ⟨w.heap.size, 0, none⟩) 0 0) (w.alloc (.cells #[] 4)) := by kernel_rfl

/-- A copy of a slice of bools. -/
theorem copyBools {w : World} {a : Option Addr} {n c : Nat} {B : Nat → Bool} (h : Bl w a n B) (hn : n ≤ 1048576) :
    ∃ g cap w1, (Builtin.append_ #[22, 22] 22 #[.slice (some ⟨w.heap.size, 0, none⟩) 0 0, .slice a n c]).run Try.prog (w.alloc (.cells #[] 4)) = .ok (.slice (some ⟨g, 0, none⟩) n cap) w1 ∧ Bl w1 (some ⟨g, 0, none⟩) n B ∧ Still w w1 := by
  by_cases h0 : n = 0
  · subst h0
    exact ⟨_, _, _, run_append_none Try.underlying22 (by kernel_rfl) 22 _ _ _ _, fun i hi => by omega, still_alloc _ _⟩
  · obtain ⟨b, off, rfl, _⟩ := h 0 (by omega)
    have hc : ∀ i, i < n → w.cell? ⟨b, off + i, none⟩ = some (.bool (B i)) := fun i hi => by
      obtain ⟨b', off', e, hc⟩ := h i hi
      simp only [Option.some.injEq, Addr.mk.injEq, and_true] at e
      obtain ⟨rfl, rfl⟩ := e
      exact hc
    obtain ⟨i0, hi, hz0, hz1, hz2⟩ := info_parts info4
    have hnews : ∀ j u, ((List.range n).map fun i => Value.bool (B i))[j]? = some u → (w.alloc (.cells #[] 4)).cell? ((⟨b, off, none⟩ : Addr).add j) = some u := fun j u hu => by
      have hj : j < n := by
        rcases Nat.lt_or_ge j n with h1 | h1
        · exact h1
        · rw [List.getElem?_eq_none (by simpa using h1)] at hu; cases hu
      rw [show (⟨b, off, none⟩ : Addr).add j = ⟨b, off + j, none⟩ from by unfold Addr.add; split <;> simp_all]
      refine cell_still (still_alloc _ _) ?_
      rw [hc j hj, ← hu]
      simp [hj]
    obtain ⟨g, cap, w1, hr, ho, hg, hat, hlt⟩ := run_append_lies (P := Try.prog) (w.alloc (.cells #[] 4)) 22 22 w.heap.size 4 i0 (.bool false) 1 1 Try.underlying22 hi hz0 hz1 hz2 rfl (by omega) _ 0 []
      (World.ownsRow_made w #[] 0 (Nat.le_refl _) (by unfold maxLen; omega) (by simp)) ⟨b, off, none⟩ n c _ (by simp) hnews (by
        intro u hu
        simp only [List.mem_map] at hu
        obtain ⟨_, _, rfl⟩ := hu
        rfl) (by omega) (by unfold maxLen; omega) (by omega) (by simp) _ rfl
    rw [Nat.zero_add] at hr ho
    refine ⟨g, cap, w1, hr, fun i hi => ⟨g, 0, rfl, ?_⟩, (still_alloc w _).grown hg (by simp) (fun k hk => by simp [Value.ownBlock] at hk; omega)⟩
    have h2 := ho.cells (g := g) rfl i (.bool (B i)) (by simp [hi])
    rw [add_lit] at h2
    simpa using h2

/-- What Turns answers, whatever the cores. -/
def tl (Z : Nat → Int) (c : Int) (n : Nat) : List Int := if c < 1 then [] else turns Z c n

theorem tl_length (Z : Nat → Int) (c : Int) (n : Nat) : (tl Z c n).length ≤ n := by
  unfold tl
  split
  · simp
  · rw [turns_length]; exact Nat.le_refl _

theorem turns_any {w : World} {a : Option Addr} {n cp : Nat} {Z : Nat → Int} (h : Il w a n Z) (hn : n ≤ 1048576) (c : Int) (hc2 : c ≤ 9223372036854775807) :
    Calls Try.prog 13 #[.int .i64 c, .slice a n cp] w fun e w' => ∃ v, e = .returned v ∧ Own w' w.heap.size v (tl Z c n) ∧ Still w w' := by
  by_cases hc : c < 1
  · refine (turns_no c hc).mono ?_
    rintro e w' ⟨rfl, rfl⟩
    exact ⟨_, rfl, by simp only [tl, if_pos hc]; exact Own.nil _ _, Below.refl _ _⟩
  · simp only [tl, if_neg hc]
    exact turns_yes h hn c (by omega) hc2

theorem rturns_any {w : World} {a : Option Addr} {n cp : Nat} {Z : Nat → Int} (h : Il w a n Z) (hn : n ≤ 1048576) (c : Int) (hc2 : c ≤ 9223372036854775807) :
    Calls Try.prog 14 #[.int .i64 c, .slice a n cp] w fun e w' => ∃ v, e = .returned v ∧ Own w' w.heap.size v (tl Z c n) ∧ Still w w' := by
  by_cases hc : c < 1
  · refine (rturns_no c hc).mono ?_
    rintro e w' ⟨rfl, rfl⟩
    exact ⟨_, rfl, by simp only [tl, if_pos hc]; exact Own.nil _ _, Below.refl _ _⟩
  · simp only [tl, if_neg hc]
    exact rturns_yes h hn c (by omega) hc2

set_option maxRecDepth 100000 in
set_option maxHeartbeats 4000000 in
theorem walk (a : Option Addr) (n c : Nat) (B : Nat → Bool) (p k : Int) (a2 : Option Addr) (m c2 : Nat) (Z : Nat → Int) (w : World) (hB : Bl w a n B) (hn : n ≤ 1048576) (hp : (Lit.int .i64 p).wf = true) (hk : (Lit.int .i64 k).wf = true) (hI : Il w a2 m Z) (hm : m ≤ 1048576) :
    Calls Try.prog 3 #[.slice a n c, .int .i64 p, .int .i64 k, .slice a2 m c2] w fun e w' => e = .returned (.bool true) ∧ Below w.heap.size w w' := by
  have hb := (bounds_i64 hk).2
  clear hp hk
  have hb0 := build0b
  obtain ⟨g, cap, w1, hrun, hB1, hS1⟩ := copyBools (c := c) hB hn
  have HH : Hid (_ ∧ _ ∧ _ ∧ _) := ⟨hB, hI, hB1, hS1⟩
  clear hB hI hB1 hS1
  go_enter Try.func3, Try.ntmps3
  go_wp2_with (first
    | (at_builtin; refine wpList_append_run _ rfl _ _ 22 22 rfl _ _ rfl rfl _ _ hrun ?_))
  refine (lend_any (c := c2) (Il.still HH.out.2.1 HH.out.2.2.2) hm).mono ?_
  rintro e w2 ⟨g2, cap2, rfl, hcap, hO2, hS2⟩
  have HL : Hid (_ ∧ _ ∧ _) := ⟨hO2, hS2, Still.then HH.out.2.2.2 hS2⟩
  clear hO2 hS2 hrun hb0
  go_wp2_with fail
  refine (pick_any (c := cap) (Bl.still HH.out.2.2.1 HL.out.2.1) hn p).mono ?_
  rintro e w3 ⟨rfl, hS3⟩
  have HS3 : Hid (_ ∧ _) := ⟨hS3, Still.then HL.out.2.2 hS3⟩
  clear hS3
  have hpa : pickAns (places B n) p = .tuple #[.int .i64 (pickAt (places B n) p), .bool (!(places B n).isEmpty)] := rfl
  rw [hpa]
  generalize pickAt (places B n) p = pa at *
  generalize (!(places B n).isEmpty) = pb at *
  have HPA : Hid (_ = _) := hpa
  clear hpa
  go_wp2_with fail
  refine (refPick (c := c) (Bl.still HH.out.1 HS3.out.2) hn p).mono ?_
  rintro e w4 ⟨rfl, hS4⟩
  rw [HPA.out]
  have HS4 : Hid (_ ∧ _) := ⟨hS4, Still.then HS3.out.2 hS4⟩
  clear hS4
  have q1 : (pa == pa) = true := by simp
  have q2 : (pb == pb) = true := by simp
  go_wp2_with fail
  refine (sameBools (c1 := cap) (c2 := c) (Bl.still HH.out.2.2.1 (Still.then HL.out.2.1 (Still.then HS3.out.1 HS4.out.1))) (Bl.still HH.out.1 HS4.out.2) hn).mono ?_
  rintro e w5 ⟨rfl, hS5⟩
  have HO5 : Hid (_ ∧ _) := ⟨Own.still HL.out.1 (Still.then HS3.out.1 (Still.then HS4.out.1 hS5)), Still.then HS4.out.2 hS5⟩
  clear hS5
  go_wp2_with fail
  refine (turns_any (cp := cap2) (lent_il HO5.out.1) hm k hb).mono ?_
  rintro e w6 ⟨v1, rfl, hV1, hS6⟩
  have HO6 : Hid (_ ∧ _ ∧ _) := ⟨Own.still HO5.out.1 hS6, Still.then HO5.out.2 hS6, hV1⟩
  clear hS6 hV1
  go_wp2_with fail
  refine (rturns_any (cp := c2) (Il.still HH.out.2.1 HO6.out.2.1) hm k hb).mono ?_
  rintro e w7 ⟨v2, rfl, hV2, hS7⟩
  have HO7 : Hid (_ ∧ _ ∧ _ ∧ _) := ⟨Own.still HO6.out.1 hS7, Still.then HO6.out.2.1 hS7, Own.still HO6.out.2.2 hS7, hV2⟩
  have HTL : Hid (_) := tl_length Z k m
  clear hS7 hV2
  obtain ⟨l, hl⟩ : ∃ l, tl Z k m = l := ⟨_, rfl⟩
  rw [hl] at HO7 HTL
  clear hl
  obtain ⟨av1, cv1, rfl⟩ := HO7.out.2.2.1.isSlice
  obtain ⟨av2, cv2, rfl⟩ := HO7.out.2.2.2.isSlice
  go_wp2_with fail
  refine (sameInts (c1 := cv1) (c2 := cv2) HO7.out.2.2.1.il.2 HO7.out.2.2.2.il.2 (Nat.le_trans HTL.out hm)).mono ?_
  rintro e w8 ⟨rfl, hS8⟩
  have HO8 : Hid (_ ∧ _) := ⟨Own.still HO7.out.1 hS8, Still.then HO7.out.2.1 hS8⟩
  clear hS8
  go_wp2_with fail
  refine (kept_any (c := c2) HO8.out.1 hcap (Il.still HH.out.2.1 HO8.out.2) hm).mono ?_
  rintro e w9 ⟨rfl, hS9⟩
  have HS9 : Hid (_) := Still.then HO8.out.2 hS9
  clear hS9
  go_wp2_with fail
  refine (awake_any w9).mono ?_
  rintro e w10 ⟨rfl, hS10⟩
  have HS10 : Hid (_) := Still.then HS9.out hS10
  clear hS10
  go_wp2
  go_ret
  exact ⟨rfl, HS10.out⟩

theorem contract (H : Type) (enc : TypeId × Value → H) (W : World) (base : Nat) (args : Array Value) (ds gs : List (DataW H)) (before : List MemPlace)
    (hval : ∀ (j : Nat) t v, Try.f3.params[j]? = some t → args[j]? = some v → Value.okWide Try.prog W .any base t v)
    (hW : DataW.Whole enc Try.prog Try.f3.params.toList Rows.schedPicksSpec.vars false W args.toList ds gs before) (hk : Rows.uptoSmall H (ds ++ gs) = true) :
    Calls Try.prog 3 args W fun e W' => ∃ v, e = .returned v ∧ Rows.schedPicksSpec.post enc Try.prog Try.f3 false true false false W args v W' := by
  have hW' := hW
  obtain ⟨p, q, hA0, hV, rfl, hfz, hnd⟩ := hW
  have hA : DataW.TrodAll enc Try.prog W 0 (fun _ => true) true Try.f3.params.toList args.toList ds p := hA0
  rw [Try.params3] at hA hval
  obtain ⟨v0, vs0, d0, ds0, p0, q0, hargs, rfl, rfl, h0, r0⟩ := trodAll_cons hA
  obtain ⟨v1, vs1, d1, ds1, p1, q1, rfl, rfl, rfl, h1, r1⟩ := trodAll_cons r0
  obtain ⟨v2, vs2, d2, ds2, p2, q2, rfl, rfl, rfl, h2, r2⟩ := trodAll_cons r1
  obtain ⟨v3, vs3, d3, ds3, p3, q3, rfl, rfl, rfl, h3, r3⟩ := trodAll_cons r2
  obtain ⟨rfl, rfl, rfl⟩ := trodAll_nil r3
  obtain rfl : args = #[v0, v1, v2, v3] := by cases args; simp_all
  obtain ⟨rfl, rfl⟩ := trodVars_none hV
  have hsm := small_of hk
  simp only [List.append_nil, Rows.uptoBulkAll] at hsm
  obtain ⟨a0, len0, cap0, rfl⟩ := okWide_slice Try.underlying22 (hval 0 22 v0 rfl rfl)
  have k0 := h0
  have lt0 : ∀ x ∈ p0, x.block < W.heap.size := by obtain ⟨m, hm⟩ := k0; exact DataW.trod_lt m _ _ _ hm
  obtain ⟨s0, b0, w0⟩ := open_bl h0
  obtain ⟨a1, rfl, rfl, rfl, w1⟩ := open_int Try.underlying3 (hval 1 3 v1 rfl rfl) h1
  obtain ⟨a2, rfl, rfl, rfl, w2⟩ := open_int Try.underlying3 (hval 2 3 v2 rfl rfl) h2
  obtain ⟨a3, len3, cap3, rfl⟩ := okWide_slice Try.underlying23 (hval 3 23 v3 rfl rfl)
  have k3 := h3
  have lt3 : ∀ x ∈ p3, x.block < W.heap.size := by obtain ⟨m, hm⟩ := k3; exact DataW.trod_lt m _ _ _ hm
  obtain ⟨s3, b3, w3⟩ := open_il h3
  clear hA0
  refine (walk a0 len0 cap0 b0 a1 a2 a3 len3 cap3 b3 W w0 (by omega) w1 w2 w3 (by omega)).mono fun e W' ⟨he, bel⟩ => ?_
  subst he
  exact ⟨_, rfl, _, _, _, [], _, [], hW', trodAll_mk1 (shut_bool Try.underlying4 _), (trodAll_cons_mk (Below.trod laidOut (by kernel_rfl) (of_decide_eq_true (by kernel_rfl)) k0 bel lt0) (trodAll_cons_mk (shut_int Try.underlying3 w1) (trodAll_cons_mk (shut_int Try.underlying3 w2) (trodAll_cons_mk (Below.trod laidOut (by kernel_rfl) (of_decide_eq_true (by kernel_rfl)) k3 bel lt3) trodAll_mk0)))), rfl, bel.frame _, fun h => by cases h⟩

set_option maxRecDepth 100000 in
theorem lifted (os : Os) (started : os.Started) (H : Type) (enc : TypeId × Value → H) (F : Stop.Interp) :
    ReturnsInHanded {} Try.checked os 3 .any ((Rows.OpenSpec.upto Rows.schedPicksSpec).pre6 enc Try.prog Try.f3 Rows.schedPicksUptoRow.domain false) (((Rows.OpenSpec.upto Rows.schedPicksSpec).at F).post enc Try.prog Try.f3 false true false false) := by
  refine returnsInHanded_of_cond (C := Try.checked) (s := Rows.OpenSpec.upto Rows.schedPicksSpec) (k := Rows.uptoSmall) rfl own started (by kernel_rfl) Try.func3
    (OpenSpec.witness (enc := enc) (C := Try.checked) (s := Rows.OpenSpec.upto Rows.schedPicksSpec) (k := Rows.uptoSmall) rfl false ⟨#[], #[.slice none 0 0, .int .i64 0, .int .i64 0, .slice none 0 0], []⟩ 8 (by kernel_rfl) (by kernel_rfl) (by kernel_rfl)
      (x := ([.nil, .lit (.int .i64 0), .lit (.int .i64 0), .nil], [], [])) (by kernel_rfl) rfl (by kernel_rfl)) ?_
  intro W base args ds gs before hval hW _ hk _
  exact contract H enc W base args ds gs before hval hW hk

theorem over : Rows.schedPicksUptoRow.holds Try.pinned (Rows.OpenSpec.upto Rows.schedPicksSpec) :=
  OpenClaim.holds_of_cond 3 Try.f3 rfl rfl rfl rfl rfl rfl rfl ⟨rfl, rfl, rfl, rfl, rfl⟩ rfl rfl rfl rfl rfl (by kernel_rfl) Try.func3 (by kernel_rfl)
    (of_decide_eq_true (by kernel_rfl)) (by unfold Func.isWrapper; first | (rw [if_pos (by decide +kernel)]; kernel_rfl) | (rw [if_neg (by decide +kernel)]; exact ⟨rfl, rfl⟩))
    (fun os started H enc _ F => lifted os started H enc F)

end Go.Proofs.Ytehfmmmkhjjjfaa.schedPicks

namespace Go.Proofs.Ytehfmmmkhjjjfaa
theorem schedPicks_holds : Rows.SchedPicksUptoSaid := schedPicks.over
#print axioms schedPicks_holds
end Go.Proofs.Ytehfmmmkhjjjfaa
