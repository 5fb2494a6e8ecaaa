/-
  Proved: for every ready, picked and window, of bulk at most 1048576 together, the law SchedFairs returns true. No other condition.
-/
import Derived.Test.YtehfmmmkhjjjfaaRows
import Derived.Test.YtehfmmmkhjjjfaaRefFair2
import Derived.Test.YtehfmmmkhjjjfaaAwake
import Derived.Test.YtehfmmmkhjjjfaaOpen
import Derived.WalkKit
import Derived.ProofKit
import Derived.OpenShut
import Derived.ShutString
import Derived.ChangeOld
import Derived.Below
import Derived.JoinedCond
import Derived.Deep.Slices
namespace Go.Proofs.Ytehfmmmkhjjjfaa.schedFairs
open Go.ChangeShapes Go.WideShapes Go.ChangeAt Go.RowKit
set_option linter.unusedVariables false

theorem own : ownKnob Try.prog.godebug = none := by kernel_rfl
theorem laidOut : laidOutB Try.prog = true := by kernel_rfl

set_option maxHeartbeats 1000000 in
theorem walk (a : Option Addr) (n c : Nat) (L : Nat → Nat) (B : Nat → Nat → Bool) (a2 : Option Addr) (m c2 : Nat) (P : Nat → Int) (W : Int) (w : World) (hG : Gr w a n L B) (hn : n ≤ 1048576) (hL : ∀ r, r < n → L r ≤ 1048576) (hI : Il w a2 m P) (hm : m ≤ 1048576) (hW : (Lit.int .i64 W).wf = true) :
    Calls Try.prog 4 #[.slice a n c, .slice a2 m c2, .int .i64 W] w fun e w' => e = .returned (.bool true) ∧ Below w.heap.size w w' := by
  have hb := bounds_i64 hW
  clear hW
  have HH : Hid (_ ∧ _ ∧ _) := ⟨hG, hI, hL⟩
  clear hG hI hL
  go_enter Try.func4, Try.ntmps4
  go_wp2_with fail
  refine (fair_any (c := c) (c2 := c2) HH.out.1 HH.out.2.1 hn hm HH.out.2.2 W (by omega)).mono ?_
  rintro e w1 ⟨⟨r, rfl, hr⟩, hS⟩
  have HS : Hid (_ ∧ _) := ⟨hS, hr⟩
  clear hS hr
  go_wp2_with fail
  refine (rfair_any (c := c) (c2 := c2) (Gr.still HH.out.1 HS.out.1) (Il.still HH.out.2.1 HS.out.1) hn hm HH.out.2.2 W).mono ?_
  rintro e w2 ⟨⟨r2, rfl, hr2⟩, rfl⟩
  have he : r2 = r := Bool.eq_iff_iff.2 (hr2.trans HS.out.2.symm)
  subst he
  clear hr2
  have hrr : (r2 == r2) = true := by simp
  go_wp2_with fail
  refine (awake_any _).mono ?_
  rintro e w3 ⟨rfl, hS3⟩
  have HS3 : Hid (_) := hS3
  clear hS3
  go_wp2
  go_ret
  exact ⟨rfl, Still.then HS.out.1 HS3.out⟩

theorem contract (H : Type) (enc : TypeId × Value → H) (W : World) (base : Nat) (args : Array Value) (ds gs : List (DataW H)) (before : List MemPlace)
    (hval : ∀ (j : Nat) t v, Try.f4.params[j]? = some t → args[j]? = some v → Value.okWide Try.prog W .any base t v)
    (hW : DataW.Whole enc Try.prog Try.f4.params.toList Rows.schedFairsSpec.vars false W args.toList ds gs before) (hk : Rows.uptoSmall H (ds ++ gs) = true) :
    Calls Try.prog 4 args W fun e W' => ∃ v, e = .returned v ∧ Rows.schedFairsSpec.post enc Try.prog Try.f4 false true false false W args v W' := by
  have hW' := hW
  obtain ⟨p, q, hA0, hV, rfl, hfz, hnd⟩ := hW
  have hA : DataW.TrodAll enc Try.prog W 0 (fun _ => true) true Try.f4.params.toList args.toList ds p := hA0
  rw [Try.params4] at hA hval
  obtain ⟨v0, vs0, d0, ds0, p0, q0, hargs, rfl, rfl, h0, r0⟩ := trodAll_cons hA
  obtain ⟨v1, vs1, d1, ds1, p1, q1, rfl, rfl, rfl, h1, r1⟩ := trodAll_cons r0
  obtain ⟨v2, vs2, d2, ds2, p2, q2, rfl, rfl, rfl, h2, r2⟩ := trodAll_cons r1
  obtain ⟨rfl, rfl, rfl⟩ := trodAll_nil r2
  obtain rfl : args = #[v0, v1, v2] := by cases args; simp_all
  obtain ⟨rfl, rfl⟩ := trodVars_none hV
  have hsm := small_of hk
  simp only [List.append_nil, Rows.uptoBulkAll] at hsm
  obtain ⟨a0, len0, cap0, rfl⟩ := okWide_slice Try.underlying32 (hval 0 32 v0 rfl rfl)
  have k0 := h0
  have lt0 : ∀ x ∈ p0, x.block < W.heap.size := by obtain ⟨m, hm⟩ := k0; exact DataW.trod_lt m _ _ _ hm
  obtain ⟨s0, l0, b0, w0, g0⟩ := open_gr h0
  obtain ⟨a1, len1, cap1, rfl⟩ := okWide_slice Try.underlying23 (hval 1 23 v1 rfl rfl)
  have k1 := h1
  have lt1 : ∀ x ∈ p1, x.block < W.heap.size := by obtain ⟨m, hm⟩ := k1; exact DataW.trod_lt m _ _ _ hm
  obtain ⟨s1, b1, w1⟩ := open_il h1
  obtain ⟨a2, rfl, rfl, rfl, w2⟩ := open_int Try.underlying3 (hval 2 3 v2 rfl rfl) h2
  clear hA0
  refine (walk a0 len0 cap0 l0 b0 a1 len1 cap1 b1 a2 W w0 (by omega) (fun r hr => by have := g0 r hr; omega) w1 (by omega) w2).mono fun e W' ⟨he, bel⟩ => ?_
  subst he
  exact ⟨_, rfl, _, _, _, [], _, [], hW', trodAll_mk1 (shut_bool Try.underlying4 _), (trodAll_cons_mk (Below.trod laidOut (by kernel_rfl) (of_decide_eq_true (by kernel_rfl)) k0 bel lt0) (trodAll_cons_mk (Below.trod laidOut (by kernel_rfl) (of_decide_eq_true (by kernel_rfl)) k1 bel lt1) (trodAll_cons_mk (shut_int Try.underlying3 w2) trodAll_mk0))), rfl, bel.frame _, fun h => by cases h⟩

set_option maxRecDepth 100000 in
theorem lifted (os : Os) (started : os.Started) (H : Type) (enc : TypeId × Value → H) (F : Stop.Interp) :
    ReturnsInHanded {} Try.checked os 4 .any ((Rows.OpenSpec.upto Rows.schedFairsSpec).pre6 enc Try.prog Try.f4 Rows.schedFairsUptoRow.domain false) (((Rows.OpenSpec.upto Rows.schedFairsSpec).at F).post enc Try.prog Try.f4 false true false false) := by
  refine returnsInHanded_of_cond (C := Try.checked) (s := Rows.OpenSpec.upto Rows.schedFairsSpec) (k := Rows.uptoSmall) rfl own started (by kernel_rfl) Try.func4
    (OpenSpec.witness (enc := enc) (C := Try.checked) (s := Rows.OpenSpec.upto Rows.schedFairsSpec) (k := Rows.uptoSmall) rfl false ⟨#[], #[.slice none 0 0, .slice none 0 0, .int .i64 0], []⟩ 8 (by kernel_rfl) (by kernel_rfl) (by kernel_rfl)
      (x := ([.nil, .nil, .lit (.int .i64 0)], [], [])) (by kernel_rfl) rfl (by kernel_rfl)) ?_
  intro W base args ds gs before hval hW _ hk _
  exact contract H enc W base args ds gs before hval hW hk

theorem over : Rows.schedFairsUptoRow.holds Try.pinned (Rows.OpenSpec.upto Rows.schedFairsSpec) :=
  OpenClaim.holds_of_cond 4 Try.f4 rfl rfl rfl rfl rfl rfl rfl ⟨rfl, rfl, rfl, rfl, rfl⟩ rfl rfl rfl rfl rfl (by kernel_rfl) Try.func4 (by kernel_rfl)
    (of_decide_eq_true (by kernel_rfl)) (by unfold Func.isWrapper; first | (rw [if_pos (by decide +kernel)]; kernel_rfl) | (rw [if_neg (by decide +kernel)]; exact ⟨rfl, rfl⟩))
    (fun os started H enc _ F => lifted os started H enc F)

end Go.Proofs.Ytehfmmmkhjjjfaa.schedFairs

namespace Go.Proofs.Ytehfmmmkhjjjfaa
theorem schedFairs_holds : Rows.SchedFairsUptoSaid := schedFairs.over
#print axioms schedFairs_holds
end Go.Proofs.Ytehfmmmkhjjjfaa
