/-
  Proved: for every ready, picked, window and more, of bulk at most 1048576 together, the law SchedWide returns true. No other condition.
-/
import Derived.Test.YtehfmmmkhjjjfaaRows
import Derived.Test.YtehfmmmkhjjjfaaBits
import Derived.Test.YtehfmmmkhjjjfaaOpen
import Derived.WalkKit
import Derived.ProofKit
import Derived.OpenShut
import Derived.ShutString
import Derived.ChangeOld
import Derived.Below
import Derived.JoinedCond
import Derived.Deep.Slices
namespace Go.Proofs.Ytehfmmmkhjjjfaa.schedWide
open Go.ChangeShapes Go.WideShapes Go.ChangeAt Go.RowKit
set_option linter.unusedVariables false

theorem own : ownKnob Try.prog.godebug = none := by kernel_rfl
theorem laidOut : laidOutB Try.prog = true := by kernel_rfl

set_option maxHeartbeats 1000000 in
theorem main (a : Option Addr) (n c : Nat) (L : Nat → Nat) (B : Nat → Nat → Bool) (a2 : Option Addr) (m c2 : Nat) (P : Nat → Int) (W M : Int) (k q : Nat) (w : World) (hG : Gr w a n L B) (hn : n ≤ 1048576) (hL : ∀ r, r < n → L r ≤ 1048576) (hI : Il w a2 m P) (hm : m ≤ 1048576) (hk : 1 ≤ k) (hk8 : k ≤ 8) (hq : 1 ≤ q) (hq8 : q ≤ 8) (hb : bits .and .i64 W 7 = (k : Int) - 1) (hb2 : bits .and .i64 M 7 = (q : Int) - 1) :
    Calls Try.prog 7 #[.slice a n c, .slice a2 m c2, .int .i64 W, .int .i64 M] w fun e w' => e = .returned (.bool true) ∧ Below w.heap.size w w' := by
  have e1 : 1 + ((k : Int) - 1) = (k : Int) := by omega
  have e2 : 1 + ((q : Int) - 1) = (q : Int) := by omega
  have HH : Hid (_ ∧ _ ∧ _) := ⟨hG, hI, hL⟩
  clear hG hI hL
  go_enter Try.func7, Try.ntmps7
  go_wp2_with fail
  refine (awake_any w).mono ?_
  rintro e w1 ⟨rfl, hS⟩
  have HS1 : Hid (_) := hS
  clear hS
  go_wp2_with fail
  refine (fair_any (c := c) (c2 := c2) (Gr.still HH.out.1 HS1.out) (Il.still HH.out.2.1 HS1.out) hn hm HH.out.2.2 (k : Int) (by omega)).mono ?_
  rintro e w2 ⟨⟨r, rfl, hr⟩, hS⟩
  have HS2 : Hid (_) := Still.then HS1.out hS
  have HR : Hid (_) := hr
  clear hS hr
  cases r with
  | false =>
    go_wp2
    go_ret
    exact ⟨rfl, HS2.out⟩
  | true =>
    go_wp2_with fail
    refine (fair_any (c := c) (c2 := c2) (Gr.still HH.out.1 HS2.out) (Il.still HH.out.2.1 HS2.out) hn hm HH.out.2.2 ((k : Int) + (q : Int)) (by omega)).mono ?_
    rintro e w3 ⟨⟨r2, rfl, hr2⟩, hS⟩
    have h2 : r2 = true := hr2.2 (by
      rcases HR.out.1 (by trivial) with h | h
      · omega
      · exact Or.inr (h.wider (by omega)))
    subst h2
    have HS3 : Hid (_) := Still.then HS2.out hS
    clear hS hr2
    go_wp2_with fail
    refine (fair_any (c := c) (c2 := c2) (Gr.still HH.out.1 HS3.out) (Il.still HH.out.2.1 HS3.out) hn hm HH.out.2.2 0 (by omega)).mono ?_
    rintro e w4 ⟨⟨r3, rfl, hr3⟩, hS⟩
    have h3 : r3 = true := hr3.2 (Or.inl (by omega))
    subst h3
    have HS4 : Hid (_) := Still.then HS3.out hS
    clear hS hr3
    go_wp2
    go_ret
    exact ⟨rfl, HS4.out⟩

theorem walk (a : Option Addr) (n c : Nat) (L : Nat → Nat) (B : Nat → Nat → Bool) (a2 : Option Addr) (m c2 : Nat) (P : Nat → Int) (W M : Int) (w : World) (hG : Gr w a n L B) (hn : n ≤ 1048576) (hL : ∀ r, r < n → L r ≤ 1048576) (hI : Il w a2 m P) (hm : m ≤ 1048576) (hW : (Lit.int .i64 W).wf = true) (hM : (Lit.int .i64 M).wf = true) :
    Calls Try.prog 7 #[.slice a n c, .slice a2 m c2, .int .i64 W, .int .i64 M] w fun e w' => e = .returned (.bool true) ∧ Below w.heap.size w w' :=
  main a n c L B a2 m c2 P W M ((W % 8).toNat + 1) ((M % 8).toNat + 1) w hG hn hL hI hm (by omega) (by omega) (by omega) (by omega) (by rw [i64_and7]; omega) (by rw [i64_and7]; omega)

theorem contract (H : Type) (enc : TypeId × Value → H) (W : World) (base : Nat) (args : Array Value) (ds gs : List (DataW H)) (before : List MemPlace)
    (hval : ∀ (j : Nat) t v, Try.f7.params[j]? = some t → args[j]? = some v → Value.okWide Try.prog W .any base t v)
    (hW : DataW.Whole enc Try.prog Try.f7.params.toList Rows.schedWideSpec.vars false W args.toList ds gs before) (hk : Rows.uptoSmall H (ds ++ gs) = true) :
    Calls Try.prog 7 args W fun e W' => ∃ v, e = .returned v ∧ Rows.schedWideSpec.post enc Try.prog Try.f7 false true false false W args v W' := by
  have hW' := hW
  obtain ⟨p, q, hA0, hV, rfl, hfz, hnd⟩ := hW
  have hA : DataW.TrodAll enc Try.prog W 0 (fun _ => true) true Try.f7.params.toList args.toList ds p := hA0
  rw [Try.params7] at hA hval
  obtain ⟨v0, vs0, d0, ds0, p0, q0, hargs, rfl, rfl, h0, r0⟩ := trodAll_cons hA
  obtain ⟨v1, vs1, d1, ds1, p1, q1, rfl, rfl, rfl, h1, r1⟩ := trodAll_cons r0
  obtain ⟨v2, vs2, d2, ds2, p2, q2, rfl, rfl, rfl, h2, r2⟩ := trodAll_cons r1
  obtain ⟨v3, vs3, d3, ds3, p3, q3, rfl, rfl, rfl, h3, r3⟩ := trodAll_cons r2
  obtain ⟨rfl, rfl, rfl⟩ := trodAll_nil r3
  obtain rfl : args = #[v0, v1, v2, v3] := by cases args; simp_all
  obtain ⟨rfl, rfl⟩ := trodVars_none hV
  have hsm := small_of hk
  simp only [List.append_nil, Rows.uptoBulkAll] at hsm
  obtain ⟨a0, len0, cap0, rfl⟩ := okWide_slice Try.underlying32 (hval 0 32 v0 rfl rfl)
  have k0 := h0
  have lt0 : ∀ x ∈ p0, x.block < W.heap.size := by obtain ⟨m, hm⟩ := k0; exact DataW.trod_lt m _ _ _ hm
  obtain ⟨s0, l0, b0, w0, g0⟩ := open_gr h0
  obtain ⟨a1, len1, cap1, rfl⟩ := okWide_slice Try.underlying23 (hval 1 23 v1 rfl rfl)
  have k1 := h1
  have lt1 : ∀ x ∈ p1, x.block < W.heap.size := by obtain ⟨m, hm⟩ := k1; exact DataW.trod_lt m _ _ _ hm
  obtain ⟨s1, b1, w1⟩ := open_il h1
  obtain ⟨a2, rfl, rfl, rfl, w2⟩ := open_int Try.underlying3 (hval 2 3 v2 rfl rfl) h2
  obtain ⟨a3, rfl, rfl, rfl, w3⟩ := open_int Try.underlying3 (hval 3 3 v3 rfl rfl) h3
  clear hA0
  refine (walk a0 len0 cap0 l0 b0 a1 len1 cap1 b1 a2 a3 W w0 (by omega) (fun r hr => by have := g0 r hr; omega) w1 (by omega) w2 w3).mono fun e W' ⟨he, bel⟩ => ?_
  subst he
  exact ⟨_, rfl, _, _, _, [], _, [], hW', trodAll_mk1 (shut_bool Try.underlying4 _), (trodAll_cons_mk (Below.trod laidOut (by kernel_rfl) (of_decide_eq_true (by kernel_rfl)) k0 bel lt0) (trodAll_cons_mk (Below.trod laidOut (by kernel_rfl) (of_decide_eq_true (by kernel_rfl)) k1 bel lt1) (trodAll_cons_mk (shut_int Try.underlying3 w2) (trodAll_cons_mk (shut_int Try.underlying3 w3) trodAll_mk0)))), rfl, bel.frame _, fun h => by cases h⟩

set_option maxRecDepth 100000 in
theorem lifted (os : Os) (started : os.Started) (H : Type) (enc : TypeId × Value → H) (F : Stop.Interp) :
    ReturnsInHanded {} Try.checked os 7 .any ((Rows.OpenSpec.upto Rows.schedWideSpec).pre6 enc Try.prog Try.f7 Rows.schedWideUptoRow.domain false) (((Rows.OpenSpec.upto Rows.schedWideSpec).at F).post enc Try.prog Try.f7 false true false false) := by
  refine returnsInHanded_of_cond (C := Try.checked) (s := Rows.OpenSpec.upto Rows.schedWideSpec) (k := Rows.uptoSmall) rfl own started (by kernel_rfl) Try.func7
    (OpenSpec.witness (enc := enc) (C := Try.checked) (s := Rows.OpenSpec.upto Rows.schedWideSpec) (k := Rows.uptoSmall) rfl false ⟨#[], #[.slice none 0 0, .slice none 0 0, .int .i64 0, .int .i64 0], []⟩ 8 (by kernel_rfl) (by kernel_rfl) (by kernel_rfl)
      (x := ([.nil, .nil, .lit (.int .i64 0), .lit (.int .i64 0)], [], [])) (by kernel_rfl) rfl (by kernel_rfl)) ?_
  intro W base args ds gs before hval hW _ hk _
  exact contract H enc W base args ds gs before hval hW hk

theorem over : Rows.schedWideUptoRow.holds Try.pinned (Rows.OpenSpec.upto Rows.schedWideSpec) :=
  OpenClaim.holds_of_cond 7 Try.f7 rfl rfl rfl rfl rfl rfl rfl ⟨rfl, rfl, rfl, rfl, rfl⟩ rfl rfl rfl rfl rfl (by kernel_rfl) Try.func7 (by kernel_rfl)
    (of_decide_eq_true (by kernel_rfl)) (by unfold Func.isWrapper; first | (rw [if_pos (by decide +kernel)]; kernel_rfl) | (rw [if_neg (by decide +kernel)]; exact ⟨rfl, rfl⟩))
    (fun os started H enc _ F => lifted os started H enc F)

end Go.Proofs.Ytehfmmmkhjjjfaa.schedWide

namespace Go.Proofs.Ytehfmmmkhjjjfaa
theorem schedWide_holds : Rows.SchedWideUptoSaid := schedWide.over
#print axioms schedWide_holds
end Go.Proofs.Ytehfmmmkhjjjfaa
