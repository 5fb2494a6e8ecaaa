/-
  For any two traces, of whatever length: Meet, Words and Writes answer as the document's own do, the traces that are lent stay as they were with the room behind them, and an answer that is spoilt leaves another as it was; the law returns true, and the traces stay.
-/
import Derived.Test.YtndcbpbigbjfeaaRows
import Derived.Test.YtndcbpbigbjfeaaRw
import Derived.Test.YtndcbpbigbjfeaaKp
import Derived.Test.YtndcbpbigbjfeaaOp
import Derived.WalkKit
import Derived.ProofKit
import Derived.OpenShut
import Derived.ShutString
import Derived.ChangeOld
import Derived.Below
import Derived.Deep.Slices
import Derived.SizedLaws
namespace Go.Proofs.Ytndcbpbigbjfeaa.traces
open Go.ChangeShapes Go.WideShapes Go.ChangeAt Go.RowKit
open Go.ChangeMaps (open_string shut_string)
set_option linter.unusedVariables false

theorem own : ownKnob Try.prog.godebug = none := by kernel_rfl
theorem laidOut : laidOutB Try.prog = true := by kernel_rfl

set_option maxRecDepth 100000 in
set_option maxHeartbeats 8000000 in
theorem walk (a0 : Option Addr) (len0 cap0 : Nat) (a1 : Option Addr) (len1 cap1 : Nat) (w : World) (h0 : IsActs w a0 len0) (h1 : IsActs w a1 len1) :
    Calls Try.prog 3 #[.slice a0 len0 cap0, .slice a1 len1 cap1] w fun e w' => e = .returned (.bool true) ∧ Below w.heap.size w w' := by
  obtain ⟨n0, X, rfl, x0⟩ := h0
  obtain ⟨n1, Y, rfl, y0⟩ := h1
  have m0 : X.length * 16 ≤ 140737488355328 := by omega
  have m1 : Y.length * 16 ≤ 140737488355328 := by omega
  have HH : Hid (Al w a0 X ∧ Al w a1 Y) := ⟨x0, y0⟩
  have HM : Hid ((X.length + 2) * 16 ≤ 140737488355328 ∧ (Y.length + 2) * 16 ≤ 140737488355328) := ⟨by omega, by omega⟩
  clear x0 y0 n0 n1
  have hcx : (canon (pos allc X)).length ≤ X.length := Nat.le_trans (length_canon _) (pos_len _ X)
  have hcw : (canon (pos id X)).length ≤ X.length := Nat.le_trans (length_canon _) (pos_len _ X)
  have HLX : Hid ((canon (pos allc X)).length * 16 ≤ 140737488355328 ∧ (canon (pos id X)).length * 16 ≤ 140737488355328 ∧ (canon (pos allc X)).length * 8 ≤ 140737488355328) := ⟨by omega, by omega, by omega⟩
  clear hcx hcw
  go_enter Try.func3, Try.ntmps3
  go_wp2_with fail
  refine (p_lend (c := cap0) HH.out.1 HM.out.1).mono ?_
  rintro e w1 ⟨gx, cx, rfl, hcx, ox, s1⟩
  have S1 : Hid (Still w w1 ∧ OwnA w1 w.heap.size (.slice (some ⟨gx, 0, none⟩) (X.length + 2) cx) (X ++ twin)) := ⟨s1, ox⟩
  clear s1 ox
  go_wp2_with fail
  refine (p_lend (c := cap1) (HH.out.2.still S1.out.1) HM.out.2).mono ?_
  rintro e w2 ⟨gy, cy, rfl, hcy, oy, s2⟩
  have S2 : Hid (Still w w2 ∧ OwnA w2 w.heap.size (.slice (some ⟨gx, 0, none⟩) (X.length + 2) cx) (X ++ twin) ∧ OwnA w2 w1.heap.size (.slice (some ⟨gy, 0, none⟩) (Y.length + 2) cy) (Y ++ twin)) := ⟨S1.out.1.then s2, S1.out.2.still s2, oy⟩
  have AX : Hid (Al w2 (some ⟨gx, 0, none⟩) X ∧ Al w2 (some ⟨gy, 0, none⟩) Y) := by
    obtain ⟨a', c', e1, -, hA⟩ := S2.out.2.1.al
    obtain ⟨a2, c2, e2, -, hB⟩ := S2.out.2.2.al
    simp only [Value.slice.injEq] at e1 e2
    obtain ⟨rfl, -, rfl⟩ := e1
    obtain ⟨rfl, -, rfl⟩ := e2
    exact ⟨hA.head, hB.head⟩
  clear s2 oy S1
  go_wp2_with fail
  refine (p_Words (c := cx) AX.out.1 m0).mono ?_
  rintro e w3 ⟨u, rfl, o3, s3⟩
  have S3 : Hid (Still w2 w3 ∧ Own w3 w2.heap.size u (canon (pos allc X))) := ⟨s3, o3⟩
  clear s3 o3
  go_wp2_with fail
  refine (p_Words (c := cx) (AX.out.1.still S3.out.1) m0).mono ?_
  rintro e w4 ⟨v, rfl, o4, s4⟩
  have S4 : Hid (Still w2 w4 ∧ Own w4 w2.heap.size u (canon (pos allc X)) ∧ Own w4 w3.heap.size v (canon (pos allc X)) ∧ w2.heap.size ≤ w3.heap.size ∧ ∀ k, u.ownBlock = some k → k < w3.heap.size) := ⟨S3.out.1.then s4, S3.out.2.still s4, o4, S3.out.1.size, fun k hk => (S3.out.2.block k hk).2⟩
  clear s4 o4 S3
  go_wp2_with fail
  refine (p_Writes (c := cx) (AX.out.1.still S4.out.1) m0).mono ?_
  rintro e w5 ⟨t, rfl, o5, s5⟩
  have S5 : Hid (Still w2 w5 ∧ Own w5 w2.heap.size u (canon (pos allc X)) ∧ Own w5 w3.heap.size v (canon (pos allc X)) ∧ (w2.heap.size ≤ w3.heap.size ∧ ∀ k, u.ownBlock = some k → k < w3.heap.size) ∧ Own w5 w4.heap.size t (canon (pos id X))) := ⟨S4.out.1.then s5, S4.out.2.1.still s5, S4.out.2.2.1.still s5, S4.out.2.2.2, o5⟩
  clear s5 o5 S4
  go_wp2_with fail
  refine (p_Meet (c := cx) (d := cy) (AX.out.1.still S5.out.1) (AX.out.2.still S5.out.1) m0 m1).mono ?_
  rintro e w6 ⟨rfl, s6⟩
  have S6 : Hid (Still w5 w6) := s6
  clear s6
  go_wp2_with fail
  refine (r_Meet (c := cap0) (d := cap1) (HH.out.1.still (S2.out.1.then (S5.out.1.then S6.out))) (HH.out.2.still (S2.out.1.then (S5.out.1.then S6.out))) m0 m1).mono ?_
  rintro e w7 ⟨rfl, s7⟩
  have S7 : Hid (Still w5 w7) := S6.out.then s7
  clear s7 S6
  have t0 : (meetB X Y != meetB X Y) = false := by simp
  go_wp2_with fail
  refine (r_Words (c := cap0) (HH.out.1.still (S2.out.1.then (S5.out.1.then S7.out))) false m0).mono ?_
  rintro e w8 ⟨r1, rfl, o8, s8⟩
  have S8 : Hid (Still w5 w8 ∧ Own w8 w7.heap.size r1 (canon (pos allc X))) := ⟨S7.out.then s8, o8⟩
  clear s8 o8 S7 t0
  go_wp2_with fail
  refine (p_same (X := canon (pos allc X)) (S5.out.2.1.rd.still S8.out.1) S8.out.2.rd HLX.out.1).mono ?_
  rintro e w9 ⟨rfl, s9⟩
  have S9 : Hid (Still w5 w9) := S8.out.1.then s9
  clear s9 S8
  go_wp2_with fail
  refine (r_Words (c := cap0) (HH.out.1.still (S2.out.1.then (S5.out.1.then S9.out))) true m0).mono ?_
  rintro e w10 ⟨r2, rfl, o10, s10⟩
  have S10 : Hid (Still w5 w10 ∧ Own w10 w9.heap.size r2 (canon (pos id X))) := ⟨S9.out.then s10, o10⟩
  clear s10 o10 S9
  go_wp2_with fail
  refine (p_same (X := canon (pos id X)) (S5.out.2.2.2.2.rd.still S10.out.1) S10.out.2.rd HLX.out.2.1).mono ?_
  rintro e w11 ⟨rfl, s11⟩
  have S11 : Hid (Still w5 w11) := S10.out.1.then s11
  clear s11 S10
  go_wp2_with fail
  refine (p_kept (c := cap0) (S2.out.2.1.still (S5.out.1.then S11.out)) (HH.out.1.still (S2.out.1.then (S5.out.1.then S11.out))) hcx m0).mono ?_
  rintro e w12 ⟨rfl, s12⟩
  have S12 : Hid (Still w5 w12) := S11.out.then s12
  clear s12 S11
  go_wp2_with fail
  refine (p_kept (c := cap1) (S2.out.2.2.still (S5.out.1.then S12.out)) (HH.out.2.still (S2.out.1.then (S5.out.1.then S12.out))) hcy m1).mono ?_
  rintro e w13 ⟨rfl, s13⟩
  have S13 : Hid (Still w5 w13) := S12.out.then s13
  clear s13 S12
  go_wp2_with fail
  refine (p_spoil (S5.out.2.1.still S13.out) HLX.out.2.2).mono ?_
  rintro e w14 ⟨rfl, g14⟩
  have S14 : Hid (Below w.heap.size w w14 ∧ Own w14 w3.heap.size v (canon (pos allc X))) := by
    have hw2 : Still w w13 := S2.out.1.then (S5.out.1.then S13.out)
    refine ⟨hw2.grown g14 hw2.size (fun k hk => ?_), ?_⟩
    · have := (S5.out.2.1.block k hk).1
      have := S2.out.1.size
      omega
    · have hv := S5.out.2.2.1.still S13.out
      refine hv.same fun k hk => g14.block k (hv.block k hk).2 fun e => ?_
      have h1 := S5.out.2.2.2.1.2 k e.symm
      have h2 := (hv.block k hk).1
      omega
  clear g14 S13 S5 S2
  go_wp2_with fail
  refine (r_Words (c := cap0) (HH.out.1.still S14.out.1) false m0).mono ?_
  rintro e w15 ⟨r3, rfl, o15, s15⟩
  have S15 : Hid (Below w.heap.size w w15 ∧ Own w15 w3.heap.size v (canon (pos allc X)) ∧ Own w15 w14.heap.size r3 (canon (pos allc X))) := ⟨Still.then S14.out.1 s15, S14.out.2.still s15, o15⟩
  clear s15 o15 S14
  go_wp2_with fail
  refine (p_same (X := canon (pos allc X)) S15.out.2.1.rd S15.out.2.2.rd HLX.out.1).mono ?_
  rintro e w16 ⟨rfl, s16⟩
  have S16 : Hid (Below w.heap.size w w16) := Still.then S15.out.1 s16
  clear s16 S15
  go_wp2_with fail
  refine (p_awake w16).mono ?_
  rintro e w17 ⟨rfl, s17⟩
  have S17 : Hid (Below w.heap.size w w17) := Still.then S16.out s17
  clear s17 S16
  go_wp2
  go_ret
  exact ⟨rfl, S17.out⟩

set_option maxRecDepth 100000 in
theorem lifted (os : Os) (started : os.Started) (H : Type) (enc : TypeId × Value → H) :
    ReturnsInHanded {} Try.checked os 3 .any (Rows.tracesSpec.pre6 enc Try.prog Try.f3 Rows.tracesRow.domain false) (Rows.tracesSpec.post enc Try.prog Try.f3 false true false false) := by
  refine returnsInHanded_of_change_sized (C := Try.checked) own started (by kernel_rfl) Try.func3
    (ChangeSpec.witness6 (enc := enc) (C := Try.checked) false ⟨#[], #[.slice none 0 0, .slice none 0 0], []⟩ 8 (by kernel_rfl) (by kernel_rfl) (by kernel_rfl) (by kernel_rfl)) ?_
  intro W base args ds gs before hval0 hW hcnd hsz0 _
  have hval : ∀ (j : Nat) t v, Try.f3.params[j]? = some t → args[j]? = some v → Value.okWide Try.prog W .any base t v := hval0
  have hW' := hW
  obtain ⟨p, q, hA0, hV, rfl, hfz, hnd⟩ := hW
  have hA : DataW.TrodAll enc Try.prog W 0 (fun _ => true) true Try.f3.params.toList args.toList ds p := hA0
  have hsz : (DataW.weightsEach Try.prog (Try.f3.params.toList ++ Rows.tracesSpec.plain.varTypes Try.prog) (ds ++ gs)).all (· ≤ reachBytes) = true := hsz0
  rw [Try.params3] at hA hval hsz
  obtain ⟨v0, vs0, d0, ds0, p0, q0, hargs, rfl, rfl, h0, r0⟩ := trodAll_cons hA
  obtain ⟨v1, vs1, d1, ds1, p1, q1, rfl, rfl, rfl, h1, r1⟩ := trodAll_cons r0
  obtain ⟨rfl, rfl, rfl⟩ := trodAll_nil r1
  obtain rfl : args = #[v0, v1] := by cases args; simp_all
  obtain ⟨rfl, rfl⟩ := trodVars_none hV
  obtain ⟨a0, len0, cap0, rfl⟩ := okWide_slice Try.underlying22 (hval 0 22 v0 rfl rfl)
  have k0 := h0
  have lt0 : ∀ x ∈ p0, x.block < W.heap.size := by obtain ⟨m, hm⟩ := k0; exact DataW.trod_lt m _ _ _ hm
  have wt0 : ∀ n ∈ d0.weights Try.prog 22, n ≤ reachBytes := fun n hn => by
    have := List.all_eq_true.1 hsz n (DataW.weights_mem_each (j := 0) rfl rfl n hn)
    simpa using this
  have w0 : IsActs W a0 len0 := by
    obtain ⟨fuel, hf⟩ := h0
    exact acts_at hf wt0
  obtain ⟨a1, len1, cap1, rfl⟩ := okWide_slice Try.underlying22 (hval 1 22 v1 rfl rfl)
  have k1 := h1
  have lt1 : ∀ x ∈ p1, x.block < W.heap.size := by obtain ⟨m, hm⟩ := k1; exact DataW.trod_lt m _ _ _ hm
  have wt1 : ∀ n ∈ d1.weights Try.prog 22, n ≤ reachBytes := fun n hn => by
    have := List.all_eq_true.1 hsz n (DataW.weights_mem_each (j := 1) rfl rfl n hn)
    simpa using this
  have w1 : IsActs W a1 len1 := by
    obtain ⟨fuel, hf⟩ := h1
    exact acts_at hf wt1
  clear hA0 hval0
  refine (walk a0 len0 cap0 a1 len1 cap1 W w0 w1).mono fun e W' ⟨he, bel⟩ => ?_
  subst he
  exact ⟨_, rfl, _, _, _, [], _, [], hW', trodAll_mk1 (shut_bool Try.underlying4 _), (trodAll_cons_mk (Below.trod laidOut (by kernel_rfl) (of_decide_eq_true (by kernel_rfl)) k0 bel lt0) (trodAll_cons_mk (Below.trod laidOut (by kernel_rfl) (of_decide_eq_true (by kernel_rfl)) k1 bel lt1) trodAll_mk0)), rfl, bel.frame _, fun h => by cases h⟩

theorem over : Rows.tracesRow.holds Try.pinned (OpenSpec.ofChange Rows.tracesSpec) :=
  OpenClaim.holds_of_wide 3 Try.f3 rfl rfl rfl rfl rfl rfl rfl ⟨rfl, rfl, rfl, rfl, rfl⟩ rfl rfl rfl rfl rfl (by kernel_rfl) Try.func3 (by kernel_rfl)
    (of_decide_eq_true (by kernel_rfl)) (by unfold Func.isWrapper; first | (rw [if_pos (by decide +kernel)]; kernel_rfl) | (rw [if_neg (by decide +kernel)]; exact ⟨rfl, rfl⟩))
    (fun os started H enc _ => lifted os started H enc)

end Go.Proofs.Ytndcbpbigbjfeaa.traces

namespace Go.Proofs.Ytndcbpbigbjfeaa
theorem traces_holds : Rows.TracesSaid := traces.over
#print axioms traces_holds
end Go.Proofs.Ytndcbpbigbjfeaa
