/-
  For any two traces, of whatever length: Meet answers alike either way round, a trace meets itself just if it writes, Words rises, and two traces that write nothing do not meet; the law returns true, and the traces stay.
-/
import Derived.Test.YtndcbpbigbjfeaaRows
import Derived.Test.YtndcbpbigbjfeaaKp
import Derived.Test.YtndcbpbigbjfeaaOp
import Derived.WalkKit
import Derived.ProofKit
import Derived.OpenShut
import Derived.ShutString
import Derived.ChangeOld
import Derived.Below
import Derived.Deep.Slices
import Derived.SizedLaws
namespace Go.Proofs.Ytndcbpbigbjfeaa.traceEither
open Go.ChangeShapes Go.WideShapes Go.ChangeAt Go.RowKit
open Go.ChangeMaps (open_string shut_string)
set_option linter.unusedVariables false

theorem own : ownKnob Try.prog.godebug = none := by kernel_rfl
theorem laidOut : laidOutB Try.prog = true := by kernel_rfl

set_option maxRecDepth 100000 in
set_option maxHeartbeats 8000000 in
theorem walk (a0 : Option Addr) (len0 cap0 : Nat) (a1 : Option Addr) (len1 cap1 : Nat) (w : World) (h0 : IsActs w a0 len0) (h1 : IsActs w a1 len1) :
    Calls Try.prog 4 #[.slice a0 len0 cap0, .slice a1 len1 cap1] w fun e w' => e = .returned (.bool true) ∧ Below w.heap.size w w' := by
  obtain ⟨n0, X, rfl, x0⟩ := h0
  obtain ⟨n1, Y, rfl, y0⟩ := h1
  have m0 : X.length * 16 ≤ 140737488355328 := by omega
  have m1 : Y.length * 16 ≤ 140737488355328 := by omega
  have HH : Hid (Al w a0 X ∧ Al w a1 Y) := ⟨x0, y0⟩
  clear x0 y0 n0 n1
  go_enter Try.func4, Try.ntmps4
  go_wp2_with fail
  refine (p_awake w).mono ?_
  rintro e w1 ⟨rfl, s1⟩
  have S1 : Hid (Still w w1) := s1
  clear s1
  go_wp2_with fail
  refine (p_Meet (c := cap0) (d := cap1) (HH.out.1.still S1.out) (HH.out.2.still S1.out) m0 m1).mono ?_
  rintro e w2 ⟨rfl, s2⟩
  have S2 : Hid (Still w w2) := S1.out.then s2
  clear s2 S1
  go_wp2_with fail
  refine (p_Meet (c := cap1) (d := cap0) (HH.out.2.still S2.out) (HH.out.1.still S2.out) m1 m0).mono ?_
  rintro e w3 ⟨rfl, s3⟩
  have S3 : Hid (Still w w3) := S2.out.then s3
  clear s3 S2
  rw [meetB_comm Y X]
  have t0 : (meetB X Y != meetB X Y) = false := by simp
  go_wp2_with fail
  refine (p_Meet (c := cap0) (d := cap0) (HH.out.1.still S3.out) (HH.out.1.still S3.out) m0 m0).mono ?_
  rintro e w4 ⟨rfl, s4⟩
  have S4 : Hid (Still w w4) := S3.out.then s4
  clear s4 S3
  go_wp2_with fail
  refine (p_Writes (c := cap0) (HH.out.1.still S4.out) m0).mono ?_
  rintro e w5 ⟨u, rfl, o5, s5⟩
  obtain ⟨ua, uc, rfl⟩ := o5.isSlice
  have S5 : Hid (Still w w5) := S4.out.then s5
  clear s5 S4 o5
  have hself : meetB X X = decide ((0 : Int) < ((canon (pos id X)).length : Int)) := by
    rw [Bool.eq_iff_iff, meetB_iff, decide_eq_true_iff]
    constructor
    · rintro (⟨z, h1, -⟩ | ⟨z, -, h1⟩) <;> (have := List.length_pos_of_mem h1; omega)
    · intro h
      obtain ⟨z, hz⟩ := List.exists_mem_of_length_pos (l := canon (pos id X)) (by omega)
      exact Or.inl ⟨z, hz, mem_canon_all.2 ⟨true, mem_canon_wr.1 hz⟩⟩
  rw [hself]
  have t1 : (decide ((0 : Int) < ((canon (pos id X)).length : Int)) != decide ((0 : Int) < ((canon (pos id X)).length : Int))) = false := by simp
  clear t0 hself
  go_wp2_with fail
  refine (p_Words (c := cap0) (HH.out.1.still S5.out) m0).mono ?_
  rintro e w6 ⟨v, rfl, o6, s6⟩
  have hlen : (canon (pos (fun _ => true) X)).length ≤ X.length := Nat.le_trans (length_canon _) (pos_len _ X)
  obtain ⟨L, hL⟩ : ∃ L, L = canon (pos (fun _ => true) X) := ⟨_, rfl⟩
  have hri : Rises L := by rw [hL]; exact rises_canon _
  rw [← hL] at o6 hlen
  obtain ⟨va, vc, rfl⟩ := o6.isSlice
  have S6 : Hid (Still w w6 ∧ Own w6 w5.heap.size (.slice va L.length vc) L ∧ Rises L) := ⟨S5.out.then s6, o6, hri⟩
  clear s6 o6 hri hL S5
  go_wp2_with fail
  go_loopw [6] (fun i wr => ∃ k : Nat, 1 ≤ k ∧ i = .int .i64 (k : Int) ∧ (k ≤ L.length ∨ k = 1) ∧ Hid (Still w6 wr)) (fun i _ => (L.length + 1 - intOf i).toNat)
  case atStart => exact ⟨1, Nat.le_refl _, rfl, Or.inr rfl, Below.refl _ _⟩
  case round =>
    obtain ⟨k, hk, rfl, hk2, HS⟩ := hrel
    by_cases hlt : k < L.length
    · obtain ⟨m, rfl⟩ : ∃ m, k = m + 1 := ⟨k - 1, by omega⟩
      obtain ⟨-, b, off, rfl, c0⟩ := (S6.out.2.1.rd.still HS.out).at (i := m) (by omega)
      obtain ⟨-, b', off', e2, c1⟩ := (S6.out.2.1.rd.still HS.out).at (i := m + 1) (by omega)
      simp only [Option.some.injEq, Addr.mk.injEq, and_true] at e2
      obtain ⟨rfl, rfl⟩ := e2
      have hlt2 : L.getD m 0 < L.getD (m + 1) 0 := by
        have := List.pairwise_iff_getElem.1 S6.out.2.2 m (m + 1) (by omega) (by omega) (by omega)
        simpa [List.getD_eq_getElem?_getD, show m < L.length from by omega, hlt] using this
      generalize L.getD m 0 = p at c0 hlt2
      generalize L.getD (m + 1) 0 = q at c1 hlt2
      have t2 : decide (q ≤ p) = false := by simp; omega
      have i0 : (0 : Int) ≤ (m : Int) := by omega
      have i1 : (m : Int) < (L.length : Int) := by omega
      have i2 : (0 : Int) ≤ (m : Int) + 1 := by omega
      have i3 : (m : Int) + 1 < (L.length : Int) := by omega
      go_wp2_with fail
      go_quiet (fail)
      go_wp2
      go_roundw
      case rel => exact ⟨m + 1 + 1, by omega, by go_num, Or.inl (by omega), Below.drewN HS.out _⟩
      case measure => simp [intOf]; omega
    · have i1 : ¬ (k : Int) < (L.length : Int) := by omega
      have S7 : Hid (Still w wr) := S6.out.1.then HS.out
      clear HS S6
      go_wp2_with fail
      refine (p_Writes (c := cap0) (HH.out.1.still S7.out) m0).mono ?_
      rintro e w8 ⟨u, rfl, o8, s8⟩
      obtain ⟨ua, uc, rfl⟩ := o8.isSlice
      have S8 : Hid (Still w w8) := S7.out.then s8
      clear s8 S7 o8
      by_cases hx : canon (pos id X) = []
      · rw [hx]
        go_wp2_with fail
        refine (p_Writes (c := cap1) (HH.out.2.still S8.out) m1).mono ?_
        rintro e w9 ⟨u2, rfl, o9, s9⟩
        obtain ⟨ub, ud, rfl⟩ := o9.isSlice
        have S9 : Hid (Still w w9) := S8.out.then s9
        clear s9 S8 o9
        by_cases hy : canon (pos id Y) = []
        · rw [hy]
          have hm : meetB X Y = false := by
            rw [Bool.eq_false_iff, Ne, meetB_iff, hx, hy]
            simp
          go_wp2_with fail
          refine (p_Meet (c := cap0) (d := cap1) (HH.out.1.still S9.out) (HH.out.2.still S9.out) m0 m1).mono ?_
          rintro e w10 ⟨rfl, s10⟩
          have S10 : Hid (Still w w10) := S9.out.then s10
          rw [hm]
          clear s10 S9 hm hx hy
          go_wp2
          go_ret
          exact ⟨rfl, S10.out⟩
        · have j0 : (0 : Int) < ((canon (pos id Y)).length : Int) := by have := List.length_pos_iff.2 hy; omega
          obtain ⟨n, hn⟩ : ∃ n, n = (canon (pos id Y)).length := ⟨_, rfl⟩
          rw [← hn] at j0
          rw [← hn]
          clear hx hy hn
          go_wp2
          go_ret
          exact ⟨rfl, S9.out⟩
      · have j0 : (0 : Int) < ((canon (pos id X)).length : Int) := by have := List.length_pos_iff.2 hx; omega
        obtain ⟨n, hn⟩ : ∃ n, n = (canon (pos id X)).length := ⟨_, rfl⟩
        rw [← hn] at j0
        rw [← hn]
        clear hx hn
        go_wp2
        go_ret
        exact ⟨rfl, S8.out⟩

set_option maxRecDepth 100000 in
theorem lifted (os : Os) (started : os.Started) (H : Type) (enc : TypeId × Value → H) :
    ReturnsInHanded {} Try.checked os 4 .any (Rows.traceEitherSpec.pre6 enc Try.prog Try.f4 Rows.traceEitherRow.domain false) (Rows.traceEitherSpec.post enc Try.prog Try.f4 false true false false) := by
  refine returnsInHanded_of_change_sized (C := Try.checked) own started (by kernel_rfl) Try.func4
    (ChangeSpec.witness6 (enc := enc) (C := Try.checked) false ⟨#[], #[.slice none 0 0, .slice none 0 0], []⟩ 8 (by kernel_rfl) (by kernel_rfl) (by kernel_rfl) (by kernel_rfl)) ?_
  intro W base args ds gs before hval0 hW hcnd hsz0 _
  have hval : ∀ (j : Nat) t v, Try.f4.params[j]? = some t → args[j]? = some v → Value.okWide Try.prog W .any base t v := hval0
  have hW' := hW
  obtain ⟨p, q, hA0, hV, rfl, hfz, hnd⟩ := hW
  have hA : DataW.TrodAll enc Try.prog W 0 (fun _ => true) true Try.f4.params.toList args.toList ds p := hA0
  have hsz : (DataW.weightsEach Try.prog (Try.f4.params.toList ++ Rows.traceEitherSpec.plain.varTypes Try.prog) (ds ++ gs)).all (· ≤ reachBytes) = true := hsz0
  rw [Try.params4] at hA hval hsz
  obtain ⟨v0, vs0, d0, ds0, p0, q0, hargs, rfl, rfl, h0, r0⟩ := trodAll_cons hA
  obtain ⟨v1, vs1, d1, ds1, p1, q1, rfl, rfl, rfl, h1, r1⟩ := trodAll_cons r0
  obtain ⟨rfl, rfl, rfl⟩ := trodAll_nil r1
  obtain rfl : args = #[v0, v1] := by cases args; simp_all
  obtain ⟨rfl, rfl⟩ := trodVars_none hV
  obtain ⟨a0, len0, cap0, rfl⟩ := okWide_slice Try.underlying22 (hval 0 22 v0 rfl rfl)
  have k0 := h0
  have lt0 : ∀ x ∈ p0, x.block < W.heap.size := by obtain ⟨m, hm⟩ := k0; exact DataW.trod_lt m _ _ _ hm
  have wt0 : ∀ n ∈ d0.weights Try.prog 22, n ≤ reachBytes := fun n hn => by
    have := List.all_eq_true.1 hsz n (DataW.weights_mem_each (j := 0) rfl rfl n hn)
    simpa using this
  have w0 : IsActs W a0 len0 := by
    obtain ⟨fuel, hf⟩ := h0
    exact acts_at hf wt0
  obtain ⟨a1, len1, cap1, rfl⟩ := okWide_slice Try.underlying22 (hval 1 22 v1 rfl rfl)
  have k1 := h1
  have lt1 : ∀ x ∈ p1, x.block < W.heap.size := by obtain ⟨m, hm⟩ := k1; exact DataW.trod_lt m _ _ _ hm
  have wt1 : ∀ n ∈ d1.weights Try.prog 22, n ≤ reachBytes := fun n hn => by
    have := List.all_eq_true.1 hsz n (DataW.weights_mem_each (j := 1) rfl rfl n hn)
    simpa using this
  have w1 : IsActs W a1 len1 := by
    obtain ⟨fuel, hf⟩ := h1
    exact acts_at hf wt1
  clear hA0 hval0
  refine (walk a0 len0 cap0 a1 len1 cap1 W w0 w1).mono fun e W' ⟨he, bel⟩ => ?_
  subst he
  exact ⟨_, rfl, _, _, _, [], _, [], hW', trodAll_mk1 (shut_bool Try.underlying4 _), (trodAll_cons_mk (Below.trod laidOut (by kernel_rfl) (of_decide_eq_true (by kernel_rfl)) k0 bel lt0) (trodAll_cons_mk (Below.trod laidOut (by kernel_rfl) (of_decide_eq_true (by kernel_rfl)) k1 bel lt1) trodAll_mk0)), rfl, bel.frame _, fun h => by cases h⟩

theorem over : Rows.traceEitherRow.holds Try.pinned (OpenSpec.ofChange Rows.traceEitherSpec) :=
  OpenClaim.holds_of_wide 4 Try.f4 rfl rfl rfl rfl rfl rfl rfl ⟨rfl, rfl, rfl, rfl, rfl⟩ rfl rfl rfl rfl rfl (by kernel_rfl) Try.func4 (by kernel_rfl)
    (of_decide_eq_true (by kernel_rfl)) (by unfold Func.isWrapper; first | (rw [if_pos (by decide +kernel)]; kernel_rfl) | (rw [if_neg (by decide +kernel)]; exact ⟨rfl, rfl⟩))
    (fun os started H enc _ => lifted os started H enc)

end Go.Proofs.Ytndcbpbigbjfeaa.traceEither

namespace Go.Proofs.Ytndcbpbigbjfeaa
theorem traceEither_holds : Rows.TraceEitherSaid := traceEither.over
#print axioms traceEither_holds
end Go.Proofs.Ytndcbpbigbjfeaa
