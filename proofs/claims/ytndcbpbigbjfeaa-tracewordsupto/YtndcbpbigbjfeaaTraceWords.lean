/-
  For any two traces that hold together at most 1048576 values: the words of both put together are those of either, as many as both have less those that they share, and what both write is among them; the law returns true, and the traces stay.
-/
import Derived.Test.YtndcbpbigbjfeaaRows
import Derived.Test.YtndcbpbigbjfeaaWn
import Derived.Test.YtndcbpbigbjfeaaOp
import Derived.WalkKit
import Derived.ProofKit
import Derived.OpenShut
import Derived.ShutString
import Derived.ChangeOld
import Derived.Below
import Derived.JoinedCond
import Derived.Deep.Slices
namespace Go.Proofs.Ytndcbpbigbjfeaa.traceWords
open Go.ChangeShapes Go.WideShapes Go.ChangeAt Go.RowKit
set_option linter.unusedVariables false

theorem own : ownKnob Try.prog.godebug = none := by kernel_rfl
theorem laidOut : laidOutB Try.prog = true := by kernel_rfl

set_option maxRecDepth 100000 in
set_option maxHeartbeats 8000000 in
theorem walk (a0 : Option Addr) (len0 cap0 : Nat) (X : List (Int × Bool)) (a1 : Option Addr) (len1 cap1 : Nat) (Y : List (Int × Bool)) (w : World) (h0 : X.length = len0 ∧ Al w a0 X) (l0 : len0 ≤ 1048576) (h1 : Y.length = len1 ∧ Al w a1 Y) (l1 : len1 ≤ 1048576) :
    Calls Try.prog 5 #[.slice a0 len0 cap0, .slice a1 len1 cap1] w fun e w' => e = .returned (.bool true) ∧ Below w.heap.size w w' := by
  obtain ⟨rfl, x0⟩ := h0
  obtain ⟨rfl, y0⟩ := h1
  have m0 : X.length * 16 ≤ 140737488355328 := by omega
  have m1 : Y.length * 16 ≤ 140737488355328 := by omega
  have HH : Hid (Al w a0 X ∧ Al w a1 Y) := ⟨x0, y0⟩
  have HL : Hid (X.length ≤ 1048576 ∧ Y.length ≤ 1048576) := ⟨l0, l1⟩
  have hb0 := buildA0
  clear x0 y0 l0 l1
  go_enter Try.func5, Try.ntmps5
  go_wp2_with fail
  refine (p_awake w).mono ?_
  rintro e w1 ⟨rfl, s1⟩
  have S1 : Hid (Still w w1) := s1
  clear s1
  have t1 : Still w1 (w1.alloc (.cells #[] 35)) := (Below.refl _ _).alloc (Nat.le_refl _) _
  obtain ⟨v1, w2, r1, o1, g1, -⟩ := append_acc (c := cap0) (ownA_made w1 w1.heap.size (Nat.le_refl _)) ((HH.out.1.still S1.out).still t1) (by simp) (by simpa using m0) 22
  rw [List.nil_append] at o1
  have t2 : Still w1 w2 := t1.grown g1 (by simp) (fun k hk => by simp [Value.ownBlock] at hk; omega)
  obtain ⟨v2, w3, r2, o2, g2, -⟩ := append_acc (c := cap1) o1 ((HH.out.2.still S1.out).still t2) t2.size (by have := HL.out; omega) 22
  have t3 : Still w1 w3 := t2.grown g2 t2.size (fun k hk => (World.ownsRow.lt o1 k hk).1)
  obtain ⟨ab, cb, rfl, -, hab⟩ := o2.al
  have hlen : (X ++ Y).length = X.length + Y.length := by simp
  rw [hlen] at r2
  have S3 : Hid (Still w w3 ∧ Al w3 ab (X ++ Y)) := ⟨S1.out.then t3, hab⟩
  have hr1 : Hid (_ = _) := r1
  have hr2 : Hid (_ = _) := r2
  have tok1 : True := trivial
  clear t1 t2 t3 g1 g2 o1 o2 hab S1 r1 r2
  go_wp2_with (first
    | (at_builtin; clear tok1; refine wpList_append_run _ (by rfl) _ _ 22 22 (by rfl) _ _ (by rfl) (by rfl) _ _ hr1.out ?_)
    | (at_builtin; refine wpList_append_run _ (by rfl) _ _ 22 22 (by rfl) _ _ (by rfl) (by rfl) _ _ hr2.out ?_))
  refine (p_Words (c := cap0) (HH.out.1.still S3.out.1) m0).mono ?_
  rintro e w4 ⟨u, rfl, o4, s4⟩
  have S4 : Hid (Still w3 w4 ∧ Own w4 w3.heap.size u (canon (pos allc X))) := ⟨s4, o4⟩
  clear s4 o4
  go_wp2_with fail
  refine (p_Words (c := cap1) (HH.out.2.still (S3.out.1.then S4.out.1)) m1).mono ?_
  rintro e w5 ⟨v, rfl, o5, s5⟩
  have S5 : Hid (Still w3 w5 ∧ Own w5 w3.heap.size u (canon (pos allc X)) ∧ Own w5 w4.heap.size v (canon (pos allc Y))) := ⟨S4.out.1.then s5, S4.out.2.still s5, o5⟩
  clear s5 o5 S4
  have mB : (X ++ Y).length * 16 ≤ 140737488355328 := by rw [hlen]; have := HL.out; omega
  have hq := p_Words (c := cb) (S3.out.2.still S5.out.1) mB
  rw [hlen] at hq
  have HQ : Hid (Calls _ _ _ _ _) := hq
  clear hq
  go_wp2_with fail
  refine HQ.out.mono ?_
  rintro e w6 ⟨x, rfl, o6, s6⟩
  have S6 : Hid (Still w3 w6 ∧ Own w6 w3.heap.size u (canon (pos allc X)) ∧ Own w6 w4.heap.size v (canon (pos allc Y)) ∧ Own w6 w5.heap.size x (canon (pos allc (X ++ Y)))) := ⟨S5.out.1.then s6, S5.out.2.1.still s6, S5.out.2.2.still s6, o6⟩
  clear s6 o6 S5
  obtain ⟨ua, uc, rfl⟩ := S6.out.2.1.isSlice
  obtain ⟨va, vc, rfl⟩ := S6.out.2.2.1.isSlice
  obtain ⟨wa, wc, rfl⟩ := S6.out.2.2.2.isSlice
  have hU : (canon (pos allc X)).length ≤ 1048576 := Nat.le_trans (length_canon _) (Nat.le_trans (pos_len _ X) HL.out.1)
  have hV : (canon (pos allc Y)).length ≤ 1048576 := Nat.le_trans (length_canon _) (Nat.le_trans (pos_len _ Y) HL.out.2)
  have hu := union_len (rises_canon (pos allc X)) (rises_canon (pos allc Y)) (rises_canon (pos allc (X ++ Y))) (fun z => mem_both)
  have hs1 := sub_len (rises_canon (pos allc X)) (rises_canon (pos allc (X ++ Y))) (fun z hz => mem_both.2 (Or.inl hz))
  have hs2 := sub_len (rises_canon (pos allc Y)) (rises_canon (pos allc (X ++ Y))) (fun z hz => mem_both.2 (Or.inr hz))
  have hsh : (0 < ((canon (pos allc X)).filter fun x => decide (x ∈ canon (pos allc Y))).length) ↔ ∃ x ∈ canon (pos allc X), x ∈ canon (pos allc Y) := shared_iff
  have hmem : ∀ z, z ∈ canon (pos allc (X ++ Y)) ↔ z ∈ canon (pos allc X) ∨ z ∈ canon (pos allc Y) := fun z => mem_both
  have hwr : ∀ z, z ∈ canon (pos id (X ++ Y)) → z ∈ canon (pos allc (X ++ Y)) := fun z hz => mem_canon_all.2 ⟨true, mem_canon_wr.1 hz⟩
  have hwl : (canon (pos id (X ++ Y))).length ≤ 2097152 := Nat.le_trans (length_canon _) (Nat.le_trans (pos_len _ _) (by rw [hlen]; have := HL.out; omega))
  dsimp only
  obtain ⟨Z, eZ⟩ : ∃ Z, Z = canon (pos id (X ++ Y)) := ⟨_, rfl⟩
  rw [← eZ] at hwr hwl
  generalize canon (pos allc X) = U at S6 hu hs1 hmem hsh hU ⊢
  generalize canon (pos allc Y) = V at S6 hu hs2 hmem hsh hV ⊢
  generalize canon (pos allc (X ++ Y)) = W at S6 hu hs1 hs2 hmem hwr ⊢
  have EZ : Hid (Z = canon (pos id (X ++ Y))) := eZ
  have HF : Hid ((∀ z, z ∈ W ↔ z ∈ U ∨ z ∈ V) ∧ (∀ z, z ∈ Z → z ∈ W)) := ⟨hmem, hwr⟩
  obtain ⟨f, hf⟩ : ∃ f, f = (U.filter fun x => decide (x ∈ V)).length := ⟨_, rfl⟩
  rw [← hf] at hu hsh
  have HS : Hid ((0 < f) ↔ ∃ x ∈ U, x ∈ V) := hsh
  have mx := run_max U.length V.length
  have k1 : decide ((U.length : Int) + (V.length : Int) < (W.length : Int)) = false := by simp; omega
  have k2 : decide ((W.length : Int) < ((max U.length V.length : Nat) : Int)) = false := by simp; omega
  have k3 : decide (W.length < max U.length V.length) = false := by simp; omega
  have HW : Hid (W.length + f = U.length + V.length ∧ W.length ≤ 2097152 ∧ Z.length ≤ 2097152) := ⟨hu, by omega, hwl⟩
  clear eZ hmem hwr hf hsh hu hs1 hs2 hwl
  go_wp2_with fail
  have bW : W.length ≤ 2097152 := HW.out.2.1
  have bZ : Z.length ≤ 2097152 := HW.out.2.2
  clear k1 k2 k3 mx
  go_loopw [9] (fun i wr => ∃ k : Nat, k ≤ W.length ∧ i = .int .i64 (k : Int) ∧ Hid (Still w6 wr)) (fun i _ => (W.length - intOf i).toNat)
  case atStart => exact ⟨0, by omega, rfl, Below.refl _ _⟩
  case round =>
    obtain ⟨k, hk, rfl, HK⟩ := hrel
    by_cases hlt : k < W.length
    · have i0 : (0 : Int) ≤ (k : Int) := by omega
      have i1 : (k : Int) < (W.length : Int) := by omega
      obtain ⟨-, b, off, rfl, c0⟩ := (S6.out.2.2.2.rd.still HK.out).at hlt
      obtain ⟨z, hz⟩ : ∃ z, W[k]? = some z := ⟨W[k], by simp⟩
      have ez : W.getD k 0 = z := by rw [List.getD_eq_getElem?_getD, hz]; rfl
      rw [ez] at c0
      have HZ : Hid (z ∈ U ∨ z ∈ V) := (HF.out.1 z).1 (List.mem_of_getElem? hz)
      have C0 : Hid (wr.cell? ⟨b, off + k, none⟩ = some (.int .i64 z)) := c0
      clear hz ez
      go_wp2_with fail
      refine (among_yes (c := uc) (S6.out.2.1.rd.still HK.out) (by omega) z).mono ?_
      rintro e w7 ⟨rfl, s7⟩
      have K7 : Hid (Still w6 w7) := HK.out.then s7
      have c7 := cell_still s7 C0.out
      clear s7 c0
      by_cases hu : z ∈ U
      · rw [show decide (z ∈ U) = true from decide_eq_true hu]
        clear hu c7
        go_wp2
        go_roundw
        case rel => exact ⟨k + 1, by omega, by go_num, K7.out⟩
        case measure => simp [intOf]; omega
      · rw [show decide (z ∈ U) = false from decide_eq_false hu]
        have hv : z ∈ V := HZ.out.resolve_left hu
        have HVV : Hid (z ∈ V) := hv
        clear hu hv
        go_wp2_with fail
        refine (among_yes (c := vc) (S6.out.2.2.1.rd.still K7.out) (by omega) z).mono ?_
        rintro e w8 ⟨rfl, s8⟩
        have K8 : Hid (Still w6 w8) := K7.out.then s8
        rw [show decide (z ∈ V) = true from decide_eq_true HVV.out]
        clear s8 c7
        go_wp2
        go_roundw
        case rel => exact ⟨k + 1, by omega, by go_num, K8.out⟩
        case measure => simp [intOf]; omega
    · have i1 : ¬ (k : Int) < (W.length : Int) := by omega
      have hq := p_Writes (c := cb) (S3.out.2.still (S6.out.1.then HK.out)) mB
      rw [hlen, ← EZ.out] at hq
      have HQ2 : Hid (Calls _ _ _ _ _) := hq
      have HK1 : Hid (Still w6 wr) := HK.out
      clear hq HK
      go_wp2_with fail
      refine HQ2.out.mono ?_
      rintro e w9 ⟨x, rfl, o9, s9⟩
      obtain ⟨xa, xc, rfl⟩ := o9.isSlice
      have S9 : Hid (Still w6 w9 ∧ Own w9 wr.heap.size (.slice xa Z.length xc) Z) := ⟨HK1.out.then s9, o9⟩
      clear s9 o9 HQ2 HK1
      go_wp2_with fail
      go_loopw [11] (fun i wr => ∃ k : Nat, k ≤ Z.length ∧ i = .int .i64 (k : Int) ∧ Hid (Still w9 wr)) (fun i _ => (Z.length - intOf i).toNat)
      case atStart => exact ⟨0, by omega, rfl, Below.refl _ _⟩
      case round =>
        obtain ⟨k2, hk2, rfl, HK⟩ := hrel
        by_cases hlt : k2 < Z.length
        · have i0 : (0 : Int) ≤ (k2 : Int) := by omega
          have j1 : (k2 : Int) < (Z.length : Int) := by omega
          obtain ⟨-, b, off, rfl, c0⟩ := (S9.out.2.rd.still HK.out).at hlt
          obtain ⟨z, hz⟩ : ∃ z, Z[k2]? = some z := ⟨Z[k2], by simp⟩
          have ez : Z.getD k2 0 = z := by rw [List.getD_eq_getElem?_getD, hz]; rfl
          rw [ez] at c0
          have HZ : Hid (z ∈ W) := HF.out.2 z (List.mem_of_getElem? hz)
          clear hz ez
          go_wp2_with fail
          refine (among_yes (c := wc) (S6.out.2.2.2.rd.still (S9.out.1.then HK.out)) (by have := HW.out; omega) z).mono ?_
          rintro e w10 ⟨rfl, s10⟩
          have K10 : Hid (Still w9 w10) := HK.out.then s10
          rw [show decide (z ∈ W) = true from decide_eq_true HZ.out]
          clear s10 c0
          go_wp2
          go_roundw
          case rel => exact ⟨k2 + 1, by omega, by go_num, K10.out⟩
          case measure => simp [intOf]; omega
        · have j1 : ¬ (k2 : Int) < (Z.length : Int) := by omega
          have S10 : Hid (Still w6 wr) := S9.out.1.then HK.out
          clear HK S9
          go_wp2_with fail
          refine (shared_yes (c := uc) (d := vc) (S6.out.2.1.rd.still S10.out) (S6.out.2.2.1.rd.still S10.out) (by omega) (by omega)).mono ?_
          rintro e w11 ⟨rfl, s11⟩
          have S11 : Hid (Still w6 w11) := S10.out.then s11
          have hsh : decide (∃ x ∈ U, x ∈ V) = decide ((W.length : Int) < (U.length : Int) + (V.length : Int)) := by
            have hf0 := HW.out.1
            rw [decide_eq_decide, ← HS.out]
            omega
          rw [hsh]
          clear s11 S10 hsh
          have t0 : (decide ((W.length : Int) < (U.length : Int) + (V.length : Int)) == decide ((W.length : Int) < (U.length : Int) + (V.length : Int))) = true := by simp
          go_wp2_with fail
          refine (p_num w11).mono ?_
          rintro e w12 ⟨rfl, rfl⟩
          go_wp2_with fail
          go_ret
          exact ⟨rfl, S3.out.1.then (S6.out.1.then S11.out)⟩

theorem contract (H : Type) (enc : TypeId × Value → H) (W : World) (base : Nat) (args : Array Value) (ds gs : List (DataW H)) (before : List MemPlace)
    (hval : ∀ (j : Nat) t v, Try.f5.params[j]? = some t → args[j]? = some v → Value.okWide Try.prog W .any base t v)
    (hW : DataW.Whole enc Try.prog Try.f5.params.toList Rows.traceWordsSpec.vars false W args.toList ds gs before) (hk : Rows.uptoSmall H (ds ++ gs) = true) :
    Calls Try.prog 5 args W fun e W' => ∃ v, e = .returned v ∧ Rows.traceWordsSpec.post enc Try.prog Try.f5 false true false false W args v W' := by
  have hW' := hW
  obtain ⟨p, q, hA0, hV, rfl, hfz, hnd⟩ := hW
  have hA : DataW.TrodAll enc Try.prog W 0 (fun _ => true) true Try.f5.params.toList args.toList ds p := hA0
  rw [Try.params5] at hA hval
  obtain ⟨v0, vs0, d0, ds0, p0, q0, hargs, rfl, rfl, h0, r0⟩ := trodAll_cons hA
  obtain ⟨v1, vs1, d1, ds1, p1, q1, rfl, rfl, rfl, h1, r1⟩ := trodAll_cons r0
  obtain ⟨rfl, rfl, rfl⟩ := trodAll_nil r1
  obtain rfl : args = #[v0, v1] := by cases args; simp_all
  obtain ⟨rfl, rfl⟩ := trodVars_none hV
  have hsm := small_of hk
  simp only [List.append_nil, Rows.uptoBulkAll] at hsm
  obtain ⟨a0, len0, cap0, rfl⟩ := okWide_slice Try.underlying22 (hval 0 22 v0 rfl rfl)
  have k0 := h0
  have lt0 : ∀ x ∈ p0, x.block < W.heap.size := by obtain ⟨m, hm⟩ := k0; exact DataW.trod_lt m _ _ _ hm
  obtain ⟨s0, b0, w0⟩ := open_ac h0
  obtain ⟨a1, len1, cap1, rfl⟩ := okWide_slice Try.underlying22 (hval 1 22 v1 rfl rfl)
  have k1 := h1
  have lt1 : ∀ x ∈ p1, x.block < W.heap.size := by obtain ⟨m, hm⟩ := k1; exact DataW.trod_lt m _ _ _ hm
  obtain ⟨s1, b1, w1⟩ := open_ac h1
  clear hA0
  refine (walk a0 len0 cap0 b0 a1 len1 cap1 b1 W w0 (by omega) w1 (by omega)).mono fun e W' ⟨he, bel⟩ => ?_
  subst he
  exact ⟨_, rfl, _, _, _, [], _, [], hW', trodAll_mk1 (shut_bool Try.underlying4 _), (trodAll_cons_mk (Below.trod laidOut (by kernel_rfl) (of_decide_eq_true (by kernel_rfl)) k0 bel lt0) (trodAll_cons_mk (Below.trod laidOut (by kernel_rfl) (of_decide_eq_true (by kernel_rfl)) k1 bel lt1) trodAll_mk0)), rfl, bel.frame _, fun h => by cases h⟩

set_option maxRecDepth 100000 in
theorem lifted (os : Os) (started : os.Started) (H : Type) (enc : TypeId × Value → H) (F : Stop.Interp) :
    ReturnsInHanded {} Try.checked os 5 .any ((Rows.OpenSpec.upto Rows.traceWordsSpec).pre6 enc Try.prog Try.f5 Rows.traceWordsUptoRow.domain false) (((Rows.OpenSpec.upto Rows.traceWordsSpec).at F).post enc Try.prog Try.f5 false true false false) := by
  refine returnsInHanded_of_cond (C := Try.checked) (s := Rows.OpenSpec.upto Rows.traceWordsSpec) (k := Rows.uptoSmall) rfl own started (by kernel_rfl) Try.func5
    (OpenSpec.witness (enc := enc) (C := Try.checked) (s := Rows.OpenSpec.upto Rows.traceWordsSpec) (k := Rows.uptoSmall) rfl false ⟨#[], #[.slice none 0 0, .slice none 0 0], []⟩ 8 (by kernel_rfl) (by kernel_rfl) (by kernel_rfl)
      (x := ([.nil, .nil], [], [])) (by kernel_rfl) rfl (by kernel_rfl)) ?_
  intro W base args ds gs before hval hW _ hk _
  exact contract H enc W base args ds gs before hval hW hk

theorem over : Rows.traceWordsUptoRow.holds Try.pinned (Rows.OpenSpec.upto Rows.traceWordsSpec) :=
  OpenClaim.holds_of_cond 5 Try.f5 rfl rfl rfl rfl rfl rfl rfl ⟨rfl, rfl, rfl, rfl, rfl⟩ rfl rfl rfl rfl rfl (by kernel_rfl) Try.func5 (by kernel_rfl)
    (of_decide_eq_true (by kernel_rfl)) (by unfold Func.isWrapper; first | (rw [if_pos (by decide +kernel)]; kernel_rfl) | (rw [if_neg (by decide +kernel)]; exact ⟨rfl, rfl⟩))
    (fun os started H enc _ F => lifted os started H enc F)

end Go.Proofs.Ytndcbpbigbjfeaa.traceWords

namespace Go.Proofs.Ytndcbpbigbjfeaa
theorem traceWords_holds : Rows.TraceWordsUptoSaid := traceWords.over
#print axioms traceWords_holds
end Go.Proofs.Ytndcbpbigbjfeaa
