/-
  JournalActs returns true for every int and every slice of acts: what was written lasts under writes, fuses and crashes; behind a crash it is the last text or the one that was cut off, and the words beside the journal stay.
-/
import Derived.Test.YtpaefllhngbimaaRows
import Derived.Test.YtpaefllhngbimaaJx
import Derived.Test.YtpaefllhngbimaaJy
import Derived.WalkKit
import Derived.ProofKit
import Derived.OpenShut
import Derived.ShutString
import Derived.ChangeOld
import Derived.Below
import Derived.Deep.Slices
import Derived.Deep.RegionHeld3
import Derived.Deep.CutRange
import Derived.Deep.CutBlock
import Derived.SizedLaws
namespace Go.Proofs.Ytpaefllhngbimaa.journalActs
open Go.ChangeShapes Go.WideShapes Go.ChangeAt Go.RowKit
open Go.ChangeMaps (open_string shut_string)
set_option linter.unusedVariables false

theorem own : ownKnob Try.prog.godebug = none := by kernel_rfl
theorem laidOut : laidOutB Try.prog = true := by kernel_rfl

set_option maxRecDepth 100000 in
set_option maxHeartbeats 8000000 in
theorem main (x : Int) (a0 : Option Addr) (len0 cap0 : Nat) (w : World) (ha : IsActs w a0 len0) :
    Calls Try.prog 3 #[.int .i64 x, .slice a0 len0 cap0] w fun e w' => e = .returned (.bool true) ∧ Kept [] w w' := by
  obtain ⟨k, hk, hk2⟩ : ∃ k : Nat, bits .and .i64 x 31 = (k : Int) ∧ k < 32 := ⟨(x % 32).toNat, by rw [i64_and31]; omega, by omega⟩
  obtain ⟨n, hn⟩ : ∃ n : Nat, n = 64 + 8 * k := ⟨_, rfl⟩
  have h64 : 64 ≤ n := by omega
  have h312 : n ≤ 312 := by omega
  have hm8 : n % 8 = 0 := by omega
  have e5 : Hid ((64 + 8 * (k : Int)) = (n : Int)) := by show _ = _; omega
  obtain ⟨hx, hcnt, hpi⟩ := beside_pi h64 hm8 h312
  obtain ⟨M3, hM3⟩ : ∃ M3, M3 = beside n := ⟨_, rfl⟩
  rw [← hM3] at hx hcnt hpi
  obtain ⟨M0, hM0⟩ : ∃ M0, M0 = M3.run (replOps M3.seen 8 n ⟨#[]⟩) := ⟨_, rfl⟩
  rw [← hM0] at hpi
  have HFX : Hid (Fits M3.seen 8 n ∧ Cnt M3 20000) := ⟨hx, hcnt⟩
  have HPI : Hid (Pi M0 n ⟨#[]⟩ false 40000) := hpi
  have HA : Hid (IsActs w a0 len0) := ha
  have HM3 : Hid (M3 = beside n) := hM3
  have HM0 : Hid (M0 = M3.run (replOps M3.seen 8 n ⟨#[]⟩)) := hM0
  obtain ⟨F, hF⟩ : ∃ F, F = fresh (n + 32) := ⟨_, rfl⟩
  have HF : Hid (F = fresh (n + 32)) := hF
  have hFl : F.seen.length = n + 32 := by rw [hF]; simp [fresh]
  have hFs : F.steps = 0 := by rw [hF]; rfl
  have hFt : F.stores = 0 := by rw [hF]; rfl
  have HL : Hid (F.seen.length = n + 32 ∧ F.steps = 0 ∧ F.stores = 0) := ⟨hFl, hFs, hFt⟩
  clear hx hcnt hpi ha hM3 hM0 hF hFl hFs hFt
  go_enter Try.func3, Try.ntmps3
  go_upto_region 2 with fail
  rw [e5.out]
  clear e5 hk hk2 hn
  go_wp2_with fail
  refine (u_new w ((n : Int) + 32) (by omega) (by omega) (by omega)).mono ?_
  rintro e w2 ⟨b, rfl, hm⟩
  have H1 : Hid (Hj [] w w2 b F) := by
    have := hm.hj
    rw [show ((n : Int) + 32).toNat = n + 32 from by omega, ← HF.out] at this
    exact this
  clear hm
  go_wp2_with (go_at_call 10; refine (u_num _ _).mono ?_; rintro e w' ⟨rfl, rfl⟩)
  go_loopw [8] (fun i wr => ∃ (q : Nat), i = .int .i64 (q : Int) ∧ q ≤ 8 ∧ Hid (Hj [] w wr b (F.run (sides n q)))) (fun i _ => (8 - intOf i).toNat)
  case atStart => exact ⟨0, rfl, by omega, H1.out⟩
  case round =>
    obtain ⟨q, rfl, hq, HR⟩ := hrel
    have h1 := run_steps (sides n q) F
    have h2 := run_stores (sides n q) F
    rw [sides_length, HL.out.2.1] at h1
    rw [sides_length, HL.out.2.2] at h2
    have h3 : (F.run (sides n q)).seen.length = n + 32 := by rw [run_seen, seenBy_length, HL.out.1]
    by_cases hlt : q < 8
    · have i1 : (q : Int) < 8 := by omega
      have hs1 : ∀ W, Hj [] w W b (F.run (sides n q)) → Calls Try.prog 11 #[.pointer (some ⟨b, 0, none⟩), .int .i64 (q : Int), .int .u64 77] W fun e w' => e = .returned (.int .i64 0) ∧ Hj [] w w' b ((F.run (sides n q)).store q 77) :=
        fun W hW => h_sto hW (k := q) (v := 77) rfl rfl (by omega) (by omega) (by omega) (by omega) (by omega)
      have hs2 : ∀ W, Hj [] w W b ((F.run (sides n q)).store q 77) → Calls Try.prog 11 #[.pointer (some ⟨b, 0, none⟩), .int .i64 ((n : Int) + 8 + (q : Int)), .int .u64 78] W fun e w' => e = .returned (.int .i64 0) ∧ Hj [] w w' b (F.run (sides n (q + 1))) := by
        intro W hW
        rw [← sides_run]
        refine h_sto hW (k := n + 8 + q) (v := 78) (by omega) rfl ?_ ?_ ?_ ?_ ?_
        · rw [store_seen, List.length_set]; omega
        · rw [store_steps]; omega
        · rw [store_steps]; omega
        · rw [store_stores]; omega
        · rw [store_stores]; omega
      obtain ⟨N1, hN1⟩ : ∃ N1, N1 = (F.run (sides n q)).store q 77 := ⟨_, rfl⟩
      rw [← hN1] at hs1 hs2
      have HS1 : Hid (∀ W, Hj [] w W b (F.run (sides n q)) → Calls Try.prog 11 #[.pointer (some ⟨b, 0, none⟩), .int .i64 (q : Int), .int .u64 77] W fun e w' => e = .returned (.int .i64 0) ∧ Hj [] w w' b N1) := hs1
      have HS2 : Hid (∀ W, Hj [] w W b N1 → Calls Try.prog 11 #[.pointer (some ⟨b, 0, none⟩), .int .i64 ((n : Int) + 8 + (q : Int)), .int .u64 78] W fun e w' => e = .returned (.int .i64 0) ∧ Hj [] w w' b (F.run (sides n (q + 1)))) := hs2
      have tk1 : True := trivial
      clear hs1 hs2 hN1 h1 h2 h3
      go_wp2_with (first
        | (go_at_call 11; clear tk1; refine Calls.mono (HS1.out _ HR.out) ?_; rintro e w4 ⟨rfl, h4⟩; have H4 : Hid (Hj [] w w4 b N1) := h4; clear h4)
        | (go_at_call 11; refine Calls.mono (HS2.out _ H4.out) ?_; rintro e w5 ⟨rfl, h5⟩; have H5 : Hid (Hj [] w w5 b (F.run (sides n (q + 1)))) := h5; clear h5))
      go_roundw
      case rel => exact ⟨q + 1, by go_num, by omega, H5.out⟩
      case measure => simp [intOf]; omega
    · have i1 : ¬ (q : Int) < 8 := by omega
      obtain rfl : q = 8 := by omega
      have hf1 : ∀ W, Hj [] w W b (F.run (sides n 8)) → Calls Try.prog 12 #[.pointer (some ⟨b, 0, none⟩), .int .i64 0] W fun e w' => e = .returned (.int .i64 0) ∧ Hj [] w w' b ((F.run (sides n 8)).flush 0) := by
        intro W hW
        have := h_flush hW 0 (by omega) (by omega) (by omega) (by omega)
        exact this
      have hf2 : ∀ W, Hj [] w W b ((F.run (sides n 8)).flush 0) → Calls Try.prog 12 #[.pointer (some ⟨b, 0, none⟩), .int .i64 (((n : Int) + 8) / 8)] W fun e w' => e = .returned (.int .i64 0) ∧ Hj [] w w' b (((F.run (sides n 8)).flush 0).flush ((n + 8) / 8)) := by
        intro W hW
        have := h_flush hW (((n : Int) + 8) / 8) (by omega) (by rw [flush_seen]; omega) (by rw [flush_steps]; omega) (by rw [flush_steps]; omega)
        rw [show (((n : Int) + 8) / 8).toNat = (n + 8) / 8 from by omega] at this
        exact this
      have hf3 : ∀ W, Hj [] w W b (((F.run (sides n 8)).flush 0).flush ((n + 8) / 8)) → Calls Try.prog 13 #[.pointer (some ⟨b, 0, none⟩)] W fun e w' => e = .returned (.int .i64 0) ∧ Hj [] w w' b M3 := by
        intro W hW
        have := h_fence hW (by rw [flush_steps, flush_steps]; omega) (by rw [flush_steps, flush_steps]; omega)
        rw [show (((F.run (sides n 8)).flush 0).flush ((n + 8) / 8)).fence = M3 from by rw [HM3.out, HF.out]; rfl] at this
        exact this
      obtain ⟨N1, hN1⟩ : ∃ N1, N1 = (F.run (sides n 8)).flush 0 := ⟨_, rfl⟩
      rw [← hN1] at hf1 hf2 hf3
      obtain ⟨N2, hN2⟩ : ∃ N2, N2 = N1.flush ((n + 8) / 8) := ⟨_, rfl⟩
      rw [← hN2] at hf2 hf3
      have HF1 : Hid (∀ W, Hj [] w W b (F.run (sides n 8)) → Calls Try.prog 12 #[.pointer (some ⟨b, 0, none⟩), .int .i64 0] W fun e w' => e = .returned (.int .i64 0) ∧ Hj [] w w' b N1) := hf1
      have HF2 : Hid (∀ W, Hj [] w W b N1 → Calls Try.prog 12 #[.pointer (some ⟨b, 0, none⟩), .int .i64 (((n : Int) + 8) / 8)] W fun e w' => e = .returned (.int .i64 0) ∧ Hj [] w w' b N2) := hf2
      have HF3 : Hid (∀ W, Hj [] w W b N2 → Calls Try.prog 13 #[.pointer (some ⟨b, 0, none⟩)] W fun e w' => e = .returned (.int .i64 0) ∧ Hj [] w w' b M3) := hf3
      have HNW : Hid (∀ W, Hj [] w W b M3 → Calls Try.prog 14 #[.pointer (some ⟨b, 0, none⟩), .int .i64 8, .int .i64 (n : Int)] W fun e w' => ∃ j, e = .returned (.tuple #[.pointer (some ⟨j, 0, none⟩), .int .i64 0]) ∧ Hj [(j, jn b 8 n)] w w' b M0) := by
        show ∀ W, _
        intro W hW
        refine (j_new hW (f := 8) (n := n) HFX.out.1 HFX.out.2.s0 (by have := HFX.out.2.s1; omega) HFX.out.2.t0 (by have := HFX.out.2.t1; omega)).mono ?_
        rintro e w' ⟨j, he, -, h⟩
        rw [← HM0.out] at h
        exact ⟨j, he, h⟩
      have tk1 : True := trivial
      clear hf1 hf2 hf3 hN1 hN2 h1 h2 h3
      go_wp2_with (first
        | (go_at_call 12; clear tk1; refine Calls.mono (HF1.out _ HR.out) ?_; rintro e w4 ⟨rfl, h4⟩; have H4 : Hid (Hj [] w w4 b N1) := h4; clear h4)
        | (go_at_call 12; refine Calls.mono (HF2.out _ H4.out) ?_; rintro e w5 ⟨rfl, h5⟩; have H5 : Hid (Hj [] w w5 b N2) := h5; clear h5)
        | (go_at_call 13; refine Calls.mono (HF3.out _ H5.out) ?_; rintro e w6 ⟨rfl, h6⟩; have H6 : Hid (Hj [] w w6 b M3) := h6; clear h6)
        | (go_at_call 14; refine Calls.mono (HNW.out _ H6.out) ?_; rintro e w7 ⟨j, rfl, h7⟩; have H7 : Hid (Hj [(j, jn b 8 n)] w w7 b M0) := h7; clear h7)
        | (go_at_call 10; refine (u_num _ _).mono ?_; rintro e w' ⟨rfl, rfl⟩)
        | (go_at_call 15; refine (j_played H7.out HPI.out h64 h312 cap0 HA.out).mono ?_; rintro e w8 ⟨rfl, hM⟩; have H8 : Hid (∃ M', Hj [] w w8 b M' ∧ M'.seen.length = n + 32 ∧ wordAt M'.seen 3 = 77 ∧ wordAt M'.seen (n + 9) = 78) := hM; clear hM)
        | (go_at_call 16; obtain ⟨M', hj, hl, ha, hb⟩ := H8.out; refine (a_kept hj (by omega) (by omega) ha hb).mono ?_; rintro e w9 ⟨rfl, rfl⟩; have H9 : Hid (Kept [] w _) := hj.1; clear hj hl ha hb H8)
        | (go_at_call 17; refine (awake_any _).mono ?_; rintro e wa ⟨rfl, hka⟩; have H10 : Hid (Kept [] w wa) := H9.out.trans hka (by simp); clear hka))
      go_ret
      exact ⟨rfl, H10.out⟩

theorem walk (x : Int) (a0 : Option Addr) (len0 cap0 : Nat) (w : World) (_ : (Lit.int .i64 x).wf = true) (ha : IsActs w a0 len0) :
    Calls Try.prog 3 #[.int .i64 x, .slice a0 len0 cap0] w fun e w' => e = .returned (.bool true) ∧ Below w.heap.size w w' :=
  (main x a0 len0 cap0 w ha).mono fun e w' h => ⟨h.1, bel h.2⟩

set_option maxRecDepth 100000 in
theorem lifted (os : Os) (started : os.Started) (H : Type) (enc : TypeId × Value → H) :
    ReturnsInHanded {} Try.checked os 3 .any (Rows.journalActsSpec.pre6 enc Try.prog Try.f3 Rows.journalActsRow.domain false) (Rows.journalActsSpec.post enc Try.prog Try.f3 false true false false) := by
  refine returnsInHanded_of_change_sized (C := Try.checked) own started (by kernel_rfl) Try.func3
    (ChangeSpec.witness6 (enc := enc) (C := Try.checked) false ⟨#[], #[.int .i64 0, .slice none 0 0], []⟩ 8 (by kernel_rfl) (by kernel_rfl) (by kernel_rfl) (by kernel_rfl)) ?_
  intro W base args ds gs before hval0 hW hcnd hsz0 _
  have hval : ∀ (j : Nat) t v, Try.f3.params[j]? = some t → args[j]? = some v → Value.okWide Try.prog W .any base t v := hval0
  have hW' := hW
  obtain ⟨p, q, hA0, hV, rfl, hfz, hnd⟩ := hW
  have hA : DataW.TrodAll enc Try.prog W 0 (fun _ => true) true Try.f3.params.toList args.toList ds p := hA0
  have hsz : (DataW.weightsEach Try.prog (Try.f3.params.toList ++ Rows.journalActsSpec.plain.varTypes Try.prog) (ds ++ gs)).all (· ≤ reachBytes) = true := hsz0
  rw [Try.params3] at hA hval hsz
  obtain ⟨v0, vs0, d0, ds0, p0, q0, hargs, rfl, rfl, h0, r0⟩ := trodAll_cons hA
  obtain ⟨v1, vs1, d1, ds1, p1, q1, rfl, rfl, rfl, h1, r1⟩ := trodAll_cons r0
  obtain ⟨rfl, rfl, rfl⟩ := trodAll_nil r1
  obtain rfl : args = #[v0, v1] := by cases args; simp_all
  obtain ⟨rfl, rfl⟩ := trodVars_none hV
  obtain ⟨a0, rfl, rfl, rfl, w0⟩ := open_int Try.underlying3 (hval 0 3 v0 rfl rfl) h0
  obtain ⟨a1, len1, cap1, rfl⟩ := okWide_slice Try.underlying22 (hval 1 22 v1 rfl rfl)
  have k1 := h1
  have lt1 : ∀ x ∈ p1, x.block < W.heap.size := by obtain ⟨m, hm⟩ := k1; exact DataW.trod_lt m _ _ _ hm
  have wt1 : ∀ n ∈ d1.weights Try.prog 22, n ≤ reachBytes := fun n hn => by
    have := List.all_eq_true.1 hsz n (DataW.weights_mem_each (j := 1) rfl rfl n hn)
    simpa using this
  have w1 : IsActs W a1 len1 := by
    obtain ⟨fuel, hf⟩ := h1
    exact acts_at hf wt1
  clear hA0 hval0
  refine (walk a0 a1 len1 cap1 W w0 w1).mono fun e W' ⟨he, bel⟩ => ?_
  subst he
  exact ⟨_, rfl, _, _, _, [], _, [], hW', trodAll_mk1 (shut_bool Try.underlying4 _), (trodAll_cons_mk (shut_int Try.underlying3 w0) (trodAll_cons_mk (Below.trod laidOut (by kernel_rfl) (of_decide_eq_true (by kernel_rfl)) k1 bel lt1) trodAll_mk0)), rfl, bel.frame _, fun h => by cases h⟩

theorem over : Rows.journalActsRow.holds Try.pinned (OpenSpec.ofChange Rows.journalActsSpec) :=
  OpenClaim.holds_of_wide 3 Try.f3 rfl rfl rfl rfl rfl rfl rfl ⟨rfl, rfl, rfl, rfl, rfl⟩ rfl rfl rfl rfl rfl (by kernel_rfl) Try.func3 (by kernel_rfl)
    (of_decide_eq_true (by kernel_rfl)) (by unfold Func.isWrapper; first | (rw [if_pos (by decide +kernel)]; kernel_rfl) | (rw [if_neg (by decide +kernel)]; exact ⟨rfl, rfl⟩))
    (fun os started H enc _ => lifted os started H enc)

end Go.Proofs.Ytpaefllhngbimaa.journalActs

namespace Go.Proofs.Ytpaefllhngbimaa
theorem journalActs_holds : Rows.JournalActsSaid := journalActs.over
#print axioms journalActs_holds
end Go.Proofs.Ytpaefllhngbimaa
