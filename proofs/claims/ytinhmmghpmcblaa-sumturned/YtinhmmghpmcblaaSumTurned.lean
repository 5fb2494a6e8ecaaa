/-
  concourselaw18.SumTurned returns true for every text and two numbers: texts that differ in their last byte have unlike sums, others one. No condition.
-/
import Derived.Test.YtinhmmghpmcblaaRows
import Derived.Test.YtinhmmghpmcblaaSc
import Derived.WalkKit
import Derived.ProofKit
import Derived.OpenShut
import Derived.ShutString
import Derived.ChangeOld
import Derived.Below
import Derived.Deep.Slices
import Derived.SizedLaws
namespace Go.Proofs.Ytinhmmghpmcblaa.sumTurned
open Go.ChangeShapes Go.WideShapes Go.ChangeAt Go.RowKit
open Go.ChangeMaps (open_string shut_string)
set_option linter.unusedVariables false

theorem own : ownKnob Try.prog.godebug = none := by kernel_rfl
theorem laidOut : laidOutB Try.prog = true := by kernel_rfl

set_option maxRecDepth 100000 in
set_option maxHeartbeats 2000000 in
theorem main (s : ByteArray) (x y : Int) (w : World) (hs : s.size ≤ 140737488351232) :
    Calls Try.prog 6 #[.string s, .int .i64 x, .int .i64 y] w fun e w' => e = .returned (.bool true) ∧ Kept [] w w' := by
  obtain ⟨n, hn, hn2⟩ : ∃ n : Nat, IntKind.u8.wrap x = (n : Int) ∧ n < 256 := ⟨(x % 256).toNat, by rw [IntKind.wrap_u8]; omega, by omega⟩
  obtain ⟨m, hm, hm2⟩ : ∃ m : Nat, IntKind.u8.wrap y = (m : Int) ∧ m < 256 := ⟨(y % 256).toNat, by rw [IntKind.wrap_u8]; omega, by omega⟩
  go_enter Try.func6, Try.ntmps6
  go_wp2_with fail
  refine (awake_any w).mono ?_
  rintro e w1 ⟨rfl, hk⟩
  have H1 : Hid (Kept [] w w1) := hk
  clear hk
  go_wp2_with fail
  have hh1 : ∀ (W : World) (c : Array Value), ((W.alloc (.cells c 5)).drew).heap[W.heap.size]? = some (.cells c 5) := by
    intro W c; show (W.heap.push _)[W.heap.size]? = _; rw [Array.getElem?_push, if_pos rfl]
  have hh2 : ∀ (W : World) (c d : Array Value), (((W.alloc (.cells c 5)).alloc (.cells d 5)).drew).heap[W.heap.size]? = some (.cells c 5) := by
    intro W c d; show ((W.heap.push _).push _)[W.heap.size]? = _; rw [Array.getElem?_push, if_neg (by simp), Array.getElem?_push, if_pos rfl]
  have f1 := conv_at _ _ n hn2 (hh1 w1 #[.int .u8 (n : Int)])
  have f2 := conv_at _ _ m hm2 (hh1 w1 #[.int .u8 (m : Int)])
  have f3 := conv_at _ _ m hm2 (hh1 (w1.alloc (.cells #[.int .u8 (n : Int)] 5)) #[.int .u8 (m : Int)])
  have f4 := conv_at _ _ n hn2 (hh1 (w1.alloc (.cells #[.int .u8 (m : Int)] 5)) #[.int .u8 (n : Int)])
  have f5 := conv_at _ _ n hn2 (hh2 w1 #[.int .u8 (n : Int)] #[.int .u8 (m : Int)])
  have f6 := conv_at _ _ m hm2 (hh2 w1 #[.int .u8 (m : Int)] #[.int .u8 (n : Int)])
  clear hh1 hh2
  have e1 : (w1.alloc (.cells #[.int .u8 (n : Int)] 5)).heap.size = w1.heap.size + 1 := by simp
  have e2 : (w1.alloc (.cells #[.int .u8 (m : Int)] 5)).heap.size = w1.heap.size + 1 := by simp
  rw [e1] at f3
  rw [e2] at f4
  clear e1 e2
  have HP : Hid (_ = _) := sumS_push s (UInt8.ofNat n)
  have HQ : Hid (_ = _) := sumS_push s (UInt8.ofNat m)
  have hnn : (UInt8.ofNat n).toNat = n := UInt8.toNat_ofNat_of_lt' (by show n < 256; omega)
  have hmm : (UInt8.ofNat m).toNat = m := UInt8.toNat_ofNat_of_lt' (by show m < 256; omega)
  have hs1 : (s ++ ⟨#[UInt8.ofNat n]⟩ : ByteArray).size ≤ 140737488351233 := by rw [ByteArray.size_append]; show _ + 1 ≤ _; omega
  have hs2 : (s ++ ⟨#[UInt8.ofNat m]⟩ : ByteArray).size ≤ 140737488351233 := by rw [ByteArray.size_append]; show _ + 1 ≤ _; omega
  rw [hnn] at HP
  rw [hmm] at HQ
  have he : (((stp (sumS s) n).toNat : Int) == ((stp (sumS s) m).toNat : Int)) = ((n : Int) == (m : Int)) := by
    by_cases hc : n = m
    · subst hc; simp
    · have h1 : ¬ ((stp (sumS s) n).toNat : Int) = ((stp (sumS s) m).toNat : Int) := fun h => hc (stp_byte (h := sumS s) hn2 hm2 (BitVec.eq_of_toNat_eq (by omega)))
      have h2 : ¬ (n : Int) = (m : Int) := by omega
      rw [beq_eq_false_iff_ne.2 h1, beq_eq_false_iff_ne.2 h2]
  go_region
  all_goals
    clear f1 f2 f3 f4 f5 f6
    go_wp2_with fail
    refine (p_of _ _ (by omega)).mono ?_
    rintro e w3 ⟨rfl, hw⟩
    subst hw
    rw [HP.out]
    go_wp2_with fail
    refine (p_of _ _ (by omega)).mono ?_
    rintro e w3 ⟨rfl, hw⟩
    subst hw
    rw [HQ.out]
    go_wp2_with fail
    refine (p_of _ _ (by omega)).mono ?_
    rintro e w3 ⟨rfl, hw⟩
    subst hw
    rw [HP.out]
    go_wp2_with fail
    refine (p_hex _ (stp (sumS s) n).isLt _).mono ?_
    rintro e w3 ⟨rfl, hk⟩
    have H3 : Hid (Kept [] w w3) := ((H1.out.alloc _).alloc _).drew.trans hk (by simp)
    clear hk
    have hts := hexT_size (stp (sumS s) n).toNat
    go_wp2_with fail
    refine (num 0 _).mono ?_
    rintro e w4 ⟨rfl, hw⟩
    subst hw
    go_wp2_with fail
    go_ret
    exact ⟨rfl, H3.out⟩

theorem walk (s : ByteArray) (x y : Int) (w : World) (hs : s.size ≤ 140737488351232) (_ : (Lit.int .i64 x).wf = true) (_ : (Lit.int .i64 y).wf = true) :
    Calls Try.prog 6 #[.string s, .int .i64 x, .int .i64 y] w fun e w' => e = .returned (.bool true) ∧ Below w.heap.size w w' :=
  (main s x y w hs).mono fun e w' ⟨he, hk⟩ => ⟨he, hk.below (Nat.le_refl _) (by simp)⟩

set_option maxRecDepth 100000 in
theorem lifted (os : Os) (started : os.Started) (H : Type) (enc : TypeId × Value → H) :
    ReturnsInHanded {} Try.checked os 6 .any (Rows.sumTurnedSpec.pre6 enc Try.prog Try.f6 Rows.sumTurnedRow.domain false) (Rows.sumTurnedSpec.post enc Try.prog Try.f6 false true false false) := by
  refine returnsInHanded_of_change_sized (C := Try.checked) own started (by kernel_rfl) Try.func6
    (ChangeSpec.witness6 (enc := enc) (C := Try.checked) false ⟨#[], #[.string ⟨#[]⟩, .int .i64 0, .int .i64 0], []⟩ 8 (by kernel_rfl) (by kernel_rfl) (by kernel_rfl) (by kernel_rfl)) ?_
  intro W base args ds gs before hval0 hW hcnd hsz0 _
  have hval : ∀ (j : Nat) t v, Try.f6.params[j]? = some t → args[j]? = some v → Value.okWide Try.prog W .any base t v := hval0
  have hW' := hW
  obtain ⟨p, q, hA0, hV, rfl, hfz, hnd⟩ := hW
  have hA : DataW.TrodAll enc Try.prog W 0 (fun _ => true) true Try.f6.params.toList args.toList ds p := hA0
  have hsz : (DataW.weightsEach Try.prog (Try.f6.params.toList ++ Rows.sumTurnedSpec.plain.varTypes Try.prog) (ds ++ gs)).all (· ≤ reachBytes) = true := hsz0
  rw [Try.params6] at hA hval hsz
  obtain ⟨v0, vs0, d0, ds0, p0, q0, hargs, rfl, rfl, h0, r0⟩ := trodAll_cons hA
  obtain ⟨v1, vs1, d1, ds1, p1, q1, rfl, rfl, rfl, h1, r1⟩ := trodAll_cons r0
  obtain ⟨v2, vs2, d2, ds2, p2, q2, rfl, rfl, rfl, h2, r2⟩ := trodAll_cons r1
  obtain ⟨rfl, rfl, rfl⟩ := trodAll_nil r2
  obtain rfl : args = #[v0, v1, v2] := by cases args; simp_all
  obtain ⟨rfl, rfl⟩ := trodVars_none hV
  obtain ⟨a0, rfl, rfl, rfl, m0⟩ := open_string Try.underlying9 (hval 0 9 v0 rfl rfl) h0
  have w0 : a0.size ≤ 140737488351232 := by have := sized_string hsz (j := 0) rfl rfl; simpa [reachBytes] using this
  obtain ⟨a1, rfl, rfl, rfl, w1⟩ := open_int Try.underlying3 (hval 1 3 v1 rfl rfl) h1
  obtain ⟨a2, rfl, rfl, rfl, w2⟩ := open_int Try.underlying3 (hval 2 3 v2 rfl rfl) h2
  clear hA0 hval0
  refine (walk a0 a1 a2 W w0 w1 w2).mono fun e W' ⟨he, bel⟩ => ?_
  subst he
  simp only [List.append_nil] at hW'
  exact ⟨_, rfl, _, _, _, [], [], [], hW', (trodAll_cons_mk (shut_bool Try.underlying4 _) trodAll_mk0), (trodAll_cons_mk (shut_string Try.underlying9 m0) (trodAll_cons_mk (shut_int Try.underlying3 w1) (trodAll_cons_mk (shut_int Try.underlying3 w2) trodAll_mk0))), rfl, bel.frame _, fun h => by cases h⟩

theorem over : Rows.sumTurnedRow.holds Try.pinned (OpenSpec.ofChange Rows.sumTurnedSpec) :=
  OpenClaim.holds_of_wide 6 Try.f6 rfl rfl rfl rfl rfl rfl rfl ⟨rfl, rfl, rfl, rfl, rfl⟩ rfl rfl rfl rfl rfl (by kernel_rfl) Try.func6 (by kernel_rfl)
    (of_decide_eq_true (by kernel_rfl)) (by unfold Func.isWrapper; first | (rw [if_pos (by decide +kernel)]; kernel_rfl) | (rw [if_neg (by decide +kernel)]; exact ⟨rfl, rfl⟩))
    (fun os started H enc _ => lifted os started H enc)

end Go.Proofs.Ytinhmmghpmcblaa.sumTurned

namespace Go.Proofs.Ytinhmmghpmcblaa
theorem sumTurned_holds : Rows.SumTurnedSaid := sumTurned.over
#print axioms sumTurned_holds
end Go.Proofs.Ytinhmmghpmcblaa
