/-
  concourselaw18.SumOne returns true for every text and numbers: texts that differ in one byte alone have unlike sums. No condition.
-/
import Derived.Test.YtinhmmghpmcblaaRows
import Derived.Test.YtinhmmghpmcblaaSc
import Derived.WalkKit
import Derived.ProofKit
import Derived.OpenShut
import Derived.ShutString
import Derived.ChangeOld
import Derived.Below
import Derived.Deep.Slices
import Derived.SizedLaws
namespace Go.Proofs.Ytinhmmghpmcblaa.sumOne
open Go.ChangeShapes Go.WideShapes Go.ChangeAt Go.RowKit
open Go.ChangeMaps (open_string shut_string)
set_option linter.unusedVariables false

theorem own : ownKnob Try.prog.godebug = none := by kernel_rfl
theorem laidOut : laidOutB Try.prog = true := by kernel_rfl

set_option maxRecDepth 100000 in
set_option maxHeartbeats 2000000 in
theorem main (s : ByteArray) (x y : Int) (w : World) (hs : s.size ≤ 140737488351232) :
    Calls Try.prog 4 #[.string s, .int .i64 x, .int .i64 y] w fun e w' => e = .returned (.bool true) ∧ Kept [] w w' := by
  obtain ⟨t, ht⟩ : ∃ t : ByteArray, t = s ++ ⟨#[113]⟩ := ⟨_, rfl⟩
  have hts : 0 < t.size ∧ t.size ≤ 140737488351233 := by rw [ht, ByteArray.size_append]; show 0 < s.size + 1 ∧ s.size + 1 ≤ _; omega
  obtain ⟨ht0, ht1⟩ := hts
  have HT : Hid (t = s ++ ⟨#[113]⟩) := ht
  clear ht
  go_enter Try.func4, Try.ntmps4
  go_wp2_with fail
  refine (awake_any w).mono ?_
  rintro e w1 ⟨rfl, hk⟩
  have H1 : Hid (Kept [] w w1) := hk
  clear hk
  go_upto_region 4 with fail
  rw [← HT.out]
  obtain ⟨k, hk8, hkt⟩ := urem_at x t.size ht0 ht1
  obtain ⟨W2, cap, hcv, hK2, hcl, hfr⟩ := conv_bytes t w1
  have c1 := hcl k hkt
  have c2 := hfr k hkt
  have HC : Hid (_) := hcl
  have H2 : Hid (Kept [] w W2) := H1.out.trans hK2 (by simp)
  have hnew : w.heap.size ≤ w1.heap.size := H1.out.size
  clear hcl hfr hK2
  go_upto_region 7 with fail
  obtain ⟨d, hd, hd1, hd2⟩ := urem_255 y
  obtain ⟨v, hv, hv1, hv2⟩ := xor_turned (t[k]'hkt).toNat d (t[k]'hkt).toNat_lt hd1 hd2
  rw [hd, hv]
  have hcv2 := conv_turned (cap := cap) t k v hkt HC.out
  have hne := sumS_turned t k v hkt hv1 hv2
  have hsz : (strOfNums ((numsOf t).set k (v : Int))).size = t.size := by rw [strOfNums_size, List.length_set, numsOf_length]
  have H3 : Hid (Kept [] w (W2.setCell ⟨w1.heap.size, k, none⟩ (.int .u8 (v : Int)))) := H2.out.setCell (Or.inr hnew) _
  have hq1 : ∀ W, Calls Try.prog 7 #[.string t] W fun e w' => e = .returned (.int .u64 ((sumS t).toNat : Int)) ∧ w' = W := fun W => p_of t W (by omega)
  have hq2 := fun W => p_of (strOfNums ((numsOf t).set k (v : Int))) W (by omega)
  have hq3 : ∀ W, Calls Try.prog 7 #[.string (t.extract 0 k ++ t.extract k t.size)] W fun e w' => e = .returned (.int .u64 ((sumS t).toNat : Int)) ∧ w' = W := by
    rw [parts_whole t k (by omega)]; exact hq1
  have hn1 : ¬ ((sumS t).toNat : Int) = ((sumS (strOfNums ((numsOf t).set k (v : Int)))).toNat : Int) := fun h => hne (BitVec.eq_of_toNat_eq (by omega))
  generalize strOfNums ((numsOf t).set k (v : Int)) = u at *
  generalize ((sumS t).toNat : Int) = A at *
  generalize ((sumS u).toNat : Int) = B at *
  have hn2 : (A == B) = false := beq_eq_false_iff_ne.2 hn1
  have hn3 : (A != B) = true := bne_iff_ne.2 hn1
  have HQ1 : Hid (_) := hq1
  have HQ2 : Hid (_) := hq2
  have HQ3 : Hid (_) := hq3
  have hsl1 : (k : Int) ≤ (t.size : Int) := by omega
  clear hq1 hq2 hq3 hne hd hv HC hcv c1 c2
  generalize W2.setCell ⟨w1.heap.size, k, none⟩ (.int .u8 (v : Int)) = W3 at *
  go_quiet (first | (go_at_call 7; first | with_reducible exact Calls.quiet_of_same (HQ1.out _) | with_reducible exact Calls.quiet_of_same (HQ2.out _) | with_reducible exact Calls.quiet_of_same (HQ3.out _)))
  go_wp2_with fail
  go_ret
  exact ⟨rfl, H3.out.drewN _⟩

theorem walk (s : ByteArray) (x y : Int) (w : World) (hs : s.size ≤ 140737488351232) (_ : (Lit.int .i64 x).wf = true) (_ : (Lit.int .i64 y).wf = true) :
    Calls Try.prog 4 #[.string s, .int .i64 x, .int .i64 y] w fun e w' => e = .returned (.bool true) ∧ Below w.heap.size w w' :=
  (main s x y w hs).mono fun e w' ⟨he, hk⟩ => ⟨he, hk.below (Nat.le_refl _) (by simp)⟩

set_option maxRecDepth 100000 in
theorem lifted (os : Os) (started : os.Started) (H : Type) (enc : TypeId × Value → H) :
    ReturnsInHanded {} Try.checked os 4 .any (Rows.sumOneSpec.pre6 enc Try.prog Try.f4 Rows.sumOneRow.domain false) (Rows.sumOneSpec.post enc Try.prog Try.f4 false true false false) := by
  refine returnsInHanded_of_change_sized (C := Try.checked) own started (by kernel_rfl) Try.func4
    (ChangeSpec.witness6 (enc := enc) (C := Try.checked) false ⟨#[], #[.string ⟨#[]⟩, .int .i64 0, .int .i64 0], []⟩ 8 (by kernel_rfl) (by kernel_rfl) (by kernel_rfl) (by kernel_rfl)) ?_
  intro W base args ds gs before hval0 hW hcnd hsz0 _
  have hval : ∀ (j : Nat) t v, Try.f4.params[j]? = some t → args[j]? = some v → Value.okWide Try.prog W .any base t v := hval0
  have hW' := hW
  obtain ⟨p, q, hA0, hV, rfl, hfz, hnd⟩ := hW
  have hA : DataW.TrodAll enc Try.prog W 0 (fun _ => true) true Try.f4.params.toList args.toList ds p := hA0
  have hsz : (DataW.weightsEach Try.prog (Try.f4.params.toList ++ Rows.sumOneSpec.plain.varTypes Try.prog) (ds ++ gs)).all (· ≤ reachBytes) = true := hsz0
  rw [Try.params4] at hA hval hsz
  obtain ⟨v0, vs0, d0, ds0, p0, q0, hargs, rfl, rfl, h0, r0⟩ := trodAll_cons hA
  obtain ⟨v1, vs1, d1, ds1, p1, q1, rfl, rfl, rfl, h1, r1⟩ := trodAll_cons r0
  obtain ⟨v2, vs2, d2, ds2, p2, q2, rfl, rfl, rfl, h2, r2⟩ := trodAll_cons r1
  obtain ⟨rfl, rfl, rfl⟩ := trodAll_nil r2
  obtain rfl : args = #[v0, v1, v2] := by cases args; simp_all
  obtain ⟨rfl, rfl⟩ := trodVars_none hV
  obtain ⟨a0, rfl, rfl, rfl, m0⟩ := open_string Try.underlying9 (hval 0 9 v0 rfl rfl) h0
  have w0 : a0.size ≤ 140737488351232 := by have := sized_string hsz (j := 0) rfl rfl; simpa [reachBytes] using this
  obtain ⟨a1, rfl, rfl, rfl, w1⟩ := open_int Try.underlying3 (hval 1 3 v1 rfl rfl) h1
  obtain ⟨a2, rfl, rfl, rfl, w2⟩ := open_int Try.underlying3 (hval 2 3 v2 rfl rfl) h2
  clear hA0 hval0
  refine (walk a0 a1 a2 W w0 w1 w2).mono fun e W' ⟨he, bel⟩ => ?_
  subst he
  simp only [List.append_nil] at hW'
  exact ⟨_, rfl, _, _, _, [], [], [], hW', (trodAll_cons_mk (shut_bool Try.underlying4 _) trodAll_mk0), (trodAll_cons_mk (shut_string Try.underlying9 m0) (trodAll_cons_mk (shut_int Try.underlying3 w1) (trodAll_cons_mk (shut_int Try.underlying3 w2) trodAll_mk0))), rfl, bel.frame _, fun h => by cases h⟩

theorem over : Rows.sumOneRow.holds Try.pinned (OpenSpec.ofChange Rows.sumOneSpec) :=
  OpenClaim.holds_of_wide 4 Try.f4 rfl rfl rfl rfl rfl rfl rfl ⟨rfl, rfl, rfl, rfl, rfl⟩ rfl rfl rfl rfl rfl (by kernel_rfl) Try.func4 (by kernel_rfl)
    (of_decide_eq_true (by kernel_rfl)) (by unfold Func.isWrapper; first | (rw [if_pos (by decide +kernel)]; kernel_rfl) | (rw [if_neg (by decide +kernel)]; exact ⟨rfl, rfl⟩))
    (fun os started H enc _ => lifted os started H enc)

end Go.Proofs.Ytinhmmghpmcblaa.sumOne

namespace Go.Proofs.Ytinhmmghpmcblaa
theorem sumOne_holds : Rows.SumOneSaid := sumOne.over
#print axioms sumOne_holds
end Go.Proofs.Ytinhmmghpmcblaa
