/-
  Proved: for every a, b and again, the law PmemLast returns true. No condition.
-/
import Derived.Test.YtghcommbflfbnaaRows
import Derived.Test.YtghcommbflfbnaaSaved
import Derived.Test.YtghcommbflfbnaaAwake
import Derived.WalkKit
import Derived.ProofKit
import Derived.OpenShut
namespace Go.Proofs.Ytghcommbflfbnaa.pmemLast
open Go.ChangeShapes Go.WideShapes Go.ChangeAt Go.RowKit
set_option linter.unusedVariables false

theorem own : ownKnob Try.prog.godebug = none := by kernel_rfl

/-- The state ahead of the crash. -/
def st (A B : Int) (again : Bool) : Pm := (if again then ((((fresh 8).store 2 A).flush 0).store 2 B).flush 0 else (((fresh 8).store 2 A).flush 0).store 2 B).fence

theorem st_seen (A B : Int) (again : Bool) : wordAt (st A B again).seen 2 = B := by cases again <;> kernel_rfl
theorem st_lasts (A B : Int) (again : Bool) : wordAt (st A B again).lasts 2 = if again then B else A := by cases again <;> kernel_rfl
theorem st_len (A B : Int) (again : Bool) : (st A B again).seen.length = 8 := by cases again <;> kernel_rfl
theorem st_len2 (A B : Int) (again : Bool) : (st A B again).lasts.length = 8 := by cases again <;> kernel_rfl
theorem st_stores (A B : Int) (again : Bool) : ((st A B again).crash (-1)).stores = 2 := by cases again <;> kernel_rfl

set_option maxHeartbeats 2000000 in
theorem walk (a0 : Int) (a1 : Int) (a2 : Bool) (w0 : (Lit.int .i64 a0).wf = true) (w1 : (Lit.int .i64 a1).wf = true) (w : World) :
    Calls Try.prog 7 #[.int .i64 a0, .int .i64 a1, .bool a2] w fun e w' => e = .returned (.bool true) ∧ Kept [] w w' := by
  clear w0 w1
  go_enter Try.func7, Try.ntmps7
  go_wp2_with fail
  refine (awake_any w).mono ?_
  rintro e w1 ⟨rfl, hK⟩
  have HK : Hid (_) := hK
  clear hK
  go_wp2_with fail
  refine (u_new w1 8 (by omega) (by omega) (by omega)).mono ?_
  rintro e w2 ⟨b, rfl, hm2⟩
  go_wp2_with fail
  refine (u_store hm2 2 (IntKind.u64.wrap a0) (by decide) (by decide) (by decide) (by decide) (by decide) (by decide)).mono ?_
  rintro e w3 ⟨rfl, hm3⟩
  clear hm2
  go_wp2_with fail
  refine (u_flush hm3 0 (by decide) (by rw [store_seen, List.length_set]; decide) (by rw [store_steps]; decide) (by rw [store_steps]; decide)).mono ?_
  rintro e w4 ⟨rfl, hm4⟩
  clear hm3
  go_wp2_with fail
  refine (u_store hm4 2 (IntKind.u64.wrap a1) (by decide) (by rw [flush_seen, store_seen, List.length_set]; decide) (by rw [flush_steps, store_steps]; decide) (by rw [flush_steps, store_steps]; decide) (by rw [flush_stores, store_stores]; decide) (by rw [flush_stores, store_stores]; decide)).mono ?_
  rintro e w5 ⟨rfl, hm5⟩
  clear hm4
  cases a2 with
  | true =>
    go_wp2_with fail
    refine (u_flush hm5 0 (by decide) (by rw [store_seen, flush_seen, store_seen, List.length_set, List.length_set]; decide) (by rw [store_steps, flush_steps, store_steps]; decide) (by rw [store_steps, flush_steps, store_steps]; decide)).mono ?_
    rintro e w6 ⟨rfl, hm6⟩
    clear hm5
    go_wp2_with fail
    refine (u_fence hm6 (by rw [flush_steps, store_steps, flush_steps, store_steps]; decide) (by rw [flush_steps, store_steps, flush_steps, store_steps]; decide)).mono ?_
    rintro e w7 ⟨rfl, hm7⟩
    clear hm6
    have hm8 : Has w1 w7 b (st (IntKind.u64.wrap a0) (IntKind.u64.wrap a1) true) := hm7
    clear hm7
    have hs := st_seen (IntKind.u64.wrap a0) (IntKind.u64.wrap a1) true
    have hl := st_lasts (IntKind.u64.wrap a0) (IntKind.u64.wrap a1) true
    have hn := st_len (IntKind.u64.wrap a0) (IntKind.u64.wrap a1) true
    have hn2 := st_len2 (IntKind.u64.wrap a0) (IntKind.u64.wrap a1) true
    have hst := st_stores (IntKind.u64.wrap a0) (IntKind.u64.wrap a1) true
    generalize st (IntKind.u64.wrap a0) (IntKind.u64.wrap a1) true = M at *
    have hc := crash_none M (-1) (by decide)
    have HS : Hid (_ ∧ _ ∧ _ ∧ _ ∧ _ ∧ _) := ⟨hs, hl, hn, hn2, hst, hc⟩
    clear hs hl hn hn2 hst hc
    go_wp2_with fail
    refine (u_load hm8 2 (by decide) (by rw [HS.out.2.2.1]; decide)).mono ?_
    rintro e w' ⟨rfl, rfl⟩
    rw [show (2 : Int).toNat = 2 from rfl, HS.out.1]
    go_wp2_with fail
    refine (u_crash hm8 (-1) (by decide)).mono ?_
    rintro e w8 ⟨rfl, hm9⟩
    clear hm8
    go_wp2_with fail
    refine (u_load hm9 2 (by decide) (by rw [HS.out.2.2.2.2.2, HS.out.2.2.2.1]; decide)).mono ?_
    rintro e w' ⟨rfl, rfl⟩
    rw [show (2 : Int).toNat = 2 from rfl, HS.out.2.2.2.2.2, HS.out.2.1]
    have hKK := HK.out.trans hm9.1 (by simp)
    go_wp2_with (first
      | (go_at_call 11; refine (u_num _ _).mono ?_; rintro e w' ⟨rfl, rfl⟩)
      | (go_at_call 17; refine (u_stores hm9).mono ?_; rintro e w' ⟨rfl, rfl⟩; rw [HS.out.2.2.2.2.1]))
    go_ret
    exact ⟨rfl, hKK⟩
  | false =>
    go_wp2_with fail
    refine (u_fence hm5 (by rw [store_steps, flush_steps, store_steps]; decide) (by rw [store_steps, flush_steps, store_steps]; decide)).mono ?_
    rintro e w7 ⟨rfl, hm7⟩
    clear hm5
    have hm8 : Has w1 w7 b (st (IntKind.u64.wrap a0) (IntKind.u64.wrap a1) false) := hm7
    clear hm7
    have hs := st_seen (IntKind.u64.wrap a0) (IntKind.u64.wrap a1) false
    have hl := st_lasts (IntKind.u64.wrap a0) (IntKind.u64.wrap a1) false
    have hn := st_len (IntKind.u64.wrap a0) (IntKind.u64.wrap a1) false
    have hn2 := st_len2 (IntKind.u64.wrap a0) (IntKind.u64.wrap a1) false
    have hst := st_stores (IntKind.u64.wrap a0) (IntKind.u64.wrap a1) false
    generalize st (IntKind.u64.wrap a0) (IntKind.u64.wrap a1) false = M at *
    have hc := crash_none M (-1) (by decide)
    have HS : Hid (_ ∧ _ ∧ _ ∧ _ ∧ _ ∧ _) := ⟨hs, hl, hn, hn2, hst, hc⟩
    clear hs hl hn hn2 hst hc
    go_wp2_with fail
    refine (u_load hm8 2 (by decide) (by rw [HS.out.2.2.1]; decide)).mono ?_
    rintro e w' ⟨rfl, rfl⟩
    rw [show (2 : Int).toNat = 2 from rfl, HS.out.1]
    go_wp2_with fail
    refine (u_crash hm8 (-1) (by decide)).mono ?_
    rintro e w8 ⟨rfl, hm9⟩
    clear hm8
    go_wp2_with fail
    refine (u_load hm9 2 (by decide) (by rw [HS.out.2.2.2.2.2, HS.out.2.2.2.1]; decide)).mono ?_
    rintro e w' ⟨rfl, rfl⟩
    rw [show (2 : Int).toNat = 2 from rfl, HS.out.2.2.2.2.2, HS.out.2.1]
    have hKK := HK.out.trans hm9.1 (by simp)
    go_wp2_with (first
      | (go_at_call 11; refine (u_num _ _).mono ?_; rintro e w' ⟨rfl, rfl⟩)
      | (go_at_call 17; refine (u_stores hm9).mono ?_; rintro e w' ⟨rfl, rfl⟩; rw [HS.out.2.2.2.2.1]))
    go_ret
    exact ⟨rfl, hKK⟩

set_option maxRecDepth 100000 in
theorem lifted (os : Os) (started : os.Started) (H : Type) (enc : TypeId × Value → H) :
    ReturnsInHanded {} Try.checked os 7 .any (Rows.pmemLastSpec.pre6 enc Try.prog Try.f7 Rows.pmemLastRow.domain false) (Rows.pmemLastSpec.post enc Try.prog Try.f7 false true false false) := by
  refine returnsInHanded_of_change (C := Try.checked) own started (by kernel_rfl) Try.func7
    (ChangeSpec.witness6 (enc := enc) (C := Try.checked) false ⟨#[], #[.int .i64 0, .int .i64 0, .bool false], []⟩ 8 (by kernel_rfl) (by kernel_rfl) (by kernel_rfl) (by kernel_rfl)) ?_
  intro W base args ds gs before hval0 hW hcnd _
  have hval : ∀ (j : Nat) t v, Try.f7.params[j]? = some t → args[j]? = some v → Value.okWide Try.prog W .any base t v := hval0
  have hW' := hW
  obtain ⟨p, q, hA0, hV, rfl, hfz, hnd⟩ := hW
  have hA : DataW.TrodAll enc Try.prog W 0 (fun _ => true) true Try.f7.params.toList args.toList ds p := hA0
  rw [Try.params7] at hA hval
  obtain ⟨v0, vs0, d0, ds0, p0, q0, hargs, rfl, rfl, h0, r0⟩ := trodAll_cons hA
  obtain ⟨v1, vs1, d1, ds1, p1, q1, rfl, rfl, rfl, h1, r1⟩ := trodAll_cons r0
  obtain ⟨v2, vs2, d2, ds2, p2, q2, rfl, rfl, rfl, h2, r2⟩ := trodAll_cons r1
  obtain ⟨rfl, rfl, rfl⟩ := trodAll_nil r2
  obtain rfl : args = #[v0, v1, v2] := by cases args; simp_all
  obtain ⟨rfl, rfl⟩ := trodVars_none hV
  obtain ⟨a0, rfl, rfl, rfl, w0⟩ := open_int Try.underlying3 (hval 0 3 v0 rfl rfl) h0
  obtain ⟨a1, rfl, rfl, rfl, w1⟩ := open_int Try.underlying3 (hval 1 3 v1 rfl rfl) h1
  obtain ⟨a2, rfl, rfl, rfl⟩ := open_bool Try.underlying4 (hval 2 4 v2 rfl rfl) h2
  clear hA0 hval0
  simp only [List.append_nil] at hW'
  refine (walk a0 a1 a2 w0 w1 W).mono fun e W' ⟨he, hg⟩ => ?_
  subst he
  exact ⟨_, rfl, _, _, _, [], [], [], hW', (trodAll_cons_mk (shut_bool Try.underlying4 _) trodAll_mk0), (trodAll_cons_mk (shut_int Try.underlying3 w0) (trodAll_cons_mk (shut_int Try.underlying3 w1) (trodAll_cons_mk (shut_bool Try.underlying4 _) trodAll_mk0))), rfl,
    (hg.below (Nat.le_refl _) (by simp)).frame _, fun h => by cases h⟩

theorem over : Rows.pmemLastRow.holds Try.pinned (OpenSpec.ofChange Rows.pmemLastSpec) :=
  OpenClaim.holds_of_wide 7 Try.f7 rfl rfl rfl rfl rfl rfl rfl ⟨rfl, rfl, rfl, rfl, rfl⟩ rfl rfl rfl rfl rfl (by kernel_rfl) Try.func7 (by kernel_rfl)
    (of_decide_eq_true (by kernel_rfl)) (by unfold Func.isWrapper; first | (rw [if_pos (by decide +kernel)]; kernel_rfl) | (rw [if_neg (by decide +kernel)]; exact ⟨rfl, rfl⟩))
    (fun os started H enc _ => lifted os started H enc)


end Go.Proofs.Ytghcommbflfbnaa.pmemLast

namespace Go.Proofs.Ytghcommbflfbnaa
theorem pmemLast_holds : Rows.PmemLastSaid := pmemLast.over
#print axioms pmemLast_holds
end Go.Proofs.Ytghcommbflfbnaa
