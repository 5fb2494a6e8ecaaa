/-
  Proved: for every v, old and at, the law ArenaReads returns true. No condition.
-/
import Derived.Test.YtkaijfpenokmbaaRows
import Derived.Test.YtkaijfpenokmbaaBits
import Derived.WalkKit
import Derived.ProofKit
import Derived.OpenShut
import Derived.ShutString
import Derived.ChangeOld
import Derived.Below
import Derived.Deep.Slices
namespace Go.Proofs.Ytkaijfpenokmbaa.arenaReads
open Go.ChangeShapes Go.WideShapes Go.ChangeAt Go.RowKit
open Go.ChangeMaps (open_string shut_string)
set_option linter.unusedVariables false

theorem own : ownKnob Try.prog.godebug = none := by kernel_rfl
theorem laidOut : laidOutB Try.prog = true := by kernel_rfl

theorem word_set (n k : Nat) (v : Int) (hk : k < n) : wordAt ((List.replicate n (0 : Int)).set k v) k = v := by
  simp [wordAt, List.getD, hk]

set_option maxRecDepth 100000 in
set_option maxHeartbeats 4000000 in
theorem main (v old at0 o : Int) (k : Nat) (w : World) (hk : k < 16) (hb : bits .and .i64 at0 15 = (k : Int)) (ho : v ≠ o) (hcase : (old = v ∧ o = wrap64 (v + 1)) ∨ (old ≠ v ∧ o = old)) :
    Calls Try.prog 5 #[.int .i64 v, .int .i64 old, .int .i64 at0] w fun e w' => e = .returned (.bool true) ∧ Kept [] w w' := by
  have HO : Hid (v ≠ o) := ho
  clear ho
  go_enter Try.func5, Try.ntmps5
  go_wp2_with fail
  refine (awake_any w).mono ?_
  rintro e w1 ⟨rfl, hK⟩
  have HK : Hid (_) := hK
  clear hK
  go_wp2_with fail
  refine (u_new w1 16 2 (by omega) (by omega) (by omega) (by omega)).mono ?_
  rintro e w2 ⟨b, rfl, hm⟩
  have hm2 : Has w1 w2 b ⟨List.replicate 16 0, [[], []]⟩ := hm
  clear hm
  go_wp2_with fail
  refine (u_store hm2 0 (k : Int) v (by omega) (by simp) (by omega) (by simp; omega) (by simp)).mono ?_
  rintro e w3 ⟨rfl, hm⟩
  have hm3 : Has w1 w3 b ⟨(List.replicate 16 0).set k v, [[((k : Int), true)], []]⟩ := hm
  clear hm hm2
  rcases hcase with ⟨h1, rfl⟩ | ⟨h1, rfl⟩
  · have t1 : (old == v) = true := by simp [h1]
    clear h1
    go_wp2_with fail
    refine (u_load hm3 1 (k : Int) (by omega) (by simp) (by omega) (by simp; omega) (by simp)).mono ?_
    rintro e w4 ⟨rfl, hm⟩
    rw [show wordAt ((List.replicate 16 (0 : Int)).set k v) (k : Int).toNat = v from word_set 16 k v hk]
    have hm4 : Has w1 w4 b ⟨(List.replicate 16 0).set k v, [[((k : Int), true)], [((k : Int), false)]]⟩ := hm
    clear hm hm3
    go_wp2_with fail
    refine (u_cas_not hm4 1 (k : Int) (wrap64 (v + 1)) 77 (by omega) (by simp) (by omega) (by simp; omega) (by simp) (by rw [show wordAt ((List.replicate 16 (0 : Int)).set k v) (k : Int).toNat = v from word_set 16 k v hk]; exact HO.out)).mono ?_
    rintro e w5 ⟨rfl, hm⟩
    have hm5 : Has w1 w5 b ⟨(List.replicate 16 0).set k v, [[((k : Int), true)], [((k : Int), false), ((k : Int), false)]]⟩ := hm
    clear hm hm4
    go_wp2_with fail
    refine (u_load hm5 1 (k : Int) (by omega) (by simp) (by omega) (by simp; omega) (by simp)).mono ?_
    rintro e w6 ⟨rfl, hm⟩
    rw [show wordAt ((List.replicate 16 (0 : Int)).set k v) (k : Int).toNat = v from word_set 16 k v hk]
    have hm6 : Has w1 w6 b ⟨(List.replicate 16 0).set k v, [[((k : Int), true)], [((k : Int), false), ((k : Int), false), ((k : Int), false)]]⟩ := hm
    clear hm hm5
    have HM : Hid (_) := hm6
    clear hm6
    have hbr : ∀ W : World, Row (W.alloc (.cells #[.int .i64 (k : Int), .bool false, .int .i64 (k : Int), .bool false, .int .i64 (k : Int), .bool false] 54)) (.slice (some ⟨W.heap.size, 0, none⟩) 3 3) [((k : Int), false), ((k : Int), false), ((k : Int), false)] :=
      fun W => row_built (cs := #[.int .i64 (k : Int), .bool false, .int .i64 (k : Int), .bool false, .int .i64 (k : Int), .bool false]) rfl (by simp) (by simp) (heap_alloc_new W _) 3 3 rfl rfl
    go_wp2_with (first
      | (go_at_call 10; refine (num _ _).mono ?_; rintro e w' ⟨rfl, rfl⟩)
      | (go_at_call 23; refine (u_trace HM.out 1 (by omega) (by simp) (by simp)).mono ?_; rintro e w8 ⟨u, rfl, hu, hub, hk8⟩)
      | (go_at_call 22; refine (same_any (t := [((k : Int), false), ((k : Int), false), ((k : Int), false)]) (by simp) (Row.still hu ((Kept.refl _ _).alloc _)) (hbr _)).mono ?_; rintro e w9 ⟨rfl, hk9⟩))
    go_ret
    exact ⟨rfl, (HK.out.trans HM.out.1 (by simp)).trans (hk8.trans (((Kept.refl [] w8).alloc _).trans hk9 (by simp)) (by simp)) (by simp)⟩
  · have t1 : (o == v) = false := by simp [h1]
    clear h1
    go_wp2_with fail
    refine (u_load hm3 1 (k : Int) (by omega) (by simp) (by omega) (by simp; omega) (by simp)).mono ?_
    rintro e w4 ⟨rfl, hm⟩
    rw [show wordAt ((List.replicate 16 (0 : Int)).set k v) (k : Int).toNat = v from word_set 16 k v hk]
    have hm4 : Has w1 w4 b ⟨(List.replicate 16 0).set k v, [[((k : Int), true)], [((k : Int), false)]]⟩ := hm
    clear hm hm3
    go_wp2_with fail
    refine (u_cas_not hm4 1 (k : Int) o 77 (by omega) (by simp) (by omega) (by simp; omega) (by simp) (by rw [show wordAt ((List.replicate 16 (0 : Int)).set k v) (k : Int).toNat = v from word_set 16 k v hk]; exact HO.out)).mono ?_
    rintro e w5 ⟨rfl, hm⟩
    have hm5 : Has w1 w5 b ⟨(List.replicate 16 0).set k v, [[((k : Int), true)], [((k : Int), false), ((k : Int), false)]]⟩ := hm
    clear hm hm4
    go_wp2_with fail
    refine (u_load hm5 1 (k : Int) (by omega) (by simp) (by omega) (by simp; omega) (by simp)).mono ?_
    rintro e w6 ⟨rfl, hm⟩
    rw [show wordAt ((List.replicate 16 (0 : Int)).set k v) (k : Int).toNat = v from word_set 16 k v hk]
    have hm6 : Has w1 w6 b ⟨(List.replicate 16 0).set k v, [[((k : Int), true)], [((k : Int), false), ((k : Int), false), ((k : Int), false)]]⟩ := hm
    clear hm hm5
    have HM : Hid (_) := hm6
    clear hm6
    have hbr : ∀ W : World, Row (W.alloc (.cells #[.int .i64 (k : Int), .bool false, .int .i64 (k : Int), .bool false, .int .i64 (k : Int), .bool false] 54)) (.slice (some ⟨W.heap.size, 0, none⟩) 3 3) [((k : Int), false), ((k : Int), false), ((k : Int), false)] :=
      fun W => row_built (cs := #[.int .i64 (k : Int), .bool false, .int .i64 (k : Int), .bool false, .int .i64 (k : Int), .bool false]) rfl (by simp) (by simp) (heap_alloc_new W _) 3 3 rfl rfl
    go_wp2_with (first
      | (go_at_call 10; refine (num _ _).mono ?_; rintro e w' ⟨rfl, rfl⟩)
      | (go_at_call 23; refine (u_trace HM.out 1 (by omega) (by simp) (by simp)).mono ?_; rintro e w8 ⟨u, rfl, hu, hub, hk8⟩)
      | (go_at_call 22; refine (same_any (t := [((k : Int), false), ((k : Int), false), ((k : Int), false)]) (by simp) (Row.still hu ((Kept.refl _ _).alloc _)) (hbr _)).mono ?_; rintro e w9 ⟨rfl, hk9⟩))
    go_ret
    exact ⟨rfl, (HK.out.trans HM.out.1 (by simp)).trans (hk8.trans (((Kept.refl [] w8).alloc _).trans hk9 (by simp)) (by simp)) (by simp)⟩

theorem walk (v old at0 : Int) (w : World) (hv : (Lit.int .i64 v).wf = true) (_ : (Lit.int .i64 old).wf = true) (_ : (Lit.int .i64 at0).wf = true) :
    Calls Try.prog 5 #[.int .i64 v, .int .i64 old, .int .i64 at0] w fun e w' => e = .returned (.bool true) ∧ Below w.heap.size w w' := by
  have hb := bounds_i64 hv
  have h16 : bits .and .i64 at0 15 = (((at0 % 16).toNat : Nat) : Int) := by rw [i64_and15]; omega
  have key : Calls Try.prog 5 #[.int .i64 v, .int .i64 old, .int .i64 at0] w fun e w' => e = .returned (.bool true) ∧ Kept [] w w' := by
    by_cases h : old = v
    · exact main v old at0 (wrap64 (v + 1)) _ w (by omega) h16 (by unfold wrap64; omega) (Or.inl ⟨h, rfl⟩)
    · exact main v old at0 old _ w (by omega) h16 (fun e => h e.symm) (Or.inr ⟨h, rfl⟩)
  exact key.mono fun e w' ⟨he, hk⟩ => ⟨he, hk.below (Nat.le_refl _) (by simp)⟩

set_option maxRecDepth 100000 in
theorem lifted (os : Os) (started : os.Started) (H : Type) (enc : TypeId × Value → H) :
    ReturnsInHanded {} Try.checked os 5 .any (Rows.arenaReadsSpec.pre6 enc Try.prog Try.f5 Rows.arenaReadsRow.domain false) (Rows.arenaReadsSpec.post enc Try.prog Try.f5 false true false false) := by
  refine returnsInHanded_of_change (C := Try.checked) own started (by kernel_rfl) Try.func5
    (ChangeSpec.witness6 (enc := enc) (C := Try.checked) false ⟨#[], #[.int .i64 0, .int .i64 0, .int .i64 0], []⟩ 8 (by kernel_rfl) (by kernel_rfl) (by kernel_rfl) (by kernel_rfl)) ?_
  intro W base args ds gs before hval0 hW hcnd _
  have hval : ∀ (j : Nat) t v, Try.f5.params[j]? = some t → args[j]? = some v → Value.okWide Try.prog W .any base t v := hval0
  have hW' := hW
  obtain ⟨p, q, hA0, hV, rfl, hfz, hnd⟩ := hW
  have hA : DataW.TrodAll enc Try.prog W 0 (fun _ => true) true Try.f5.params.toList args.toList ds p := hA0
  rw [Try.params5] at hA hval
  obtain ⟨v0, vs0, d0, ds0, p0, q0, hargs, rfl, rfl, h0, r0⟩ := trodAll_cons hA
  obtain ⟨v1, vs1, d1, ds1, p1, q1, rfl, rfl, rfl, h1, r1⟩ := trodAll_cons r0
  obtain ⟨v2, vs2, d2, ds2, p2, q2, rfl, rfl, rfl, h2, r2⟩ := trodAll_cons r1
  obtain ⟨rfl, rfl, rfl⟩ := trodAll_nil r2
  obtain rfl : args = #[v0, v1, v2] := by cases args; simp_all
  obtain ⟨rfl, rfl⟩ := trodVars_none hV
  obtain ⟨a0, rfl, rfl, rfl, w0⟩ := open_int Try.underlying3 (hval 0 3 v0 rfl rfl) h0
  obtain ⟨a1, rfl, rfl, rfl, w1⟩ := open_int Try.underlying3 (hval 1 3 v1 rfl rfl) h1
  obtain ⟨a2, rfl, rfl, rfl, w2⟩ := open_int Try.underlying3 (hval 2 3 v2 rfl rfl) h2
  clear hA0 hval0
  refine (walk a0 a1 a2 W w0 w1 w2).mono fun e W' ⟨he, bel⟩ => ?_
  subst he
  simp only [List.append_nil] at hW'
  exact ⟨_, rfl, _, _, _, [], [], [], hW', (trodAll_cons_mk (shut_bool Try.underlying4 _) trodAll_mk0), (trodAll_cons_mk (shut_int Try.underlying3 w0) (trodAll_cons_mk (shut_int Try.underlying3 w1) (trodAll_cons_mk (shut_int Try.underlying3 w2) trodAll_mk0))), rfl, bel.frame _, fun h => by cases h⟩

theorem over : Rows.arenaReadsRow.holds Try.pinned (OpenSpec.ofChange Rows.arenaReadsSpec) :=
  OpenClaim.holds_of_wide 5 Try.f5 rfl rfl rfl rfl rfl rfl rfl ⟨rfl, rfl, rfl, rfl, rfl⟩ rfl rfl rfl rfl rfl (by kernel_rfl) Try.func5 (by kernel_rfl)
    (of_decide_eq_true (by kernel_rfl)) (by unfold Func.isWrapper; first | (rw [if_pos (by decide +kernel)]; kernel_rfl) | (rw [if_neg (by decide +kernel)]; exact ⟨rfl, rfl⟩))
    (fun os started H enc _ => lifted os started H enc)

end Go.Proofs.Ytkaijfpenokmbaa.arenaReads

namespace Go.Proofs.Ytkaijfpenokmbaa
theorem arenaReads_holds : Rows.ArenaReadsSaid := arenaReads.over
#print axioms arenaReads_holds
end Go.Proofs.Ytkaijfpenokmbaa
