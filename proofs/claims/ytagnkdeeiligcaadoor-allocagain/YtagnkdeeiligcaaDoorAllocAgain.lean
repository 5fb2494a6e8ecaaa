/-
  Proved: for every sizes and core, the law AllocAgain returns true; its card, tied to the program's text.
-/
import Derived.Test.YtagnkdeeiligcaaDoorRows
import Derived.Test.YtagnkdeeiligcaaDoorCards
import Derived.Test.YtagnkdeeiligcaaDoorTie
import Derived.Test.YtagnkdeeiligcaaDoorLow
import Derived.WalkKit
import Derived.ProofKit
import Derived.OpenShut
import Derived.ShutString
import Derived.ChangeOld
import Derived.Below
import Derived.Deep.Slices
import Derived.LaidMore
import Derived.Stop.Joined
import Derived.SevenTiedAt
namespace Go.Proofs.YtagnkdeeiligcaaDoor.allocAgain
open Go.ChangeShapes Go.WideShapes Go.ChangeAt Go.RowKit
open Go.ChangeMaps (open_string shut_string)
set_option linter.unusedVariables false

def IsRow (k : IntKind) (w : World) (a : Option Addr) (len cap : Nat) (zs : List Int) : Prop :=
  (a = none ∧ len = 0 ∧ cap = 0 ∧ zs = []) ∨
  ∃ x, a = some x ∧ len ≤ cap ∧ cap ≤ maxLen ∧ zs.length = cap ∧ (∀ i, i < zs.length → w.cell? (x.add i) = some (.int k (zs.getD i 0))) ∧ ∀ n ∈ zs, (Lit.int k n).wf = true

theorem left_le (R : Nat) (h : R ≤ 64) : leftOf R ≤ 64 := by unfold leftOf; omega

/-- One turn: what is got is freed. -/
theorem turn_end {w1 w4 : World} {b x c z pos : Nat} {A : Ar} {q : Nat} (h : St w1 w4 b x 2 0 256 A (fun d => if d = c then ([] : List Pc) ++ [(pos, z)] else []) q) : St w1 w4 b x 2 0 256 A (fun d => if d = c then [] ++ (pos, z) :: [] else []) q := h

set_option maxRecDepth 100000 in
set_option maxHeartbeats 4000000 in
theorem walk_none (a : Option Addr) (cap0 : Nat) (a1 : Int) (w : World) (hT : Tab w) :
    Calls Tryd.prog 5 #[.slice a 0 cap0, .int .i64 a1] w fun e w' => e = .returned (.bool true) ∧ Kept [] w w' := by
  obtain ⟨c, hc, hc2⟩ := low_nat 2 a1 _ (by omega) (i64_and1 a1)
  have HT : Hid (_) := hT
  clear hT
  go_enter Tryd.func5, Tryd.ntmps5
  go_wp2_with fail
  refine (awake_any HT.out).mono ?_
  rintro e w1 ⟨rfl, hK1⟩
  have HK1 : Hid (_ ∧ _) := ⟨hK1, Tab.kept HT.out hK1 (by simp)⟩
  clear hK1
  go_wp2_with fail
  refine (u_new w1 512 2 (by omega) (by omega) (by omega) (by omega)).mono ?_
  rintro e w2 ⟨b, rfl, hm2⟩
  have HM : Hid (Has w1 w2 b (fresh 512 2)) := hm2
  clear hm2
  go_wp2_with fail
  refine (new_alloc (N := 512) (k := 2) (f := 0) (W := 512) HM.out (by omega) (by omega) (by omega) (by omega) (by omega) (by omega)).mono ?_
  rintro e w3 ⟨x, A3, rfl, h3⟩
  have H3 : Hid (∃ A, St w1 w3 b x 2 0 256 A (fun _ => []) (900000 - 300 * 0)) := ⟨A3, h3⟩
  clear h3 HM
  go_wp2_with fail
  clear hc
  go_loopw [10] (fun i wr => ∃ j : Nat, i = .int .i64 (j : Int) ∧ j ≤ 200 ∧ Hid (∃ A, St w1 wr b x 2 0 256 A (fun _ => []) (900000 - 300 * j))) (fun i _ => (200 - intOf i).toNat)
  case atStart => exact ⟨0, rfl, by omega, H3⟩
  case round =>
    obtain ⟨j, rfl, hj, HS⟩ := hrel
    clear H3
    by_cases hlt : j < 200
    · have i0 : (j : Int) < 200 := by omega
      obtain ⟨A, hs⟩ := HS.out
      have HR : Hid (_) := hs
      clear hs HS
      obtain ⟨z, hz⟩ : ∃ z, 1 + j % 20 = z := ⟨_, rfl⟩
      have hz1 : 1 ≤ z := by omega
      have hz2 : z ≤ 32 := by omega
      have hz3 : (1 : Int) + (j : Int) % 20 = (z : Int) := by omega
      go_wp2_with fail
      refine (st_get HR.out (c := c) hc2 (900000 - 300 * j - 100) (by omega) z hz1 hz2 (by simp [loads]; omega)).mono ?_
      rintro e w4 ⟨pos, A4, rfl, h4, -, -⟩
      have H4 : Hid (_) := turn_end h4
      clear h4
      obtain ⟨y4, hy4⟩ : ∃ y4 : Int, ((heap (0 + c * 256) 256 + pos : Nat) : Int) = y4 := ⟨_, rfl⟩
      rw [hy4]
      have HY4 : Hid (_) := hy4
      clear hy4
      go_wp2_with fail
      refine (st_left H4.out (c := c) hc2 (900000 - 300 * j - 200) (by omega)).mono ?_
      rintro e w5 ⟨rfl, A5, h5⟩
      have H5 : Hid (_) := h5
      clear h5
      have hlf : leftOf (256 / 4 - loads (if c = c then [] ++ (pos, z) :: [] else [])) ≤ 64 := left_le _ (by omega)
      generalize leftOf (256 / 4 - loads (if c = c then [] ++ (pos, z) :: [] else [])) = lf at *
      have l0 : ¬ (lf : Int) < 0 := by omega
      have l1 : ¬ 256 < (lf : Int) := by omega
      go_wp2_with (first
        | (go_at_call 9; refine (num _ _).mono ?_; rintro e w' ⟨rfl, hw'⟩; subst hw'))
      rw [← HY4.out]
      refine (st_free H5.out HK1.out.2 (c := c) hc2 (900000 - 300 * (j + 1)) (by omega) (l1 := []) (l2 := []) (pc := (pos, z)) (by simp)).mono ?_
      rintro e w6 ⟨rfl, A6, h6⟩
      have HN : Hid (∃ A, St w1 w6 b x 2 0 256 A (fun _ => []) (900000 - 300 * (j + 1))) := ⟨A6, h6.pieces fun d _ => by
        by_cases e : d = c
        · simp [e]
        · simp [e]⟩
      clear h6
      go_wp2_with (first
        | (go_at_call 9; refine (num _ _).mono ?_; rintro e w' ⟨rfl, hw'⟩; subst hw'))
      go_roundw
      case rel => exact ⟨j + 1, by go_num, by omega, HN.out⟩
      case measure => simp [intOf]; omega
    · have i0 : ¬ (j : Int) < 200 := by omega
      obtain ⟨A, hs⟩ := HS.out
      have HR : Hid (_) := hs
      clear hs HS
      go_wp2_with (first
        | (go_at_call 9; refine (num _ _).mono ?_; rintro e w' ⟨rfl, hw'⟩; subst hw'))
      go_ret
      exact ⟨rfl, HK1.out.1.trans HR.out.kept (by simp)⟩

set_option maxRecDepth 100000 in
set_option maxHeartbeats 4000000 in
theorem walk_some (bb off len0 cap0 : Nat) (z0 : List Int) (a1 : Int) (w : World) (hT : Tab w) (h0 : 0 < len0) (hl : len0 ≤ 9223372036854775807) (hce : ∀ i, i < len0 → w.cell? ⟨bb, off + i, none⟩ = some (.int .i64 (wordAt z0 i))) :
    Calls Tryd.prog 5 #[.slice (some ⟨bb, off, none⟩) len0 cap0, .int .i64 a1] w fun e w' => e = .returned (.bool true) ∧ Kept [] w w' := by
  obtain ⟨c, hc, hc2⟩ := low_nat 2 a1 _ (by omega) (i64_and1 a1)
  have HT : Hid (_) := hT
  have HCE : Hid (_) := hce
  have hl0 : (0 : Int) < (len0 : Int) := by omega
  clear hT hce
  go_enter Tryd.func5, Tryd.ntmps5
  go_wp2_with fail
  refine (awake_any HT.out).mono ?_
  rintro e w1 ⟨rfl, hK1⟩
  have HK1 : Hid (_ ∧ _) := ⟨hK1, Tab.kept HT.out hK1 (by simp)⟩
  clear hK1
  go_wp2_with fail
  refine (u_new w1 512 2 (by omega) (by omega) (by omega) (by omega)).mono ?_
  rintro e w2 ⟨b, rfl, hm2⟩
  have HM : Hid (Has w1 w2 b (fresh 512 2)) := hm2
  clear hm2
  go_wp2_with fail
  refine (new_alloc (N := 512) (k := 2) (f := 0) (W := 512) HM.out (by omega) (by omega) (by omega) (by omega) (by omega) (by omega)).mono ?_
  rintro e w3 ⟨x, A3, rfl, h3⟩
  have H3 : Hid (∃ A, St w1 w3 b x 2 0 256 A (fun _ => []) (900000 - 300 * 0)) := ⟨A3, h3⟩
  clear h3 HM
  go_wp2_with fail
  clear hc
  go_loopw [10] (fun i wr => ∃ j : Nat, i = .int .i64 (j : Int) ∧ j ≤ 200 ∧ Hid (∃ A, St w1 wr b x 2 0 256 A (fun _ => []) (900000 - 300 * j))) (fun i _ => (200 - intOf i).toNat)
  case atStart => exact ⟨0, rfl, by omega, H3⟩
  case round =>
    obtain ⟨j, rfl, hj, HS⟩ := hrel
    clear H3
    by_cases hlt : j < 200
    · have i0 : (j : Int) < 200 := by omega
      obtain ⟨A, hs⟩ := HS.out
      have HR : Hid (_) := hs
      have hr0 : (0 : Int) ≤ ((j % len0 : Nat) : Int) := by omega
      have hr1 : ((j % len0 : Nat) : Int) < (len0 : Int) := by have := Nat.mod_lt j h0; omega
      have hrt : (j : Int) % (len0 : Int) = ((j % len0 : Nat) : Int) := by simp
      have hcell := (HK1.out.1.trans HR.out.kept (by simp)).cell (HCE.out (j % len0) (Nat.mod_lt j h0)) (by simp)
      obtain ⟨m, hm, hm2⟩ := low_nat 32 (wordAt z0 (j % len0)) _ (by omega) (i64_and31 _)
      clear hs HS
      obtain ⟨z, hz⟩ : ∃ z, 1 + m = z := ⟨_, rfl⟩
      have hz1 : 1 ≤ z := by omega
      have hz2 : z ≤ 32 := by omega
      have hz3 : (1 : Int) + (m : Int) = (z : Int) := by omega
      generalize wordAt z0 (j % len0) = wv at *
      obtain ⟨ix, hix⟩ : ∃ ix, j % len0 = ix := ⟨_, rfl⟩
      rw [hix] at hr0 hr1 hrt hcell
      clear hix
      go_wp2_with fail
      refine (st_get HR.out (c := c) hc2 (900000 - 300 * j - 100) (by omega) z hz1 hz2 (by simp [loads]; omega)).mono ?_
      rintro e w4 ⟨pos, A4, rfl, h4, -, -⟩
      have H4 : Hid (_) := turn_end h4
      clear h4
      obtain ⟨y4, hy4⟩ : ∃ y4 : Int, ((heap (0 + c * 256) 256 + pos : Nat) : Int) = y4 := ⟨_, rfl⟩
      rw [hy4]
      have HY4 : Hid (_) := hy4
      clear hy4
      go_wp2_with fail
      refine (st_left H4.out (c := c) hc2 (900000 - 300 * j - 200) (by omega)).mono ?_
      rintro e w5 ⟨rfl, A5, h5⟩
      have H5 : Hid (_) := h5
      clear h5
      have hlf : leftOf (256 / 4 - loads (if c = c then [] ++ (pos, z) :: [] else [])) ≤ 64 := left_le _ (by omega)
      generalize leftOf (256 / 4 - loads (if c = c then [] ++ (pos, z) :: [] else [])) = lf at *
      have l0 : ¬ (lf : Int) < 0 := by omega
      have l1 : ¬ 256 < (lf : Int) := by omega
      go_wp2_with (first
        | (go_at_call 9; refine (num _ _).mono ?_; rintro e w' ⟨rfl, hw'⟩; subst hw'))
      rw [← HY4.out]
      refine (st_free H5.out HK1.out.2 (c := c) hc2 (900000 - 300 * (j + 1)) (by omega) (l1 := []) (l2 := []) (pc := (pos, z)) (by simp)).mono ?_
      rintro e w6 ⟨rfl, A6, h6⟩
      have HN : Hid (∃ A, St w1 w6 b x 2 0 256 A (fun _ => []) (900000 - 300 * (j + 1))) := ⟨A6, h6.pieces fun d _ => by
        by_cases e : d = c
        · simp [e]
        · simp [e]⟩
      clear h6
      go_wp2_with (first
        | (go_at_call 9; refine (num _ _).mono ?_; rintro e w' ⟨rfl, hw'⟩; subst hw'))
      go_roundw
      case rel => exact ⟨j + 1, by go_num, by omega, HN.out⟩
      case measure => simp [intOf]; omega
    · have i0 : ¬ (j : Int) < 200 := by omega
      obtain ⟨A, hs⟩ := HS.out
      have HR : Hid (_) := hs
      clear hs HS
      go_wp2_with (first
        | (go_at_call 9; refine (num _ _).mono ?_; rintro e w' ⟨rfl, hw'⟩; subst hw'))
      go_ret
      exact ⟨rfl, HK1.out.1.trans HR.out.kept (by simp)⟩

theorem walk (a0 : Option Addr) (len0 cap0 : Nat) (z0 : List Int) (a1 : Int) (w : World) (hT : Tab w) (w0 : IsRow .i64 w a0 len0 cap0 z0) (_ : (Lit.int .i64 a1).wf = true) :
    Calls Tryd.prog 5 #[.slice a0 len0 cap0, .int .i64 a1] w fun e w' => e = .returned (.bool true) ∧ Below w.heap.size w w' := by
  by_cases h0 : len0 = 0
  · subst h0
    exact (walk_none a0 cap0 a1 w hT).mono fun e w' ⟨he, hk⟩ => ⟨he, hk.below (Nat.le_refl _) (by simp)⟩
  · rcases w0 with ⟨_, h1, _, _⟩ | ⟨x, rfl, hl, hm, hz, hcell, _⟩
    · exact absurd h1 h0
    · obtain ⟨bb, off, rfl, hc⟩ := ints_at hcell (by omega)
      refine (walk_some bb off len0 cap0 z0 a1 w hT (by omega) (by unfold maxLen at hm; omega) (fun i hi => ?_)).mono fun e w' ⟨he, hk⟩ => ⟨he, hk.below (Nat.le_refl _) (by simp)⟩
      exact hc i (by omega)

set_option maxRecDepth 100000 in
theorem lifted (os : Os) (started : os.Started) (H : Type) (enc : TypeId × Value → H) :
    ReturnsInHanded {} Tryd.checked os 5 .any (fun w args => (Rows.allocAgainSpec.pre enc Tryd.prog Tryd.f5 [] false w args ∧ laidMetH Tryd.prog laid1 w) ∧ sizedMet enc Tryd.prog Tryd.f5 (OpenSpec.ofChange Rows.allocAgainSpec) false w args)
      (Rows.allocAgainSpec.post enc Tryd.prog Tryd.f5 false true false false) := by
  refine returnsInHanded_of_change_and (C := Tryd.checked) (X := fun w _ => laidMetH Tryd.prog laid1 w) (fun _ _ _ hh h => h.of_heap hh) own started (by kernel_rfl) Tryd.func5
    (ChangeSpec.witness_shaped (enc := enc) (C := Tryd.checked) (os := os) (X := fun w _ => laidMetH Tryd.prog laid1 w) false (World.doorLaid Tryd.prog 400 os) #[.slice none 0 0, .int .i64 0] 8 rfl (World.shaped_of_RefB (by kernel_rfl) (by kernel_rfl)) (by kernel_rfl) (by kernel_rfl) (by kernel_rfl) (door_met os _)) ?_
  intro W base args ds gs before hval0 hW _ _ hL _
  have hval : ∀ (j : Nat) t v, Tryd.f5.params[j]? = some t → args[j]? = some v → Value.okWide Tryd.prog W .any base t v := hval0
  have hW' := hW
  obtain ⟨p, q, hA0, hV, rfl, hfz, hnd⟩ := hW
  have hA : DataW.TrodAll enc Tryd.prog W 0 (fun _ => true) true Tryd.f5.params.toList args.toList ds p := hA0
  rw [Tryd.params5] at hA hval
  obtain ⟨v0, vs0, d0, ds0, p0, q0, hargs, rfl, rfl, h0, r0⟩ := trodAll_cons hA
  obtain ⟨v1, vs1, d1, ds1, p1, q1, rfl, rfl, rfl, h1, r1⟩ := trodAll_cons r0
  obtain ⟨rfl, rfl, rfl⟩ := trodAll_nil r1
  obtain rfl : args = #[v0, v1] := by cases args; simp_all
  obtain ⟨rfl, rfl⟩ := trodVars_none hV
  obtain ⟨a0, len0, cap0, rfl⟩ := okWide_slice Tryd.underlying44 (hval 0 44 v0 rfl rfl)
  have k0 := h0
  have lt0 : ∀ x ∈ p0, x.block < W.heap.size := by obtain ⟨m, hm⟩ := k0; exact DataW.trod_lt m _ _ _ hm
  obtain ⟨z0, w0⟩ : ∃ zs, IsRow .i64 W a0 len0 cap0 zs := by
    obtain ⟨fuel, hf⟩ := h0
    rcases open_ints Tryd.underlying44 Tryd.underlying3 (by kernel_rfl) hf with ⟨hcs, _⟩ | ⟨x, l, c, zs, hcs, _, hl, hm, hz, _, hcell, hwz⟩
    · simp [Value.cells] at hcs
      obtain ⟨rfl, rfl, rfl⟩ := hcs
      exact ⟨[], .inl ⟨rfl, rfl, rfl, rfl⟩⟩
    · simp [Value.cells] at hcs
      obtain ⟨rfl, rfl, rfl⟩ := hcs
      exact ⟨zs, .inr ⟨_, rfl, hl, hm, by simpa using hz, hcell, hwz⟩⟩
  obtain ⟨a1, rfl, rfl, rfl, w1⟩ := open_int Tryd.underlying3 (hval 1 3 v1 rfl rfl) h1
  clear hA0 hval0
  refine (walk a0 len0 cap0 z0 a1 W (of_laid hL) w0 w1).mono fun e W' ⟨he, bel⟩ => ?_
  subst he
  exact ⟨_, rfl, _, _, _, [], _, [], hW', trodAll_mk1 (shut_bool Tryd.underlying4 _), (trodAll_cons_mk (Below.trod laidOut (by kernel_rfl) (of_decide_eq_true (by kernel_rfl)) k0 bel lt0) (trodAll_cons_mk (shut_int Tryd.underlying3 w1) trodAll_mk0)), rfl, bel.frame _, fun h => by cases h⟩

theorem over : Rows.allocAgainRow.holds Tryd.pinned (OpenSpec.ofChange Rows.allocAgainSpec) :=
  OpenClaim.holds_of_wide 5 Tryd.f5 rfl rfl rfl rfl rfl rfl rfl ⟨rfl, rfl, rfl, rfl, rfl⟩ rfl rfl rfl rfl rfl (by kernel_rfl) Tryd.func5 (by kernel_rfl)
    (of_decide_eq_true (by kernel_rfl)) (by unfold Func.isWrapper; first | (rw [if_pos (by decide +kernel)]; kernel_rfl) | (rw [if_neg (by decide +kernel)]; exact ⟨rfl, rfl⟩))
    (fun os started H enc _ => lifted os started H enc)

theorem card : Rows.AllocAgainCardSaid :=
  Claim7.holds_tied_plain_at .later [] [.data] true (true, "dc9a8a4a362bad82089852e931c949fb14dc5bffdd24db5c8f597f69135225ba") true
    over (fun _ h => by cases h) (by kernel_rfl) (fun _ h => by cases h) allocAgain_row_tie rfl ⟨rfl, rfl⟩ (by kernel_rfl) rfl
    (fun f fn hf hfn => by
      obtain rfl : f = 5 := Option.some.inj ((show Tryd.prog.funcNamed "concourse/concourselaw4.AllocAgain" = some 5 by kernel_rfl).symm.trans hf) |>.symm
      obtain rfl : fn = Tryd.f5 := (Option.some.inj (Tryd.func5.symm.trans hfn)).symm
      exact ⟨by kernel_rfl, fun j t ht => by
        rw [Tryd.params5] at ht
        have hm : t ∈ [44, 3] := by simpa using Array.mem_of_getElem? ht
        have hall : ([44, 3].all fun u => !Tryd.prog.wantsStandIn u) = true := by kernel_rfl
        exact (show Tryd.prog.wantsStandIn t = false by simpa using List.all_eq_true.1 hall t hm)⟩)
    (by kernel_rfl)

end Go.Proofs.YtagnkdeeiligcaaDoor.allocAgain

namespace Go.Proofs.YtagnkdeeiligcaaDoor
theorem allocAgain_holds : Rows.AllocAgainCardSaid := allocAgain.card
#print axioms allocAgain_holds
end Go.Proofs.YtagnkdeeiligcaaDoor
