/-
  Try of a nil arena; awake.
-/
import Derived.Test.YtokljdljdkbbnaaLock
namespace Go.Proofs.Ytokljdljdkbbnaa
open Go.RowKit
set_option linter.unusedVariables false

theorem core_nil (c : Int) (w : World) : Calls Try.prog 22 #[.pointer none, .int .i64 c] w fun e w' => e = .returned (.int .i64 1) ∧ w' = w := by
  go_enter Try.func22, Try.ntmps22
  go_wp2
  go_ret
  exact ⟨rfl, rfl⟩

theorem touch_nil (c k : Int) (f : Value) (w : World) : Calls Try.prog 29 #[.pointer none, .int .i64 c, .int .i64 k, f] w fun e w' => e = .returned (.int .i64 1) ∧ w' = w := by
  go_enter Try.func29, Try.ntmps29
  go_wp2_with fail
  refine (core_nil c _).mono ?_
  rintro e w' ⟨rfl, rfl⟩
  go_wp2_with fail
  go_ret
  exact ⟨rfl, rfl⟩

set_option maxRecDepth 100000 in
set_option maxHeartbeats 4000000 in
theorem cas_nil (c k o z : Int) (w : World) : Calls Try.prog 23 #[.pointer none, .int .i64 c, .int .i64 k, .int .i64 o, .int .i64 z] w fun e w' => e = .returned (.tuple #[.bool false, .int .i64 1]) ∧ Kept [] w w' := by
  have hK : Kept [] w (((w.alloc (.cells #[.int .i64 o] 3)).alloc (.cells #[.int .i64 z] 3)).alloc (.cells #[.bool false] 4)) := ((((Kept.refl _ _).alloc _).alloc _).alloc _)
  have HX : Hid (_) := hK
  clear hK
  go_enter Try.func23, Try.ntmps23
  go_wp2_with fail
  refine (touch_nil c k _ _).mono ?_
  rintro e w' ⟨rfl, rfl⟩
  go_wp2
  go_ret2
  exact ⟨rfl, HX.out⟩

set_option maxRecDepth 100000 in
set_option maxHeartbeats 4000000 in
theorem try_nil (c k : Int) (w : World) : Calls Try.prog 10 #[.pointer none, .int .i64 c, .int .i64 k] w fun e w' => e = .returned (.tuple #[.bool false, .int .i64 1]) ∧ Kept [] w w' := by
  go_enter Try.func10, Try.ntmps10
  go_wp2_with fail
  refine (held c _).mono ?_
  rintro e w' ⟨rfl, rfl⟩
  go_wp2_with fail
  refine (cas_nil c k 0 (wrap64 (c + 1)) _).mono ?_
  rintro e w' ⟨rfl, hk⟩
  have HX : Hid (_) := hk
  clear hk
  go_wp2_with fail
  refine (refused_nil _).mono ?_
  rintro e w' ⟨rfl, rfl⟩
  go_wp2_with fail
  go_ret2
  exact ⟨rfl, HX.out⟩

set_option maxRecDepth 100000 in
set_option maxHeartbeats 4000000 in
theorem awake_any (w : World) : Calls Try.prog 20 #[] w fun e w' => e = .returned (.bool true) ∧ Kept [] w w' := by
  go_enter Try.func20, Try.ntmps20
  go_wp2_with fail
  refine (h_new w 4 2 (by omega) (by omega) (by omega) (by omega)).mono ?_
  rintro e w1 ⟨b, rfl, hm⟩
  have hm1 : Hs [] w w1 b ⟨[0, 0, 0, 0], [[], []]⟩ := hm
  clear hm
  go_wp2_with fail
  refine (try_yes hm1 1 0 (by omega) (by decide) (by omega) (by decide) (by decide) (by decide)).mono ?_
  rintro e w2 ⟨rfl, hm⟩
  have hm2 : Hs [] w w2 b ⟨[2, 0, 0, 0], [[], [(0, true)]]⟩ := hm
  clear hm hm1
  go_wp2_with fail
  refine (try_no hm2 0 0 (by omega) (by decide) (by omega) (by decide) (by decide) (by decide)).mono ?_
  rintro e w3 ⟨rfl, hm⟩
  have hm3 : Hs [] w w3 b ⟨[2, 0, 0, 0], [[(0, false)], [(0, true)]]⟩ := hm
  clear hm hm2
  go_wp2_with fail
  refine (holder_any hm3 0 0 (by omega) (by decide) (by omega) (by decide) (by decide)).mono ?_
  rintro e w4 ⟨rfl, hm⟩
  rw [show holds (⟨[2, 0, 0, 0], [[(0, false)], [(0, true)]]⟩ : Ar).traces.length (wordAt (⟨[2, 0, 0, 0], [[(0, false)], [(0, true)]]⟩ : Ar).words (0 : Int).toNat) = 1 from by decide]
  have hm4 : Hs [] w w4 b ⟨[2, 0, 0, 0], [[(0, false), (0, false)], [(0, true)]]⟩ := hm
  clear hm hm3
  go_wp2_with fail
  refine (unlock_no hm4 0 0 (by omega) (by decide) (by omega) (by decide) (by decide) (by decide)).mono ?_
  rintro e w5 ⟨rfl, hm⟩
  have hm5 : Hs [] w w5 b ⟨[2, 0, 0, 0], [[(0, false), (0, false), (0, false)], [(0, true)]]⟩ := hm
  clear hm hm4
  go_wp2_with fail
  refine (unlock_yes hm5 1 0 (by omega) (by decide) (by omega) (by decide) (by decide) (by decide)).mono ?_
  rintro e w6 ⟨rfl, hm⟩
  have HM : Hid (Kept [] w w6) := hm.1
  clear hm hm5
  go_wp2_with fail
  refine (try_nil 0 0 _).mono ?_
  rintro e w7 ⟨rfl, hk⟩
  have HK : Hid (_) := HM.out.trans hk (by simp)
  clear hk HM
  go_wp2_with (first
    | (go_at_call 8; refine (num _ _).mono ?_; rintro e w' ⟨rfl, rfl⟩))
  go_ret
  exact ⟨rfl, HK.out⟩

end Go.Proofs.Ytokljdljdkbbnaa
