/-
  Package oplog: Add.
-/
import Derived.Test.YtlecpeofjabndaaLa
namespace Go.Proofs.Ytlecpeofjabndaa
open Go.RowKit
set_option linter.unusedVariables false
set_option linter.unusedSimpArgs false

/-- A box and two beside it. -/
theorem three (w : World) (A B D : Array Value) (t u v : TypeId) : ∃ U X, Hid (((w.alloc (.cells A t (0, 0))).alloc (.cells B u (0, 0))).alloc (.cells D v (0, 0)) = U ∧ w.heap.size = X) ∧ Hid (Kept [] w U ∧ w.heap.size ≤ X) ∧ Hid (U.heap[X]? = some (.cells A t (0, 0)) ∧ U.heap[X + 1]? = some (.cells B u (0, 0)) ∧ U.heap[X + 1 + 1]? = some (.cells D v (0, 0))) := by
  obtain ⟨U, X, HU, HK, HB⟩ := two w A B t u
  have k3 := (Kept.refl [] U).alloc (.cells D v (0, 0))
  have hs : U.heap.size = w.heap.size + 1 + 1 := by rw [← HU.out.1]; simp
  have hx := HU.out.2
  refine ⟨_, X, ⟨by rw [HU.out.1], hx⟩, ⟨HK.out.1.trans k3 (by simp), HK.out.2.1⟩, ?_, ?_, ?_⟩
  · exact (k3.block _ (lt_of_heap HB.out.1) (by simp)).trans HB.out.1
  · exact (k3.block _ (lt_of_heap HB.out.2) (by simp)).trans HB.out.2
  · rw [show X + 1 + 1 = U.heap.size by omega]; exact Go.heap_alloc_new _ _

theorem heap_drew (w : World) : w.drew.heap = w.heap := rfl

theorem s2_kept {w w' : World} {b c i j : Nat} {u v : Value} (h : w.cell? ⟨b, i, none⟩ = some u ∧ w.cell? ⟨c, j, none⟩ = some v) (k : Kept [] w w') : w'.cell? ⟨b, i, none⟩ = some u ∧ w'.cell? ⟨c, j, none⟩ = some v :=
  ⟨k.cell h.1 (by simp), k.cell h.2 (by simp)⟩

theorem cell_far {w : World} {b i c j : Nat} {v u : Value} (h : w.cell? ⟨c, j, none⟩ = some u) (hb : b ≠ c) : (w.setCell ⟨b, i, none⟩ v).cell? ⟨c, j, none⟩ = some u := by
  rw [World.cell?_setCell_far _ _ _ _ hb]; exact h

theorem cell_by {w : World} {b i j : Nat} {v u : Value} (h : w.cell? ⟨b, j, none⟩ = some u) (hij : i ≠ j) : (w.setCell ⟨b, i, none⟩ v).cell? ⟨b, j, none⟩ = some u := by
  have hne : (⟨b, i, none⟩ : Addr) ≠ ⟨b, j, none⟩ := by intro e; injection e with _ e2; exact hij e2
  rw [World.cell?_setCell_other _ _ _ _ hne]; exact h

/-- The record that an Add makes. -/
abbrev addR (c : Co) (kind : Int) (i : Nat) (fd off num : Int) (p1 p2 dat : ByteArray) (sa sk : Int) : Rec := ⟨nextS c.a c.k sa sk, c.k, kind, i, fd, off, num, p1, p2, dat⟩

set_option maxRecDepth 100000 in
set_option maxHeartbeats 8000000 in
theorem p_add_form {H : Nat} {w : World} {p g : Nat} {C : List Co} (h : Lo H w p g C) (kind core fd off num : Int) (p1 p2 dat : ByteArray) (sa sk : Int) (hb : (kindB kind && hasB C.length core && mayS sa sk) = false) :
    Calls Try.prog 11 #[.pointer (some ⟨p, 0, none⟩), .agg #[.int .i64 kind, .int .i64 core, .int .i64 fd, .int .i64 off, .int .i64 num, .string p1, .string p2, .string dat], .agg #[.int .i64 sa, .int .i64 sk]] w fun e w' => e = .returned (.tuple #[.agg #[.int .i64 0, .int .i64 0], .int .i64 1700]) ∧ Kept [] w w' := by
  obtain ⟨U, X, HU, HK, HB⟩ := three w #[.int .i64 kind, .int .i64 core, .int .i64 fd, .int .i64 off, .int .i64 num, .string p1, .string p2, .string dat] #[.int .i64 sa, .int .i64 sk] #[.int .i64 0, .int .i64 0] 33 35 35
  have HL : Hid (Lo H U p g C) := h.kept0 HK.out.1
  have x0 : U.cell? ⟨X, 0, none⟩ = some (.int .i64 kind) := cellB HB.out.1
  have x1 : U.cell? ⟨X, 1, none⟩ = some (.int .i64 core) := cellB HB.out.1
  have s0 : U.cell? ⟨X + 1, 0, none⟩ = some (.int .i64 sa) := cellB HB.out.2.1
  have s1 : U.cell? ⟨X + 1, 1, none⟩ = some (.int .i64 sk) := cellB HB.out.2.1
  have P1 := p_kind kind U
  have P2 := p_has HL.out core
  have P3 := p_may sa sk U
  clear h
  rcases h1 : kindB kind with _ | _
  · rw [h1] at P1
    have HB2 : Hid (_) := HB.out.2.2
    clear h1
    go_enter Try.func11, Try.ntmps11
    go_upto_region 1 with fail
    have HXw : Hid (w.heap.size = X) := HU.out.2
    rw [HU.out.1, HU.out.2]
    clear HU
    go_wp2_with fail
    refine P1.mono ?_
    rintro e wx ⟨rfl, hw⟩
    have hw2 := hw.symm
    subst hw2
    clear hw
    have g0 : U.cell? ⟨X + 1 + 1, 0, none⟩ = some (.int .i64 0) := cellB HB2.out
    have g1 : U.cell? ⟨X + 1 + 1, 1, none⟩ = some (.int .i64 0) := cellB HB2.out
    have z0 := frozen_of HB2.out 0
    have z1 := frozen_of HB2.out 1
    go_wp2_with fail
    (try simp only [Exit.inBlock, Exit.then])
    refine bodyPost_ret (results_ct rfl _ _ (X + 1 + 1) 35 #[.int .i64 0, .int .i64 0] (0, 0) _ (.int .i64 1700) rfl rfl (block_set (block_set HB2.out 0 _) 1 _) Try.underlying35 rfl (by kernel_rfl)) rfl ?_
    exact ⟨rfl, (HK.out.1.setCell (Or.inr (by have := HK.out.2; show _ ≤ X + 1 + 1; omega)) _).setCell (Or.inr (by have := HK.out.2; show _ ≤ X + 1 + 1; omega)) _⟩
  · rcases h2 : hasB C.length core with _ | _
    · rw [h1] at P1
      rw [h2] at P2
      have HB2 : Hid (_) := HB.out.2.2
      clear h1 h2
      go_enter Try.func11, Try.ntmps11
      go_upto_region 1 with fail
      have HXw : Hid (w.heap.size = X) := HU.out.2
      rw [HU.out.1, HU.out.2]
      clear HU
      go_wp2_with fail
      refine P1.mono ?_
      rintro e wx ⟨rfl, hw⟩
      have hw2 := hw.symm
      subst hw2
      clear hw
      go_wp2_with fail
      refine P2.mono ?_
      rintro e wx ⟨rfl, hw⟩
      have hw2 := hw.symm
      subst hw2
      clear hw
      have g0 : U.cell? ⟨X + 1 + 1, 0, none⟩ = some (.int .i64 0) := cellB HB2.out
      have g1 : U.cell? ⟨X + 1 + 1, 1, none⟩ = some (.int .i64 0) := cellB HB2.out
      have z0 := frozen_of HB2.out 0
      have z1 := frozen_of HB2.out 1
      go_wp2_with fail
      (try simp only [Exit.inBlock, Exit.then])
      refine bodyPost_ret (results_ct rfl _ _ (X + 1 + 1) 35 #[.int .i64 0, .int .i64 0] (0, 0) _ (.int .i64 1700) rfl rfl (block_set (block_set HB2.out 0 _) 1 _) Try.underlying35 rfl (by kernel_rfl)) rfl ?_
      exact ⟨rfl, (HK.out.1.setCell (Or.inr (by have := HK.out.2; show _ ≤ X + 1 + 1; omega)) _).setCell (Or.inr (by have := HK.out.2; show _ ≤ X + 1 + 1; omega)) _⟩
    · have h3 : mayS sa sk = false := by
        rw [h1, h2] at hb
        simpa using hb
      rw [h1] at P1
      rw [h2] at P2
      rw [h3] at P3
      clear h1 h2 h3
      go_enter Try.func11, Try.ntmps11
      go_upto_region 1 with fail
      have HXw : Hid (w.heap.size = X) := HU.out.2
      rw [HU.out.1, HU.out.2]
      clear HU
      go_wp2_with fail
      refine P1.mono ?_
      rintro e wx ⟨rfl, hw⟩
      have hw2 := hw.symm
      subst hw2
      clear hw
      go_wp2_with fail
      refine P2.mono ?_
      rintro e wx ⟨rfl, hw⟩
      have hw2 := hw.symm
      subst hw2
      clear hw
      go_wp2_with fail
      refine P3.mono ?_
      rintro e w3 ⟨rfl, k3⟩
      have HB2 : Hid (_) := (k3.block _ (lt_of_heap HB.out.2.2) (by simp)).trans HB.out.2.2
      have HK3 : Hid (_) := HK.out.1.trans k3 (by simp)
      have g0 : w3.cell? ⟨X + 1 + 1, 0, none⟩ = some (.int .i64 0) := cellB HB2.out
      have g1 : w3.cell? ⟨X + 1 + 1, 1, none⟩ = some (.int .i64 0) := cellB HB2.out
      have z0 := frozen_of HB2.out 0
      have z1 := frozen_of HB2.out 1
      go_wp2_with fail
      (try simp only [Exit.inBlock, Exit.then])
      refine bodyPost_ret (results_ct rfl _ _ (X + 1 + 1) 35 #[.int .i64 0, .int .i64 0] (0, 0) _ (.int .i64 1700) rfl rfl (block_set (block_set HB2.out 0 _) 1 _) Try.underlying35 rfl (by kernel_rfl)) rfl ?_
      exact ⟨rfl, (HK3.out.setCell (Or.inr (by have := HK.out.2; show _ ≤ X + 1 + 1; omega)) _).setCell (Or.inr (by have := HK.out.2; show _ ≤ X + 1 + 1; omega)) _⟩

set_option maxRecDepth 100000 in
set_option maxHeartbeats 8000000 in
theorem p_add_full {H : Nat} {w : World} {p g : Nat} {C : List Co} (h : Lo H w p g C) (kind : Int) {i : Nat} (fd off num : Int) (p1 p2 dat : ByteArray) (sa sk : Int) (hk : kindB kind = true) (hi : i < C.length) (hm : mayS sa sk = true) (hl : (C[i]).R.length = 256) :
    Calls Try.prog 11 #[.pointer (some ⟨p, 0, none⟩), .agg #[.int .i64 kind, .int .i64 (i : Int), .int .i64 fd, .int .i64 off, .int .i64 num, .string p1, .string p2, .string dat], .agg #[.int .i64 sa, .int .i64 sk]] w fun e w' => e = .returned (.tuple #[.agg #[.int .i64 0, .int .i64 0], .int .i64 1701]) ∧ Kept [] w w' := by
  obtain ⟨U, X, HU, HK, HB⟩ := three w #[.int .i64 kind, .int .i64 (i : Int), .int .i64 fd, .int .i64 off, .int .i64 num, .string p1, .string p2, .string dat] #[.int .i64 sa, .int .i64 sk] #[.int .i64 0, .int .i64 0] 33 35 35
  have HL : Hid (Lo H U p g C) := h.kept0 HK.out.1
  have x0 : U.cell? ⟨X, 0, none⟩ = some (.int .i64 kind) := cellB HB.out.1
  have x1 : U.cell? ⟨X, 1, none⟩ = some (.int .i64 (i : Int)) := cellB HB.out.1
  have s0 : U.cell? ⟨X + 1, 0, none⟩ = some (.int .i64 sa) := cellB HB.out.2.1
  have s1 : U.cell? ⟨X + 1, 1, none⟩ = some (.int .i64 sk) := cellB HB.out.2.1
  have P1 := p_kind kind U
  have P2 := p_has HL.out (i : Int)
  have P3 := p_may sa sk U
  have h2 : hasB C.length (i : Int) = true := by simp [hasB]; omega
  rw [hk] at P1
  rw [h2] at P2
  rw [hm] at P3
  have hc8 := h.chi
  have z0 : (0 : Int) ≤ (i : Int) := by omega
  have z1 : (i : Int) < (C.length : Int) := by omega
  obtain ⟨av, cv, hv, hcl, hcm, -⟩ := (h.each i hi).slice
  clear h2 hk hm
  go_enter Try.func11, Try.ntmps11
  go_upto_region 1 with fail
  have HXw : Hid (w.heap.size = X) := HU.out.2
  rw [HU.out.1, HU.out.2]
  clear HU
  go_wp2_with fail
  refine P1.mono ?_
  rintro e wx ⟨rfl, hw⟩
  have hw2 := hw.symm
  subst hw2
  clear hw
  go_wp2_with fail
  refine P2.mono ?_
  rintro e wx ⟨rfl, hw⟩
  have hw2 := hw.symm
  subst hw2
  clear hw
  go_wp2_with fail
  refine P3.mono ?_
  rintro e w3 ⟨rfl, k3⟩
  have HK3 : Hid (_) := k3
  have HL3 : Hid (Lo H w3 p g C) := HL.out.kept0 k3
  have HB3 : Hid (_ ∧ _ ∧ _) := ⟨(k3.block _ (lt_of_heap HB.out.1) (by simp)).trans HB.out.1, (k3.block _ (lt_of_heap HB.out.2.1) (by simp)).trans HB.out.2.1, (k3.block _ (lt_of_heap HB.out.2.2) (by simp)).trans HB.out.2.2⟩
  clear k3 x0 x1 s0 s1 P1 P2 P3
  have b0 := HL3.out.box
  have x1 : w3.cell? ⟨X, 1, none⟩ = some (.int .i64 (i : Int)) := cellB HB3.out.1
  go_upto_region 5 with fail
  go_quiet (fail)
  go_upto_region 6 with fail
  obtain ⟨w4, hw4⟩ : ∃ w4, w3.drewN nq = w4 := ⟨_, rfl⟩
  rw [hw4]
  have HK4 : Hid (Kept [] w3 w4) := by rw [← hw4]; exact (Kept.refl [] w3).drewN _
  clear hw4 b0 x1
  have HL4 : Hid (Lo H w4 p g C) := HL3.out.kept0 HK4.out
  have HB4 : Hid (_ ∧ _ ∧ _) := ⟨(HK4.out.block _ (lt_of_heap HB3.out.1) (by simp)).trans HB3.out.1, (HK4.out.block _ (lt_of_heap HB3.out.2.1) (by simp)).trans HB3.out.2.1, (HK4.out.block _ (lt_of_heap HB3.out.2.2) (by simp)).trans HB3.out.2.2⟩
  have HKU : Hid (Kept [] U w4) := HK3.out.trans HK4.out (by simp)
  clear HL3 HB3 HK3 HK4
  have c0 := (HL4.out.cells hi).1
  rw [hv] at c0
  obtain ⟨n, hn⟩ : ∃ n, (C[i]).R.length = n := ⟨_, rfl⟩
  rw [hn] at c0 hcl hl
  have HV : Hid ((C[i]).v = .slice av n cv) := by rw [← hn]; exact hv
  have HN : Hid ((C[i]).R.length = n) := hn
  have hcv : cv ≤ 9223372036854775807 := by unfold maxLen at hcm; omega
  have hn63 : n ≤ 9223372036854775807 := by omega
  clear hv hn hcm
  subst hl
  have HB2 : Hid (_) := HB4.out.2.2
  have HK9 : Hid (Kept [] w w4) := HK.out.1.trans HKU.out (by simp)
  have g0 : w4.cell? ⟨X + 1 + 1, 0, none⟩ = some (.int .i64 0) := cellB HB2.out
  have g1 : w4.cell? ⟨X + 1 + 1, 1, none⟩ = some (.int .i64 0) := cellB HB2.out
  have z0 := frozen_of HB2.out 0
  have z1 := frozen_of HB2.out 1
  go_wp2_with fail
  (try simp only [Exit.inBlock, Exit.then])
  refine bodyPost_ret (results_ct rfl _ _ (X + 1 + 1) 35 #[.int .i64 0, .int .i64 0] (0, 0) _ (.int .i64 1701) rfl rfl (block_set (block_set HB2.out 0 _) 1 _) Try.underlying35 rfl (by kernel_rfl)) rfl ?_
  exact ⟨rfl, (HK9.out.setCell (Or.inr (by have := HK.out.2; show _ ≤ X + 1 + 1; omega)) _).setCell (Or.inr (by have := HK.out.2; show _ ≤ X + 1 + 1; omega)) _⟩

theorem s10_kept {w w' : World} {g X x y : Nat} {u0 u1 u2 u3 u4 u5 u6 u7 u8 u9 : Value} {F : List Nat} (h : w.cell? ⟨g, x, none⟩ = some u0 ∧ w.cell? ⟨g, y, none⟩ = some u1 ∧ w.cell? ⟨X, 0, none⟩ = some u2 ∧ w.cell? ⟨X, 1, none⟩ = some u3 ∧ w.cell? ⟨X, 2, none⟩ = some u4 ∧ w.cell? ⟨X, 3, none⟩ = some u5 ∧ w.cell? ⟨X, 4, none⟩ = some u6 ∧ w.cell? ⟨X, 5, none⟩ = some u7 ∧ w.cell? ⟨X, 6, none⟩ = some u8 ∧ w.cell? ⟨X, 7, none⟩ = some u9) (k : Kept F w w') (hg : g ∉ F) (hX : X ∉ F) : w'.cell? ⟨g, x, none⟩ = some u0 ∧ w'.cell? ⟨g, y, none⟩ = some u1 ∧ w'.cell? ⟨X, 0, none⟩ = some u2 ∧ w'.cell? ⟨X, 1, none⟩ = some u3 ∧ w'.cell? ⟨X, 2, none⟩ = some u4 ∧ w'.cell? ⟨X, 3, none⟩ = some u5 ∧ w'.cell? ⟨X, 4, none⟩ = some u6 ∧ w'.cell? ⟨X, 5, none⟩ = some u7 ∧ w'.cell? ⟨X, 6, none⟩ = some u8 ∧ w'.cell? ⟨X, 7, none⟩ = some u9 :=
  ⟨k.cell (h.1) hg, k.cell (h.2.1) hg, k.cell (h.2.2.1) hX, k.cell (h.2.2.2.1) hX, k.cell (h.2.2.2.2.1) hX, k.cell (h.2.2.2.2.2.1) hX, k.cell (h.2.2.2.2.2.2.1) hX, k.cell (h.2.2.2.2.2.2.2.1) hX, k.cell (h.2.2.2.2.2.2.2.2.1) hX, k.cell (h.2.2.2.2.2.2.2.2.2) hX⟩

theorem s10_set {w : World} {g X x y z : Nat} {u0 u1 u2 u3 u4 u5 u6 u7 u8 u9 v : Value} (h : w.cell? ⟨g, x, none⟩ = some u0 ∧ w.cell? ⟨g, y, none⟩ = some u1 ∧ w.cell? ⟨X, 0, none⟩ = some u2 ∧ w.cell? ⟨X, 1, none⟩ = some u3 ∧ w.cell? ⟨X, 2, none⟩ = some u4 ∧ w.cell? ⟨X, 3, none⟩ = some u5 ∧ w.cell? ⟨X, 4, none⟩ = some u6 ∧ w.cell? ⟨X, 5, none⟩ = some u7 ∧ w.cell? ⟨X, 6, none⟩ = some u8 ∧ w.cell? ⟨X, 7, none⟩ = some u9) (hx : z ≠ x) (hy : z ≠ y) (hX : g ≠ X) : (w.setCell ⟨g, z, none⟩ v).cell? ⟨g, x, none⟩ = some u0 ∧ (w.setCell ⟨g, z, none⟩ v).cell? ⟨g, y, none⟩ = some u1 ∧ (w.setCell ⟨g, z, none⟩ v).cell? ⟨X, 0, none⟩ = some u2 ∧ (w.setCell ⟨g, z, none⟩ v).cell? ⟨X, 1, none⟩ = some u3 ∧ (w.setCell ⟨g, z, none⟩ v).cell? ⟨X, 2, none⟩ = some u4 ∧ (w.setCell ⟨g, z, none⟩ v).cell? ⟨X, 3, none⟩ = some u5 ∧ (w.setCell ⟨g, z, none⟩ v).cell? ⟨X, 4, none⟩ = some u6 ∧ (w.setCell ⟨g, z, none⟩ v).cell? ⟨X, 5, none⟩ = some u7 ∧ (w.setCell ⟨g, z, none⟩ v).cell? ⟨X, 6, none⟩ = some u8 ∧ (w.setCell ⟨g, z, none⟩ v).cell? ⟨X, 7, none⟩ = some u9 :=
  ⟨cell_by (h.1) hx, cell_by (h.2.1) hy, cell_far (h.2.2.1) hX, cell_far (h.2.2.2.1) hX, cell_far (h.2.2.2.2.1) hX, cell_far (h.2.2.2.2.2.1) hX, cell_far (h.2.2.2.2.2.2.1) hX, cell_far (h.2.2.2.2.2.2.2.1) hX, cell_far (h.2.2.2.2.2.2.2.2.1) hX, cell_far (h.2.2.2.2.2.2.2.2.2) hX⟩

set_option maxRecDepth 100000 in
set_option maxHeartbeats 8000000 in
theorem p_add {H : Nat} {w : World} {p g : Nat} {C : List Co} (h : Lo H w p g C) (kind : Int) {i : Nat} (fd off num : Int) (p1 p2 dat : ByteArray) (sa sk : Int) (hH : H ≤ w.heap.size) (hk : kindB kind = true) (hi : i < C.length) (hm : mayS sa sk = true) (hl : (C[i]).R.length < 256) (hsm : p1.size ≤ 140737488351232 ∧ p2.size ≤ 140737488351232 ∧ dat.size ≤ 140737488351232) :
    Calls Try.prog 11 #[.pointer (some ⟨p, 0, none⟩), .agg #[.int .i64 kind, .int .i64 (i : Int), .int .i64 fd, .int .i64 off, .int .i64 num, .string p1, .string p2, .string dat], .agg #[.int .i64 sa, .int .i64 sk]] w fun e w' => e = .returned (.tuple #[.agg #[.int .i64 (nextS (C[i]).a (C[i]).k sa sk), .int .i64 (C[i]).k], .int .i64 0]) ∧ ∃ v, Lo H w' p g (C.set i ⟨v, (C[i]).R ++ [addR C[i] kind i fd off num p1 p2 dat sa sk], nextS (C[i]).a (C[i]).k sa sk, (C[i]).k⟩) ∧ Kept (bl p g C) w w' ∧ ∀ x ∈ bl p g (C.set i ⟨v, (C[i]).R ++ [addR C[i] kind i fd off num p1 p2 dat sa sk], nextS (C[i]).a (C[i]).k sa sk, (C[i]).k⟩), x ∈ bl p g C ∨ w.heap.size ≤ x := by
  obtain ⟨U, X, HU, HK, HB⟩ := three w #[.int .i64 kind, .int .i64 (i : Int), .int .i64 fd, .int .i64 off, .int .i64 num, .string p1, .string p2, .string dat] #[.int .i64 sa, .int .i64 sk] #[.int .i64 0, .int .i64 0] 33 35 35
  have HL : Hid (Lo H U p g C) := h.kept0 HK.out.1
  have x0 : U.cell? ⟨X, 0, none⟩ = some (.int .i64 kind) := cellB HB.out.1
  have x1 : U.cell? ⟨X, 1, none⟩ = some (.int .i64 (i : Int)) := cellB HB.out.1
  have s0 : U.cell? ⟨X + 1, 0, none⟩ = some (.int .i64 sa) := cellB HB.out.2.1
  have s1 : U.cell? ⟨X + 1, 1, none⟩ = some (.int .i64 sk) := cellB HB.out.2.1
  have P1 := p_kind kind U
  have P2 := p_has HL.out (i : Int)
  have P3 := p_may sa sk U
  have h2 : hasB C.length (i : Int) = true := by simp [hasB]; omega
  rw [hk] at P1
  rw [h2] at P2
  rw [hm] at P3
  have hc8 := h.chi
  have z0 : (0 : Int) ≤ (i : Int) := by omega
  have z1 : (i : Int) < (C.length : Int) := by omega
  obtain ⟨av, cv, hv, hcl, hcm, -⟩ := (h.each i hi).slice
  clear h2 hk hm
  go_enter Try.func11, Try.ntmps11
  go_upto_region 1 with fail
  have HXw : Hid (w.heap.size = X) := HU.out.2
  rw [HU.out.1, HU.out.2]
  clear HU
  go_wp2_with fail
  refine P1.mono ?_
  rintro e wx ⟨rfl, hw⟩
  have hw2 := hw.symm
  subst hw2
  clear hw
  go_wp2_with fail
  refine P2.mono ?_
  rintro e wx ⟨rfl, hw⟩
  have hw2 := hw.symm
  subst hw2
  clear hw
  go_wp2_with fail
  refine P3.mono ?_
  rintro e w3 ⟨rfl, k3⟩
  have HK3 : Hid (_) := k3
  have HL3 : Hid (Lo H w3 p g C) := HL.out.kept0 k3
  have HB3 : Hid (_ ∧ _ ∧ _) := ⟨(k3.block _ (lt_of_heap HB.out.1) (by simp)).trans HB.out.1, (k3.block _ (lt_of_heap HB.out.2.1) (by simp)).trans HB.out.2.1, (k3.block _ (lt_of_heap HB.out.2.2) (by simp)).trans HB.out.2.2⟩
  clear k3 x0 x1 s0 s1 P1 P2 P3
  have b0 := HL3.out.box
  have x1 : w3.cell? ⟨X, 1, none⟩ = some (.int .i64 (i : Int)) := cellB HB3.out.1
  go_upto_region 5 with fail
  go_quiet (fail)
  go_upto_region 6 with fail
  obtain ⟨w4, hw4⟩ : ∃ w4, w3.drewN nq = w4 := ⟨_, rfl⟩
  rw [hw4]
  have HK4 : Hid (Kept [] w3 w4) := by rw [← hw4]; exact (Kept.refl [] w3).drewN _
  clear hw4 b0 x1
  have HL4 : Hid (Lo H w4 p g C) := HL3.out.kept0 HK4.out
  have HB4 : Hid (_ ∧ _ ∧ _) := ⟨(HK4.out.block _ (lt_of_heap HB3.out.1) (by simp)).trans HB3.out.1, (HK4.out.block _ (lt_of_heap HB3.out.2.1) (by simp)).trans HB3.out.2.1, (HK4.out.block _ (lt_of_heap HB3.out.2.2) (by simp)).trans HB3.out.2.2⟩
  have HKU : Hid (Kept [] U w4) := HK3.out.trans HK4.out (by simp)
  clear HL3 HB3 HK3 HK4
  have c0 := (HL4.out.cells hi).1
  rw [hv] at c0
  obtain ⟨n, hn⟩ : ∃ n, (C[i]).R.length = n := ⟨_, rfl⟩
  rw [hn] at c0 hcl hl
  have HV : Hid ((C[i]).v = .slice av n cv) := by rw [← hn]; exact hv
  have HN : Hid ((C[i]).R.length = n) := hn
  have hcv : cv ≤ 9223372036854775807 := by unfold maxLen at hcm; omega
  have hn63 : n ≤ 9223372036854775807 := by omega
  clear hv hn hcm
  have HXb : Hid (∀ x ∈ bl p g C, X ≤ x → False) := fun x hx hX => by
    have h1 := (h.lt x hx).2
    have h2 := HXw.out
    omega
  have HGX : Hid (g ≠ X ∧ g ≠ X + 1 ∧ g ≠ X + 1 + 1) := by
    have h1 : X ≤ g → False := HXb.out g (mem_bl.2 (Or.inr (Or.inl rfl)))
    exact ⟨fun e => h1 (by omega), fun e => h1 (by omega), fun e => h1 (by omega)⟩
  have HSm0 : Hid (_) := hsm
  have HH : Hid (_) := hH
  have HSR0 : Hid (_) := h.small i hi
  obtain ⟨R, hR⟩ : ∃ R, (C[i]).R = R := ⟨_, rfl⟩
  obtain ⟨a, ha⟩ : ∃ a, (C[i]).a = a := ⟨_, rfl⟩
  obtain ⟨k, hkk⟩ : ∃ k, (C[i]).k = k := ⟨_, rfl⟩
  have HA : Hid ((C[i]).a = a ∧ (C[i]).k = k) := ⟨ha, hkk⟩
  have HRe : Hid ((C[i]).R = R) := hR
  have HC : Hid (w4.cell? ⟨g, i * 3, none⟩ = some (.slice av n cv) ∧ w4.cell? ⟨g, i * 3 + 1, none⟩ = some (.int .i64 a) ∧ w4.cell? ⟨g, i * 3 + 2, none⟩ = some (.int .i64 k)) := by
    obtain ⟨y0, y1, y2⟩ := HL4.out.cells hi
    rw [HV.out] at y0; rw [ha] at y1; rw [hkk] at y2
    exact ⟨y0, y1, y2⟩
  clear h hsm hH hR ha hkk
  have hl2 : ¬ (256 : Int) ≤ (n : Int) := by omega
  go_upto_region 8 with fail
  clear c0 hl2
  refine wp_region_held_drew (S := fun w' => w'.cell? ⟨X + 1, 0, none⟩ = some (.int .i64 sa) ∧ w'.cell? ⟨X + 1, 1, none⟩ = some (.int .i64 sk)) (by kernel_rfl) ?_ (fun hHeld => ?_)
  · exact ⟨cellB HB4.out.2.1, cellB HB4.out.2.1⟩
  have e1 : w4.drew.cell? ⟨g, i * 3 + 1, none⟩ = some (.int .i64 a) := HC.out.2.1
  have e2 : w4.drew.cell? ⟨g, i * 3 + 2, none⟩ = some (.int .i64 k) := HC.out.2.2
  refine wpAnyH_take (i := 0) (v := ?vr0) rfl (by kernel_rfl) (by kernel_rfl) (by kernel_rfl) (fun _ _ _ h => h) (Or.inl ⟨by rfl, ?hyr0⟩) (by assumption) ?_
  case hyr0 =>
    intro w hSw
    (try dsimp only at hSw)
    go_simp
    try with_reducible rfl
  try simp only [Act.put, List.setIfInBounds_toArray, List.set_cons_zero, List.set_cons_succ, List.getElem_toArray, List.getElem_cons_zero, List.getElem_cons_succ]
  refine wpAnyH_take (i := 1) (v := ?vr1) rfl (by kernel_rfl) (by kernel_rfl) (by kernel_rfl) (fun _ _ _ h => h) (Or.inl ⟨by rfl, ?hyr1⟩) (by assumption) ?_
  case hyr1 =>
    intro w hSw
    (try dsimp only at hSw)
    go_simp
    try with_reducible rfl
  try simp only [Act.put, List.setIfInBounds_toArray, List.set_cons_zero, List.set_cons_succ, List.getElem_toArray, List.getElem_cons_zero, List.getElem_cons_succ]
  refine wpAnyH_take (i := 2) (v := ?vr2) rfl (by kernel_rfl) (by kernel_rfl) (by kernel_rfl) (fun _ _ _ h => h) (Or.inl ⟨by rfl, ?hyr2⟩) (by assumption) ?_
  case hyr2 =>
    intro w hSw
    (try dsimp only at hSw)
    go_simp
    try with_reducible rfl
  try simp only [Act.put, List.setIfInBounds_toArray, List.set_cons_zero, List.set_cons_succ, List.getElem_toArray, List.getElem_cons_zero, List.getElem_cons_succ]
  refine wpAnyH_take (i := 3) (v := ?vr3) rfl (by kernel_rfl) (by kernel_rfl) (by kernel_rfl) (fun _ _ _ h => h) (Or.inl ⟨by rfl, ?hyr3⟩) (by assumption) ?_
  case hyr3 =>
    intro w hSw
    (try dsimp only at hSw)
    go_simp
    try with_reducible rfl
  try simp only [Act.put, List.setIfInBounds_toArray, List.set_cons_zero, List.set_cons_succ, List.getElem_toArray, List.getElem_cons_zero, List.getElem_cons_succ]
  refine wpAnyH_take (i := 5) (v := ?vr5) rfl (by kernel_rfl) (by kernel_rfl) (by kernel_rfl) (fun _ _ _ h => h) (Or.inl ⟨by rfl, ?hyr5⟩) (by assumption) ?_
  case hyr5 =>
    intro w hSw
    (try dsimp only at hSw)
    go_simp
    try with_reducible rfl
  try simp only [Act.put, List.setIfInBounds_toArray, List.set_cons_zero, List.set_cons_succ, List.getElem_toArray, List.getElem_cons_zero, List.getElem_cons_succ]
  refine wpAnyH_ready (rs := [4]) (by kernel_rfl) (by simp) ?_
  refine AllReadyH.cons rfl (fun K hK => ?_) AllReadyH.nil
  go_simp
  refine hK.out _ _ ?_ (fun hHeld => ?_)
  · exact hHeld
  clear hK K
  try simp only [Act.put, List.setIfInBounds_toArray, List.set_cons_zero, List.set_cons_succ, List.getElem_toArray, List.getElem_cons_zero, List.getElem_cons_succ]
  clear e1 e2
  refine wpAnyH_ready (rs := [6]) (by kernel_rfl) (by simp) ?_
  refine AllReadyH.cons rfl (fun K hK => ?_) AllReadyH.nil
  go_simp
  refine (p_next a k sa sk _).mono ?_
  rintro e w5 ⟨rfl, k5⟩
  have HK5 : Hid (Kept [] w4 w5) := (Kept.refl [] w4).drew.trans k5 (by simp)
  have HS5 : Hid (_) := s2_kept hHeld k5
  clear k5
  go_wp2_with fail
  refine hK.out _ _ ?_ (fun hHeld => ?_)
  · exact HS5.out
  clear hK K
  try simp only [Act.put, List.setIfInBounds_toArray, List.set_cons_zero, List.set_cons_succ, List.getElem_toArray, List.getElem_cons_zero, List.getElem_cons_succ]
  have HL5 : Hid (Lo H w5 p g C) := HL4.out.kept0 HK5.out
  have e1 : w5.cell? ⟨g, i * 3 + 1, none⟩ = some (.int .i64 a) := by have := (HL5.out.cells hi).2.1; rw [HA.out.1] at this; exact this
  have e2 : w5.cell? ⟨g, i * 3 + 2, none⟩ = some (.int .i64 k) := by have := (HL5.out.cells hi).2.2; rw [HA.out.2] at this; exact this
  have f1 := HL5.out.frozen (i * 3 + 1)
  have f2 := HL5.out.frozen (i * 3 + 2)
  refine wpAnyH_take (i := 7) (v := ?vr7) rfl (by kernel_rfl) (by kernel_rfl) (by kernel_rfl) (fun _ _ _ h => h) (Or.inl ⟨by rfl, ?hyr7⟩) (by assumption) ?_
  case hyr7 =>
    intro w hSw
    (try dsimp only at hSw)
    go_simp
    try with_reducible rfl
  try simp only [Act.put, List.setIfInBounds_toArray, List.set_cons_zero, List.set_cons_succ, List.getElem_toArray, List.getElem_cons_zero, List.getElem_cons_succ]
  refine wpAnyH_take (i := 8) (v := ?vr8) rfl (by kernel_rfl) (by kernel_rfl) (by kernel_rfl) (fun _ _ _ h => h) (Or.inl ⟨by rfl, ?hyr8⟩) (by assumption) ?_
  case hyr8 =>
    intro w hSw
    (try dsimp only at hSw)
    go_simp
    try with_reducible rfl
  try simp only [Act.put, List.setIfInBounds_toArray, List.set_cons_zero, List.set_cons_succ, List.getElem_toArray, List.getElem_cons_zero, List.getElem_cons_succ]
  refine wpAnyH_ready (rs := [9]) (by kernel_rfl) (by simp) ?_
  refine AllReadyH.cons rfl (fun K hK => ?_) AllReadyH.nil
  go_simp
  refine hK.out _ _ ?_ (fun hHeld => ?_)
  · exact ⟨cell_far (cell_far HS5.out.1 HGX.out.2.1) HGX.out.2.1, cell_far (cell_far HS5.out.2 HGX.out.2.1) HGX.out.2.1⟩
  clear hK K
  try simp only [Act.put, List.setIfInBounds_toArray, List.set_cons_zero, List.set_cons_succ, List.getElem_toArray, List.getElem_cons_zero, List.getElem_cons_succ]
  refine wpAnyH_done (by kernel_rfl) ?_ _
  obtain ⟨nx, hnx⟩ : ∃ nx, nextS a k sa sk = nx := ⟨_, rfl⟩
  have HNx : Hid (nextS a k sa sk = nx) := hnx
  rw [hnx]
  obtain ⟨W6, hW6⟩ : ∃ W6, (w5.setCell ⟨g, i * 3 + 1, none⟩ (.int .i64 nx)).setCell ⟨g, i * 3 + 2, none⟩ (.int .i64 k) = W6 := ⟨_, rfl⟩
  obtain ⟨C1, hC1⟩ : ∃ C1, C1 = C.set i ⟨.slice av n cv, R, nx, k⟩ := ⟨_, rfl⟩
  have HC1 : Hid (C1 = C.set i ⟨.slice av n cv, R, nx, k⟩) := hC1
  have hi6 : i < C1.length := by rw [hC1]; simpa using hi
  have HP6 : Hid (_ ∧ _) := HL5.out.put hi ⟨.slice av n cv, R, nx, k⟩ (w1 := w5) (w2 := W6) (Kept.refl _ _) (by have := HL5.out.each i hi; rw [HV.out, HRe.out] at this; exact this) (fun x hx => Or.inl (by rw [HV.out]; exact hx)) (by rw [← HRe.out]; exact HL5.out.len i hi) (by rw [← HRe.out]; exact HL5.out.small i hi) (by rw [← hW6]; exact ((Kept.refl _ _).setCell (Or.inl (by simp)) _).setCell (Or.inl (by simp)) _) (by
      rw [← hW6, block_set (block_set HL5.out.arr _ _) _ _, coC_set _ _ _ hi]
      have y0 := (coC_get C i _ (List.getElem?_eq_getElem hi)).1
      rw [HV.out] at y0
      dsimp only
      rw [list_set_self (coC C) (i * 3) (.slice av n cv) y0]
      simp)
  rw [← hC1] at HP6
  have HL6 : Hid (Lo H W6 p g C1) := HP6.out.1
  have HBl : Hid (∀ x ∈ bl p g C1, x ∈ bl p g C) := fun x hx => by
    have hvb : ∀ j (hj : j < C1.length), ∃ hj' : j < C.length, (C1[j]).v = (C[j]).v := fun j hj => by
      subst hC1
      have hj' : j < C.length := by simpa using hj
      refine ⟨hj', ?_⟩
      by_cases e : i = j
      · subst e; simp [HV.out]
      · rw [List.getElem_set_ne e]
    rcases mem_bl.1 hx with h1 | h1 | ⟨j, hj, hb⟩
    · exact mem_bl.2 (Or.inl h1)
    · exact mem_bl.2 (Or.inr (Or.inl h1))
    · obtain ⟨hj', e⟩ := hvb j hj
      exact mem_bl.2 (Or.inr (Or.inr ⟨j, hj', by rw [← e]; exact hb⟩))
  have HV6 : Hid ((C1[i]).v = .slice av n cv) := by show _ = _; subst hC1; simp
  have HA6 : Hid ((C1[i]).a = nx ∧ (C1[i]).k = k) := by show _ ∧ _; subst hC1; simp
  have HN6 : Hid (R.length = n) := by show _ = _; rw [← HRe.out]; exact HN.out
  have HR6 : Hid (Rr W6 H (.slice av n cv) R) := by show Rr W6 H _ R; have := HL6.out.each i hi6; subst hC1; simpa using this
  have HSR : Hid (∀ r ∈ R, r.small) := by rw [← HRe.out]; exact HSR0.out
  have HSm : Hid (Rec.small ⟨nx, k, kind, i, fd, off, num, p1, p2, dat⟩) := HSm0.out
  have HK46 : Hid (Kept [g] w4 W6) := by rw [← hW6]; exact (((HK5.out.mono (by simp)).setCell (Or.inl (by simp)) _).setCell (Or.inl (by simp)) _)
  have HB6x : Hid (W6.heap[X]? = _) := (HK46.out.block _ (lt_of_heap HB4.out.1) (by simp; exact fun e => HGX.out.1 e.symm)).trans HB4.out.1
  have HB6 : Hid (W6.heap[X + 1 + 1]? = some (.cells #[.int .i64 0, .int .i64 0] 35 (0, 0))) := (HK46.out.block _ (lt_of_heap HB4.out.2.2) (by simp; exact fun e => HGX.out.2.2 e.symm)).trans HB4.out.2.2
  have HS6 : Hid (W6.cell? ⟨g, i * 3 + 1, none⟩ = some (.int .i64 nx) ∧ W6.cell? ⟨g, i * 3 + 2, none⟩ = some (.int .i64 k) ∧ W6.cell? ⟨X, 0, none⟩ = some (.int .i64 kind) ∧ W6.cell? ⟨X, 1, none⟩ = some (.int .i64 (i : Int)) ∧ W6.cell? ⟨X, 2, none⟩ = some (.int .i64 fd) ∧ W6.cell? ⟨X, 3, none⟩ = some (.int .i64 off) ∧ W6.cell? ⟨X, 4, none⟩ = some (.int .i64 num) ∧ W6.cell? ⟨X, 5, none⟩ = some (.string p1) ∧ W6.cell? ⟨X, 6, none⟩ = some (.string p2) ∧ W6.cell? ⟨X, 7, none⟩ = some (.string dat)) := by
    obtain ⟨-, y1, y2⟩ := HL6.out.cells hi6
    rw [HA6.out.1] at y1; rw [HA6.out.2] at y2
    exact ⟨y1, y2, cellB HB6x.out, cellB HB6x.out, cellB HB6x.out, cellB HB6x.out, cellB HB6x.out, cellB HB6x.out, cellB HB6x.out, cellB HB6x.out⟩
  have HOf : Hid (g ∉ (Value.slice av n cv).ownBlock.toList ∧ X ∉ (Value.slice av n cv).ownBlock.toList) := by
    constructor
    · intro hm
      have : (Value.slice av n cv).ownBlock = some g := by simpa using hm
      exact (HL4.out.off i hi g (by rw [HV.out]; exact this)).2 rfl
    · intro hm
      have : (Value.slice av n cv).ownBlock = some X := by simpa using hm
      exact HXb.out X (mem_bl.2 (Or.inr (Or.inr ⟨i, hi, by rw [HV.out]; exact this⟩))) (Nat.le_refl _)
  have HOf2 : Hid (X + 1 + 1 ∉ (Value.slice av n cv).ownBlock.toList) := by
    intro hm
    have : (Value.slice av n cv).ownBlock = some (X + 1 + 1) := by simpa using hm
    exact HXb.out _ (mem_bl.2 (Or.inr (Or.inr ⟨i, hi, by rw [HV.out]; exact this⟩))) (by omega)
  have HK06 : Hid (Kept (bl p g C) w W6) := ((HK.out.1.trans HKU.out (by simp)).mono (by simp)).trans HK46.out (fun x hx => by
    have : x = g := by simpa using hx
    exact Or.inl (mem_bl.2 (Or.inr (Or.inl this))))
  have HH6 : Hid (H ≤ W6.heap.size) := Nat.le_trans HH.out HK06.out.size
  rw [hW6]
  clear hW6 hC1 hnx e1 e2 f1 f2 HP6 HK46 HB6x HS5 HL5 HK5 hHeld
  go_upto_region 9 with fail
  refine wp_region_held_drew (S := fun w' => w'.cell? ⟨g, i * 3 + 1, none⟩ = some (.int .i64 nx) ∧ w'.cell? ⟨g, i * 3 + 2, none⟩ = some (.int .i64 k) ∧ w'.cell? ⟨X, 0, none⟩ = some (.int .i64 kind) ∧ w'.cell? ⟨X, 1, none⟩ = some (.int .i64 (i : Int)) ∧ w'.cell? ⟨X, 2, none⟩ = some (.int .i64 fd) ∧ w'.cell? ⟨X, 3, none⟩ = some (.int .i64 off) ∧ w'.cell? ⟨X, 4, none⟩ = some (.int .i64 num) ∧ w'.cell? ⟨X, 5, none⟩ = some (.string p1) ∧ w'.cell? ⟨X, 6, none⟩ = some (.string p2) ∧ w'.cell? ⟨X, 7, none⟩ = some (.string dat)) (by kernel_rfl) ?_ (fun hHeld => ?_)
  · exact HS6.out
  obtain ⟨u0, hu0⟩ : ∃ u0, W6.drew = u0 := ⟨_, rfl⟩
  have HKu : Hid (Kept [] W6 u0) := by rw [← hu0]; exact (Kept.refl [] W6).drew
  rw [hu0] at hHeld ⊢
  clear hu0
  refine wpAnyH_take (i := 0) (v := ?vs0) rfl (by kernel_rfl) (by kernel_rfl) (by kernel_rfl) (fun _ _ _ h => h) (Or.inl ⟨by rfl, ?hys0⟩) (by assumption) ?_
  case hys0 =>
    intro w hSw
    (try dsimp only at hSw)
    go_simp
    try with_reducible rfl
  try simp only [Act.put, List.setIfInBounds_toArray, List.set_cons_zero, List.set_cons_succ, List.getElem_toArray, List.getElem_cons_zero, List.getElem_cons_succ]
  refine wpAnyH_take (i := 1) (v := ?vs1) rfl (by kernel_rfl) (by kernel_rfl) (by kernel_rfl) (fun _ _ _ h => h) (Or.inl ⟨by rfl, ?hys1⟩) (by assumption) ?_
  case hys1 =>
    intro w hSw
    (try dsimp only at hSw)
    go_simp
    try with_reducible rfl
  try simp only [Act.put, List.setIfInBounds_toArray, List.set_cons_zero, List.set_cons_succ, List.getElem_toArray, List.getElem_cons_zero, List.getElem_cons_succ]
  refine wpAnyH_take (i := 2) (v := ?vs2) rfl (by kernel_rfl) (by kernel_rfl) (by kernel_rfl) (fun _ _ _ h => h) (Or.inl ⟨by rfl, ?hys2⟩) (by assumption) ?_
  case hys2 =>
    intro w hSw
    (try dsimp only at hSw)
    go_simp
    try with_reducible rfl
  try simp only [Act.put, List.setIfInBounds_toArray, List.set_cons_zero, List.set_cons_succ, List.getElem_toArray, List.getElem_cons_zero, List.getElem_cons_succ]
  refine wpAnyH_take (i := 3) (v := ?vs3) rfl (by kernel_rfl) (by kernel_rfl) (by kernel_rfl) (fun _ _ _ h => h) (Or.inl ⟨by rfl, ?hys3⟩) (by assumption) ?_
  case hys3 =>
    intro w hSw
    (try dsimp only at hSw)
    go_simp
    try with_reducible rfl
  try simp only [Act.put, List.setIfInBounds_toArray, List.set_cons_zero, List.set_cons_succ, List.getElem_toArray, List.getElem_cons_zero, List.getElem_cons_succ]
  refine wpAnyH_take (i := 5) (v := ?vs5) rfl (by kernel_rfl) (by kernel_rfl) (by kernel_rfl) (fun _ _ _ h => h) (Or.inl ⟨by rfl, ?hys5⟩) (by assumption) ?_
  case hys5 =>
    intro w hSw
    (try dsimp only at hSw)
    go_simp
    try with_reducible rfl
  try simp only [Act.put, List.setIfInBounds_toArray, List.set_cons_zero, List.set_cons_succ, List.getElem_toArray, List.getElem_cons_zero, List.getElem_cons_succ]
  refine wpAnyH_take (i := 6) (v := ?vs6) rfl (by kernel_rfl) (by kernel_rfl) (by kernel_rfl) (fun _ _ _ h => h) (Or.inl ⟨by rfl, ?hys6⟩) (by assumption) ?_
  case hys6 =>
    intro w hSw
    (try dsimp only at hSw)
    go_simp
    try with_reducible rfl
  try simp only [Act.put, List.setIfInBounds_toArray, List.set_cons_zero, List.set_cons_succ, List.getElem_toArray, List.getElem_cons_zero, List.getElem_cons_succ]
  refine wpAnyH_take (i := 7) (v := ?vs7) rfl (by kernel_rfl) (by kernel_rfl) (by kernel_rfl) (fun _ _ _ h => h) (Or.inl ⟨by rfl, ?hys7⟩) (by assumption) ?_
  case hys7 =>
    intro w hSw
    (try dsimp only at hSw)
    go_simp
    try with_reducible rfl
  try simp only [Act.put, List.setIfInBounds_toArray, List.set_cons_zero, List.set_cons_succ, List.getElem_toArray, List.getElem_cons_zero, List.getElem_cons_succ]
  refine wpAnyH_take (i := 8) (v := ?vs8) rfl (by kernel_rfl) (by kernel_rfl) (by kernel_rfl) (fun _ _ _ h => h) (Or.inl ⟨by rfl, ?hys8⟩) (by assumption) ?_
  case hys8 =>
    intro w hSw
    (try dsimp only at hSw)
    go_simp
    try with_reducible rfl
  try simp only [Act.put, List.setIfInBounds_toArray, List.set_cons_zero, List.set_cons_succ, List.getElem_toArray, List.getElem_cons_zero, List.getElem_cons_succ]
  refine wpAnyH_take (i := 9) (v := ?vs9) rfl (by kernel_rfl) (by kernel_rfl) (by kernel_rfl) (fun _ _ _ h => h) (Or.inl ⟨by rfl, ?hys9⟩) (by assumption) ?_
  case hys9 =>
    intro w hSw
    (try dsimp only at hSw)
    go_simp
    try with_reducible rfl
  try simp only [Act.put, List.setIfInBounds_toArray, List.set_cons_zero, List.set_cons_succ, List.getElem_toArray, List.getElem_cons_zero, List.getElem_cons_succ]
  refine wpAnyH_take (i := 10) (v := ?vs10) rfl (by kernel_rfl) (by kernel_rfl) (by kernel_rfl) (fun _ _ _ h => h) (Or.inl ⟨by rfl, ?hys10⟩) (by assumption) ?_
  case hys10 =>
    intro w hSw
    (try dsimp only at hSw)
    go_simp
    try with_reducible rfl
  try simp only [Act.put, List.setIfInBounds_toArray, List.set_cons_zero, List.set_cons_succ, List.getElem_toArray, List.getElem_cons_zero, List.getElem_cons_succ]
  refine wpAnyH_ready (rs := [4, 11]) (by kernel_rfl) (by simp) ?_
  refine AllReadyH.cons rfl (fun K hK => ?_) (AllReadyH.cons rfl (fun K hK => ?_) AllReadyH.nil)
  · have e0 : u0.cell? ⟨g, i * 3, none⟩ = some (.slice av n cv) := ((HL6.out.kept0 HKu.out).cells hi6).1.trans (congrArg some HV6.out)
    go_simp
    refine hK.out _ _ ?_ (fun hHeld => ?_)
    · exact hHeld
    clear e0
    clear hK K
    try simp only [Act.put, List.setIfInBounds_toArray, List.set_cons_zero, List.set_cons_succ, List.getElem_toArray, List.getElem_cons_zero, List.getElem_cons_succ]
    refine wpAnyH_ready (rs := [11]) (by kernel_rfl) (by simp) ?_
    refine AllReadyH.cons rfl (fun K hK => ?_) AllReadyH.nil
    go_simp
    refine (p_copied nx k kind (i : Int) fd off num p1 p2 dat HSm.out _).mono ?_
    rintro e u1 ⟨rfl, k7⟩
    have HKu : Hid (Kept [] W6 u1) := HKu.out.trans k7 (by simp)
    have HS7 : Hid (_) := s10_kept hHeld k7 (by simp) (by simp)
    clear k7
    go_wp2_with fail
    refine hK.out _ _ ?_ (fun hHeld => ?_)
    · exact HS7.out
    clear HS7
    clear hK K
    try simp only [Act.put, List.setIfInBounds_toArray, List.set_cons_zero, List.set_cons_succ, List.getElem_toArray, List.getElem_cons_zero, List.getElem_cons_succ]
    refine wpAnyH_ready (rs := [12]) (by kernel_rfl) (by simp) ?_
    refine AllReadyH.cons rfl (fun K hK => ?_) AllReadyH.nil
    go_simp
    obtain ⟨u2, Y, HY, HKY, HBY⟩ := box1 u1 #[.int .i64 nx, .int .i64 k, .int .i64 kind, .int .i64 (i : Int), .int .i64 fd, .int .i64 off, .int .i64 num, .string p1, .string p2, .string dat] 57
    rw [HY.out.1, HY.out.2]
    clear HY
    have HKu : Hid (Kept [] W6 u2) := HKu.out.trans HKY.out.1 (by simp)
    have HS8 : Hid (_) := s10_kept hHeld HKY.out.1 (by simp) (by simp)
    refine hK.out _ _ ?_ (fun hHeld => ?_)
    · exact HS8.out
    clear HS8 HKY
    clear hK K
    try simp only [Act.put, List.setIfInBounds_toArray, List.set_cons_zero, List.set_cons_succ, List.getElem_toArray, List.getElem_cons_zero, List.getElem_cons_succ]
    have hbY : ∀ j u, (Rec.cs ⟨nx, k, kind, i, fd, off, num, p1, p2, dat⟩)[j]? = some u → u2.cell? ⟨Y, j, none⟩ = some u := fun j u hu => by rw [cellB HBY.out, ← hu]; simp [Rec.cs]
    obtain ⟨gn, cn, w9, hr9, rr9, gr9, hg9, -⟩ := append_rec (R := R) (v := .slice av n cv) ((HR6.out.kept HKu.out (by simp))) (Nat.le_trans HH6.out HKu.out.size) Y ⟨nx, k, kind, i, fd, off, num, p1, p2, dat⟩ hbY (by have := HN6.out; omega) 44
    rw [HN6.out] at hr9 rr9
    have HAp : Hid (_) := hr9
    have HK9 : Hid (Kept (Value.slice av n cv).ownBlock.toList W6 w9) := (HKu.out.mono (by simp)).grown gr9 (fun x hx => Or.inl (by simpa using hx))
    have HR9 : Hid (Rr w9 H (.slice (some ⟨gn, 0, none⟩) (n + 1) cn) (R ++ [⟨nx, k, kind, i, fd, off, num, p1, p2, dat⟩]) ∧ ((Value.slice av n cv).ownBlock = some gn ∨ W6.heap.size ≤ gn)) := ⟨rr9, hg9.imp id (fun e => by have := HKu.out.size; omega)⟩
    have HS9 : Hid (_) := s10_kept HS6.out HK9.out HOf.out.1 HOf.out.2
    clear hbY hr9 rr9 gr9 hg9
    refine wpAnyH_ready (rs := [13]) (by kernel_rfl) (by simp) ?_
    refine AllReadyH.cons rfl (fun K hK => ?_) AllReadyH.nil
    refine step_append_run9 (by rfl) _ _ 44 44 (by rfl) _ _ (by rfl) (by rfl) _ _ HAp.out ?_
    refine hK.out _ _ ?_ (fun hHeld => ?_)
    · exact HS9.out
    clear hK K
    try simp only [Act.put, List.setIfInBounds_toArray, List.set_cons_zero, List.set_cons_succ, List.getElem_toArray, List.getElem_cons_zero, List.getElem_cons_succ]
    refine wpAnyH_take (i := 14) (v := ?vs14) rfl (by kernel_rfl) (by kernel_rfl) (by kernel_rfl) (fun _ _ _ h => h) (Or.inl ⟨by rfl, ?hys14⟩) (by assumption) ?_
    case hys14 =>
      intro w hSw
      (try dsimp only at hSw)
      go_simp
      try with_reducible rfl
    try simp only [Act.put, List.setIfInBounds_toArray, List.set_cons_zero, List.set_cons_succ, List.getElem_toArray, List.getElem_cons_zero, List.getElem_cons_succ]
    refine wpAnyH_take (i := 15) (v := ?vs15) rfl (by kernel_rfl) (by kernel_rfl) (by kernel_rfl) (fun _ _ _ h => h) (Or.inl ⟨by rfl, ?hys15⟩) (by assumption) ?_
    case hys15 =>
      intro w hSw
      (try dsimp only at hSw)
      go_simp
      try with_reducible rfl
    try simp only [Act.put, List.setIfInBounds_toArray, List.set_cons_zero, List.set_cons_succ, List.getElem_toArray, List.getElem_cons_zero, List.getElem_cons_succ]
    have e0 : w9.cell? ⟨g, i * 3, none⟩ = some (.slice av n cv) := HK9.out.cell ((HL6.out.cells hi6).1.trans (congrArg some HV6.out)) HOf.out.1
    have f0 : w9.frozen? ⟨g, i * 3, none⟩ = false := frozen_of ((HK9.out.block g (lt_of_heap HL6.out.arr) HOf.out.1).trans HL6.out.arr) _
    refine wpAnyH_ready (rs := [16]) (by kernel_rfl) (by simp) ?_
    refine AllReadyH.cons rfl (fun K hK => ?_) AllReadyH.nil
    go_simp
    refine hK.out _ _ ?_ (fun hHeld => ?_)
    · exact s10_set HS9.out (by omega) (by omega) HGX.out.1
    clear hK K
    try simp only [Act.put, List.setIfInBounds_toArray, List.set_cons_zero, List.set_cons_succ, List.getElem_toArray, List.getElem_cons_zero, List.getElem_cons_succ]
    refine wpAnyH_done (by kernel_rfl) ?_ _
    obtain ⟨W9, hW9⟩ : ∃ W9, w9.setCell ⟨g, i * 3, none⟩ (.slice (some ⟨gn, 0, none⟩) (n + 1) cn) = W9 := ⟨_, rfl⟩
    have HP : Hid (_ ∧ _) := HL6.out.put hi6 ⟨.slice (some ⟨gn, 0, none⟩) (n + 1) cn, R ++ [⟨nx, k, kind, i, fd, off, num, p1, p2, dat⟩], nx, k⟩ (w1 := w9) (w2 := W9) (by rw [HV6.out]; exact HK9.out) HR9.out.1 (fun x hx => by rw [HV6.out]; simp [Value.ownBlock] at hx; subst hx; exact HR9.out.2) (by have := HN6.out; simp; omega) (fun r hr => by
        rcases List.mem_append.1 hr with h1 | h1
        · exact HSR.out r h1
        · simp at h1; rw [h1]; exact HSm.out) (by rw [← hW9]; exact (Kept.refl _ _).setCell (Or.inl (by simp)) _) (by
        rw [← hW9, block_set ((HK9.out.block g (lt_of_heap HL6.out.arr) HOf.out.1).trans HL6.out.arr), coC_set _ _ _ hi6]
        obtain ⟨-, y1, y2⟩ := coC_get C1 i _ (List.getElem?_eq_getElem hi6)
        rw [HA6.out.1] at y1
        rw [HA6.out.2] at y2
        dsimp only
        rw [list_set_self ((coC C1).set (i * 3) (.slice (some ⟨gn, 0, none⟩) (n + 1) cn)) (i * 3 + 1) (.int .i64 nx) (by rw [List.getElem?_set_ne (by omega)]; exact y1), list_set_self ((coC C1).set (i * 3) (.slice (some ⟨gn, 0, none⟩) (n + 1) cn)) (i * 3 + 2) (.int .i64 k) (by rw [List.getElem?_set_ne (by omega)]; exact y2)]
        simp)
    have HB9 : Hid (W9.heap[X + 1 + 1]? = some (.cells #[.int .i64 0, .int .i64 0] 35 (0, 0))) := by
      show _ = _
      rw [← hW9, Below.heap_setCell _ _ _ _ (by show X + 1 + 1 ≠ g; exact fun e => HGX.out.2.2 e.symm)]
      exact (HK9.out.block _ (lt_of_heap HB6.out) HOf2.out).trans HB6.out
    have HKw : Hid (Kept (bl p g C) w W9) := by
      rw [← hW9]
      refine (HK06.out.trans HK9.out ?_).setCell (Or.inl (mem_bl.2 (Or.inr (Or.inl rfl)))) _
      intro x hx
      exact Or.inl (mem_bl.2 (Or.inr (Or.inr ⟨i, hi, by rw [HV.out]; simpa using hx⟩)))
    have y1 : W9.cell? ⟨g, i * 3 + 1, none⟩ = some (.int .i64 nx) := by rw [← hW9]; exact cell_by HS9.out.1 (by omega)
    have y2 : W9.cell? ⟨g, i * 3 + 2, none⟩ = some (.int .i64 k) := by rw [← hW9]; exact cell_by HS9.out.2.1 (by omega)
    rw [hW9]
    clear hW9 e0 f0 HS9 HK9
    have g0 : W9.cell? ⟨X + 1 + 1, 0, none⟩ = some (.int .i64 0) := cellB HB9.out
    have g1 : W9.cell? ⟨X + 1 + 1, 1, none⟩ = some (.int .i64 0) := cellB HB9.out
    have q0 := frozen_of HB9.out 0
    have q1 := frozen_of HB9.out 1
    have n1 : (⟨X + 1 + 1, 0, none⟩ : Addr) ≠ ⟨g, i * 3 + 2, none⟩ := by intro e; injection e with e1; exact HGX.out.2.2 e1.symm
    go_wp2_with fail
    (try simp only [Exit.inBlock, Exit.then])
    refine bodyPost_ret (results_ct rfl _ _ (X + 1 + 1) 35 #[.int .i64 nx, .int .i64 k] (0, 0) _ (.int .i64 0) rfl rfl (block_set (block_set HB9.out 0 _) 1 _) Try.underlying35 rfl (by kernel_rfl)) rfl ?_
    have hX2 : w.heap.size ≤ X + 1 + 1 := by have := HK.out.2; omega
    have k9 : Kept [X + 1 + 1] W9 ((W9.setCell ⟨X + 1 + 1, 0, none⟩ (.int .i64 nx)).setCell ⟨X + 1 + 1, 1, none⟩ (.int .i64 k)) := ((Kept.refl _ _).setCell (p := ⟨X + 1 + 1, 0, none⟩) (Or.inl (by simp)) _).setCell (p := ⟨X + 1 + 1, 1, none⟩) (Or.inl (by simp)) _
    refine ⟨by rw [HA.out.1, HA.out.2, HNx.out], .slice (some ⟨gn, 0, none⟩) (n + 1) cn, ?_, (HKw.out.setCell (p := ⟨X + 1 + 1, 0, none⟩) (Or.inr hX2) _).setCell (p := ⟨X + 1 + 1, 1, none⟩) (Or.inr hX2) _, ?_⟩
    · have hL := HP.out.1.kept k9 (fun x hx => by
        have : x = X + 1 + 1 := by simpa using hx
        subst this
        intro hm
        rcases HP.out.2 _ hm with h1 | h1
        · exact HXb.out (X + 1 + 1) (HBl.out _ h1) (by omega)
        · have := lt_of_heap HB6.out; omega)
      have eC : C1.set i ⟨.slice (some ⟨gn, 0, none⟩) (n + 1) cn, R ++ [⟨nx, k, kind, i, fd, off, num, p1, p2, dat⟩], nx, k⟩ = C.set i ⟨.slice (some ⟨gn, 0, none⟩) (n + 1) cn, (C[i]).R ++ [addR C[i] kind i fd off num p1 p2 dat sa sk], nextS (C[i]).a (C[i]).k sa sk, (C[i]).k⟩ := by
        rw [HC1.out, List.set_set]
        simp only [addR, HRe.out, HA.out.1, HA.out.2, HNx.out]
      rw [← eC]
      exact hL
    · intro x hx
      have eC : C1.set i ⟨.slice (some ⟨gn, 0, none⟩) (n + 1) cn, R ++ [⟨nx, k, kind, i, fd, off, num, p1, p2, dat⟩], nx, k⟩ = C.set i ⟨.slice (some ⟨gn, 0, none⟩) (n + 1) cn, (C[i]).R ++ [addR C[i] kind i fd off num p1 p2 dat sa sk], nextS (C[i]).a (C[i]).k sa sk, (C[i]).k⟩ := by
        rw [HC1.out, List.set_set]
        simp only [addR, HRe.out, HA.out.1, HA.out.2, HNx.out]
      rw [← eC] at hx
      rcases HP.out.2 x hx with h1 | h1
      · exact Or.inl (HBl.out x h1)
      · exact Or.inr (by have := HK06.out.size; omega)
  · go_simp
    refine (p_copied nx k kind (i : Int) fd off num p1 p2 dat HSm.out _).mono ?_
    rintro e u1 ⟨rfl, k7⟩
    have HKu : Hid (Kept [] W6 u1) := HKu.out.trans k7 (by simp)
    have HS7 : Hid (_) := s10_kept hHeld k7 (by simp) (by simp)
    clear k7
    go_wp2_with fail
    refine hK.out _ _ ?_ (fun hHeld => ?_)
    · exact HS7.out
    clear HS7
    clear hK K
    try simp only [Act.put, List.setIfInBounds_toArray, List.set_cons_zero, List.set_cons_succ, List.getElem_toArray, List.getElem_cons_zero, List.getElem_cons_succ]
    refine wpAnyH_ready (rs := [4, 12]) (by kernel_rfl) (by simp) ?_
    refine AllReadyH.cons rfl (fun K hK => ?_) (AllReadyH.cons rfl (fun K hK => ?_) AllReadyH.nil)
    · have e0 : u1.cell? ⟨g, i * 3, none⟩ = some (.slice av n cv) := ((HL6.out.kept0 HKu.out).cells hi6).1.trans (congrArg some HV6.out)
      go_simp
      refine hK.out _ _ ?_ (fun hHeld => ?_)
      · exact hHeld
      clear e0
      clear hK K
      try simp only [Act.put, List.setIfInBounds_toArray, List.set_cons_zero, List.set_cons_succ, List.getElem_toArray, List.getElem_cons_zero, List.getElem_cons_succ]
      refine wpAnyH_ready (rs := [12]) (by kernel_rfl) (by simp) ?_
      refine AllReadyH.cons rfl (fun K hK => ?_) AllReadyH.nil
      go_simp
      obtain ⟨u2, Y, HY, HKY, HBY⟩ := box1 u1 #[.int .i64 nx, .int .i64 k, .int .i64 kind, .int .i64 (i : Int), .int .i64 fd, .int .i64 off, .int .i64 num, .string p1, .string p2, .string dat] 57
      rw [HY.out.1, HY.out.2]
      clear HY
      have HKu : Hid (Kept [] W6 u2) := HKu.out.trans HKY.out.1 (by simp)
      have HS8 : Hid (_) := s10_kept hHeld HKY.out.1 (by simp) (by simp)
      refine hK.out _ _ ?_ (fun hHeld => ?_)
      · exact HS8.out
      clear HS8 HKY
      clear hK K
      try simp only [Act.put, List.setIfInBounds_toArray, List.set_cons_zero, List.set_cons_succ, List.getElem_toArray, List.getElem_cons_zero, List.getElem_cons_succ]
      have hbY : ∀ j u, (Rec.cs ⟨nx, k, kind, i, fd, off, num, p1, p2, dat⟩)[j]? = some u → u2.cell? ⟨Y, j, none⟩ = some u := fun j u hu => by rw [cellB HBY.out, ← hu]; simp [Rec.cs]
      obtain ⟨gn, cn, w9, hr9, rr9, gr9, hg9, -⟩ := append_rec (R := R) (v := .slice av n cv) ((HR6.out.kept HKu.out (by simp))) (Nat.le_trans HH6.out HKu.out.size) Y ⟨nx, k, kind, i, fd, off, num, p1, p2, dat⟩ hbY (by have := HN6.out; omega) 44
      rw [HN6.out] at hr9 rr9
      have HAp : Hid (_) := hr9
      have HK9 : Hid (Kept (Value.slice av n cv).ownBlock.toList W6 w9) := (HKu.out.mono (by simp)).grown gr9 (fun x hx => Or.inl (by simpa using hx))
      have HR9 : Hid (Rr w9 H (.slice (some ⟨gn, 0, none⟩) (n + 1) cn) (R ++ [⟨nx, k, kind, i, fd, off, num, p1, p2, dat⟩]) ∧ ((Value.slice av n cv).ownBlock = some gn ∨ W6.heap.size ≤ gn)) := ⟨rr9, hg9.imp id (fun e => by have := HKu.out.size; omega)⟩
      have HS9 : Hid (_) := s10_kept HS6.out HK9.out HOf.out.1 HOf.out.2
      clear hbY hr9 rr9 gr9 hg9
      refine wpAnyH_ready (rs := [13]) (by kernel_rfl) (by simp) ?_
      refine AllReadyH.cons rfl (fun K hK => ?_) AllReadyH.nil
      refine step_append_run9 (by rfl) _ _ 44 44 (by rfl) _ _ (by rfl) (by rfl) _ _ HAp.out ?_
      refine hK.out _ _ ?_ (fun hHeld => ?_)
      · exact HS9.out
      clear hK K
      try simp only [Act.put, List.setIfInBounds_toArray, List.set_cons_zero, List.set_cons_succ, List.getElem_toArray, List.getElem_cons_zero, List.getElem_cons_succ]
      refine wpAnyH_take (i := 14) (v := ?vs14) rfl (by kernel_rfl) (by kernel_rfl) (by kernel_rfl) (fun _ _ _ h => h) (Or.inl ⟨by rfl, ?hys14⟩) (by assumption) ?_
      case hys14 =>
        intro w hSw
        (try dsimp only at hSw)
        go_simp
        try with_reducible rfl
      try simp only [Act.put, List.setIfInBounds_toArray, List.set_cons_zero, List.set_cons_succ, List.getElem_toArray, List.getElem_cons_zero, List.getElem_cons_succ]
      refine wpAnyH_take (i := 15) (v := ?vs15) rfl (by kernel_rfl) (by kernel_rfl) (by kernel_rfl) (fun _ _ _ h => h) (Or.inl ⟨by rfl, ?hys15⟩) (by assumption) ?_
      case hys15 =>
        intro w hSw
        (try dsimp only at hSw)
        go_simp
        try with_reducible rfl
      try simp only [Act.put, List.setIfInBounds_toArray, List.set_cons_zero, List.set_cons_succ, List.getElem_toArray, List.getElem_cons_zero, List.getElem_cons_succ]
      have e0 : w9.cell? ⟨g, i * 3, none⟩ = some (.slice av n cv) := HK9.out.cell ((HL6.out.cells hi6).1.trans (congrArg some HV6.out)) HOf.out.1
      have f0 : w9.frozen? ⟨g, i * 3, none⟩ = false := frozen_of ((HK9.out.block g (lt_of_heap HL6.out.arr) HOf.out.1).trans HL6.out.arr) _
      refine wpAnyH_ready (rs := [16]) (by kernel_rfl) (by simp) ?_
      refine AllReadyH.cons rfl (fun K hK => ?_) AllReadyH.nil
      go_simp
      refine hK.out _ _ ?_ (fun hHeld => ?_)
      · exact s10_set HS9.out (by omega) (by omega) HGX.out.1
      clear hK K
      try simp only [Act.put, List.setIfInBounds_toArray, List.set_cons_zero, List.set_cons_succ, List.getElem_toArray, List.getElem_cons_zero, List.getElem_cons_succ]
      refine wpAnyH_done (by kernel_rfl) ?_ _
      obtain ⟨W9, hW9⟩ : ∃ W9, w9.setCell ⟨g, i * 3, none⟩ (.slice (some ⟨gn, 0, none⟩) (n + 1) cn) = W9 := ⟨_, rfl⟩
      have HP : Hid (_ ∧ _) := HL6.out.put hi6 ⟨.slice (some ⟨gn, 0, none⟩) (n + 1) cn, R ++ [⟨nx, k, kind, i, fd, off, num, p1, p2, dat⟩], nx, k⟩ (w1 := w9) (w2 := W9) (by rw [HV6.out]; exact HK9.out) HR9.out.1 (fun x hx => by rw [HV6.out]; simp [Value.ownBlock] at hx; subst hx; exact HR9.out.2) (by have := HN6.out; simp; omega) (fun r hr => by
          rcases List.mem_append.1 hr with h1 | h1
          · exact HSR.out r h1
          · simp at h1; rw [h1]; exact HSm.out) (by rw [← hW9]; exact (Kept.refl _ _).setCell (Or.inl (by simp)) _) (by
          rw [← hW9, block_set ((HK9.out.block g (lt_of_heap HL6.out.arr) HOf.out.1).trans HL6.out.arr), coC_set _ _ _ hi6]
          obtain ⟨-, y1, y2⟩ := coC_get C1 i _ (List.getElem?_eq_getElem hi6)
          rw [HA6.out.1] at y1
          rw [HA6.out.2] at y2
          dsimp only
          rw [list_set_self ((coC C1).set (i * 3) (.slice (some ⟨gn, 0, none⟩) (n + 1) cn)) (i * 3 + 1) (.int .i64 nx) (by rw [List.getElem?_set_ne (by omega)]; exact y1), list_set_self ((coC C1).set (i * 3) (.slice (some ⟨gn, 0, none⟩) (n + 1) cn)) (i * 3 + 2) (.int .i64 k) (by rw [List.getElem?_set_ne (by omega)]; exact y2)]
          simp)
      have HB9 : Hid (W9.heap[X + 1 + 1]? = some (.cells #[.int .i64 0, .int .i64 0] 35 (0, 0))) := by
        show _ = _
        rw [← hW9, Below.heap_setCell _ _ _ _ (by show X + 1 + 1 ≠ g; exact fun e => HGX.out.2.2 e.symm)]
        exact (HK9.out.block _ (lt_of_heap HB6.out) HOf2.out).trans HB6.out
      have HKw : Hid (Kept (bl p g C) w W9) := by
        rw [← hW9]
        refine (HK06.out.trans HK9.out ?_).setCell (Or.inl (mem_bl.2 (Or.inr (Or.inl rfl)))) _
        intro x hx
        exact Or.inl (mem_bl.2 (Or.inr (Or.inr ⟨i, hi, by rw [HV.out]; simpa using hx⟩)))
      have y1 : W9.cell? ⟨g, i * 3 + 1, none⟩ = some (.int .i64 nx) := by rw [← hW9]; exact cell_by HS9.out.1 (by omega)
      have y2 : W9.cell? ⟨g, i * 3 + 2, none⟩ = some (.int .i64 k) := by rw [← hW9]; exact cell_by HS9.out.2.1 (by omega)
      rw [hW9]
      clear hW9 e0 f0 HS9 HK9
      have g0 : W9.cell? ⟨X + 1 + 1, 0, none⟩ = some (.int .i64 0) := cellB HB9.out
      have g1 : W9.cell? ⟨X + 1 + 1, 1, none⟩ = some (.int .i64 0) := cellB HB9.out
      have q0 := frozen_of HB9.out 0
      have q1 := frozen_of HB9.out 1
      have n1 : (⟨X + 1 + 1, 0, none⟩ : Addr) ≠ ⟨g, i * 3 + 2, none⟩ := by intro e; injection e with e1; exact HGX.out.2.2 e1.symm
      go_wp2_with fail
      (try simp only [Exit.inBlock, Exit.then])
      refine bodyPost_ret (results_ct rfl _ _ (X + 1 + 1) 35 #[.int .i64 nx, .int .i64 k] (0, 0) _ (.int .i64 0) rfl rfl (block_set (block_set HB9.out 0 _) 1 _) Try.underlying35 rfl (by kernel_rfl)) rfl ?_
      have hX2 : w.heap.size ≤ X + 1 + 1 := by have := HK.out.2; omega
      have k9 : Kept [X + 1 + 1] W9 ((W9.setCell ⟨X + 1 + 1, 0, none⟩ (.int .i64 nx)).setCell ⟨X + 1 + 1, 1, none⟩ (.int .i64 k)) := ((Kept.refl _ _).setCell (p := ⟨X + 1 + 1, 0, none⟩) (Or.inl (by simp)) _).setCell (p := ⟨X + 1 + 1, 1, none⟩) (Or.inl (by simp)) _
      refine ⟨by rw [HA.out.1, HA.out.2, HNx.out], .slice (some ⟨gn, 0, none⟩) (n + 1) cn, ?_, (HKw.out.setCell (p := ⟨X + 1 + 1, 0, none⟩) (Or.inr hX2) _).setCell (p := ⟨X + 1 + 1, 1, none⟩) (Or.inr hX2) _, ?_⟩
      · have hL := HP.out.1.kept k9 (fun x hx => by
          have : x = X + 1 + 1 := by simpa using hx
          subst this
          intro hm
          rcases HP.out.2 _ hm with h1 | h1
          · exact HXb.out (X + 1 + 1) (HBl.out _ h1) (by omega)
          · have := lt_of_heap HB6.out; omega)
        have eC : C1.set i ⟨.slice (some ⟨gn, 0, none⟩) (n + 1) cn, R ++ [⟨nx, k, kind, i, fd, off, num, p1, p2, dat⟩], nx, k⟩ = C.set i ⟨.slice (some ⟨gn, 0, none⟩) (n + 1) cn, (C[i]).R ++ [addR C[i] kind i fd off num p1 p2 dat sa sk], nextS (C[i]).a (C[i]).k sa sk, (C[i]).k⟩ := by
          rw [HC1.out, List.set_set]
          simp only [addR, HRe.out, HA.out.1, HA.out.2, HNx.out]
        rw [← eC]
        exact hL
      · intro x hx
        have eC : C1.set i ⟨.slice (some ⟨gn, 0, none⟩) (n + 1) cn, R ++ [⟨nx, k, kind, i, fd, off, num, p1, p2, dat⟩], nx, k⟩ = C.set i ⟨.slice (some ⟨gn, 0, none⟩) (n + 1) cn, (C[i]).R ++ [addR C[i] kind i fd off num p1 p2 dat sa sk], nextS (C[i]).a (C[i]).k sa sk, (C[i]).k⟩ := by
          rw [HC1.out, List.set_set]
          simp only [addR, HRe.out, HA.out.1, HA.out.2, HNx.out]
        rw [← eC] at hx
        rcases HP.out.2 x hx with h1 | h1
        · exact Or.inl (HBl.out x h1)
        · exact Or.inr (by have := HK06.out.size; omega)
    · go_simp
      obtain ⟨u2, Y, HY, HKY, HBY⟩ := box1 u1 #[.int .i64 nx, .int .i64 k, .int .i64 kind, .int .i64 (i : Int), .int .i64 fd, .int .i64 off, .int .i64 num, .string p1, .string p2, .string dat] 57
      rw [HY.out.1, HY.out.2]
      clear HY
      have HKu : Hid (Kept [] W6 u2) := HKu.out.trans HKY.out.1 (by simp)
      have HS8 : Hid (_) := s10_kept hHeld HKY.out.1 (by simp) (by simp)
      refine hK.out _ _ ?_ (fun hHeld => ?_)
      · exact HS8.out
      clear HS8 HKY
      clear hK K
      try simp only [Act.put, List.setIfInBounds_toArray, List.set_cons_zero, List.set_cons_succ, List.getElem_toArray, List.getElem_cons_zero, List.getElem_cons_succ]
      refine wpAnyH_ready (rs := [4]) (by kernel_rfl) (by simp) ?_
      refine AllReadyH.cons rfl (fun K hK => ?_) AllReadyH.nil
      have e0 : u2.cell? ⟨g, i * 3, none⟩ = some (.slice av n cv) := ((HL6.out.kept0 HKu.out).cells hi6).1.trans (congrArg some HV6.out)
      go_simp
      refine hK.out _ _ ?_ (fun hHeld => ?_)
      · exact hHeld
      clear e0
      clear hK K
      try simp only [Act.put, List.setIfInBounds_toArray, List.set_cons_zero, List.set_cons_succ, List.getElem_toArray, List.getElem_cons_zero, List.getElem_cons_succ]
      have hbY : ∀ j u, (Rec.cs ⟨nx, k, kind, i, fd, off, num, p1, p2, dat⟩)[j]? = some u → u2.cell? ⟨Y, j, none⟩ = some u := fun j u hu => by rw [cellB HBY.out, ← hu]; simp [Rec.cs]
      obtain ⟨gn, cn, w9, hr9, rr9, gr9, hg9, -⟩ := append_rec (R := R) (v := .slice av n cv) ((HR6.out.kept HKu.out (by simp))) (Nat.le_trans HH6.out HKu.out.size) Y ⟨nx, k, kind, i, fd, off, num, p1, p2, dat⟩ hbY (by have := HN6.out; omega) 44
      rw [HN6.out] at hr9 rr9
      have HAp : Hid (_) := hr9
      have HK9 : Hid (Kept (Value.slice av n cv).ownBlock.toList W6 w9) := (HKu.out.mono (by simp)).grown gr9 (fun x hx => Or.inl (by simpa using hx))
      have HR9 : Hid (Rr w9 H (.slice (some ⟨gn, 0, none⟩) (n + 1) cn) (R ++ [⟨nx, k, kind, i, fd, off, num, p1, p2, dat⟩]) ∧ ((Value.slice av n cv).ownBlock = some gn ∨ W6.heap.size ≤ gn)) := ⟨rr9, hg9.imp id (fun e => by have := HKu.out.size; omega)⟩
      have HS9 : Hid (_) := s10_kept HS6.out HK9.out HOf.out.1 HOf.out.2
      clear hbY hr9 rr9 gr9 hg9
      refine wpAnyH_ready (rs := [13]) (by kernel_rfl) (by simp) ?_
      refine AllReadyH.cons rfl (fun K hK => ?_) AllReadyH.nil
      refine step_append_run9 (by rfl) _ _ 44 44 (by rfl) _ _ (by rfl) (by rfl) _ _ HAp.out ?_
      refine hK.out _ _ ?_ (fun hHeld => ?_)
      · exact HS9.out
      clear hK K
      try simp only [Act.put, List.setIfInBounds_toArray, List.set_cons_zero, List.set_cons_succ, List.getElem_toArray, List.getElem_cons_zero, List.getElem_cons_succ]
      refine wpAnyH_take (i := 14) (v := ?vs14) rfl (by kernel_rfl) (by kernel_rfl) (by kernel_rfl) (fun _ _ _ h => h) (Or.inl ⟨by rfl, ?hys14⟩) (by assumption) ?_
      case hys14 =>
        intro w hSw
        (try dsimp only at hSw)
        go_simp
        try with_reducible rfl
      try simp only [Act.put, List.setIfInBounds_toArray, List.set_cons_zero, List.set_cons_succ, List.getElem_toArray, List.getElem_cons_zero, List.getElem_cons_succ]
      refine wpAnyH_take (i := 15) (v := ?vs15) rfl (by kernel_rfl) (by kernel_rfl) (by kernel_rfl) (fun _ _ _ h => h) (Or.inl ⟨by rfl, ?hys15⟩) (by assumption) ?_
      case hys15 =>
        intro w hSw
        (try dsimp only at hSw)
        go_simp
        try with_reducible rfl
      try simp only [Act.put, List.setIfInBounds_toArray, List.set_cons_zero, List.set_cons_succ, List.getElem_toArray, List.getElem_cons_zero, List.getElem_cons_succ]
      have e0 : w9.cell? ⟨g, i * 3, none⟩ = some (.slice av n cv) := HK9.out.cell ((HL6.out.cells hi6).1.trans (congrArg some HV6.out)) HOf.out.1
      have f0 : w9.frozen? ⟨g, i * 3, none⟩ = false := frozen_of ((HK9.out.block g (lt_of_heap HL6.out.arr) HOf.out.1).trans HL6.out.arr) _
      refine wpAnyH_ready (rs := [16]) (by kernel_rfl) (by simp) ?_
      refine AllReadyH.cons rfl (fun K hK => ?_) AllReadyH.nil
      go_simp
      refine hK.out _ _ ?_ (fun hHeld => ?_)
      · exact s10_set HS9.out (by omega) (by omega) HGX.out.1
      clear hK K
      try simp only [Act.put, List.setIfInBounds_toArray, List.set_cons_zero, List.set_cons_succ, List.getElem_toArray, List.getElem_cons_zero, List.getElem_cons_succ]
      refine wpAnyH_done (by kernel_rfl) ?_ _
      obtain ⟨W9, hW9⟩ : ∃ W9, w9.setCell ⟨g, i * 3, none⟩ (.slice (some ⟨gn, 0, none⟩) (n + 1) cn) = W9 := ⟨_, rfl⟩
      have HP : Hid (_ ∧ _) := HL6.out.put hi6 ⟨.slice (some ⟨gn, 0, none⟩) (n + 1) cn, R ++ [⟨nx, k, kind, i, fd, off, num, p1, p2, dat⟩], nx, k⟩ (w1 := w9) (w2 := W9) (by rw [HV6.out]; exact HK9.out) HR9.out.1 (fun x hx => by rw [HV6.out]; simp [Value.ownBlock] at hx; subst hx; exact HR9.out.2) (by have := HN6.out; simp; omega) (fun r hr => by
          rcases List.mem_append.1 hr with h1 | h1
          · exact HSR.out r h1
          · simp at h1; rw [h1]; exact HSm.out) (by rw [← hW9]; exact (Kept.refl _ _).setCell (Or.inl (by simp)) _) (by
          rw [← hW9, block_set ((HK9.out.block g (lt_of_heap HL6.out.arr) HOf.out.1).trans HL6.out.arr), coC_set _ _ _ hi6]
          obtain ⟨-, y1, y2⟩ := coC_get C1 i _ (List.getElem?_eq_getElem hi6)
          rw [HA6.out.1] at y1
          rw [HA6.out.2] at y2
          dsimp only
          rw [list_set_self ((coC C1).set (i * 3) (.slice (some ⟨gn, 0, none⟩) (n + 1) cn)) (i * 3 + 1) (.int .i64 nx) (by rw [List.getElem?_set_ne (by omega)]; exact y1), list_set_self ((coC C1).set (i * 3) (.slice (some ⟨gn, 0, none⟩) (n + 1) cn)) (i * 3 + 2) (.int .i64 k) (by rw [List.getElem?_set_ne (by omega)]; exact y2)]
          simp)
      have HB9 : Hid (W9.heap[X + 1 + 1]? = some (.cells #[.int .i64 0, .int .i64 0] 35 (0, 0))) := by
        show _ = _
        rw [← hW9, Below.heap_setCell _ _ _ _ (by show X + 1 + 1 ≠ g; exact fun e => HGX.out.2.2 e.symm)]
        exact (HK9.out.block _ (lt_of_heap HB6.out) HOf2.out).trans HB6.out
      have HKw : Hid (Kept (bl p g C) w W9) := by
        rw [← hW9]
        refine (HK06.out.trans HK9.out ?_).setCell (Or.inl (mem_bl.2 (Or.inr (Or.inl rfl)))) _
        intro x hx
        exact Or.inl (mem_bl.2 (Or.inr (Or.inr ⟨i, hi, by rw [HV.out]; simpa using hx⟩)))
      have y1 : W9.cell? ⟨g, i * 3 + 1, none⟩ = some (.int .i64 nx) := by rw [← hW9]; exact cell_by HS9.out.1 (by omega)
      have y2 : W9.cell? ⟨g, i * 3 + 2, none⟩ = some (.int .i64 k) := by rw [← hW9]; exact cell_by HS9.out.2.1 (by omega)
      rw [hW9]
      clear hW9 e0 f0 HS9 HK9
      have g0 : W9.cell? ⟨X + 1 + 1, 0, none⟩ = some (.int .i64 0) := cellB HB9.out
      have g1 : W9.cell? ⟨X + 1 + 1, 1, none⟩ = some (.int .i64 0) := cellB HB9.out
      have q0 := frozen_of HB9.out 0
      have q1 := frozen_of HB9.out 1
      have n1 : (⟨X + 1 + 1, 0, none⟩ : Addr) ≠ ⟨g, i * 3 + 2, none⟩ := by intro e; injection e with e1; exact HGX.out.2.2 e1.symm
      go_wp2_with fail
      (try simp only [Exit.inBlock, Exit.then])
      refine bodyPost_ret (results_ct rfl _ _ (X + 1 + 1) 35 #[.int .i64 nx, .int .i64 k] (0, 0) _ (.int .i64 0) rfl rfl (block_set (block_set HB9.out 0 _) 1 _) Try.underlying35 rfl (by kernel_rfl)) rfl ?_
      have hX2 : w.heap.size ≤ X + 1 + 1 := by have := HK.out.2; omega
      have k9 : Kept [X + 1 + 1] W9 ((W9.setCell ⟨X + 1 + 1, 0, none⟩ (.int .i64 nx)).setCell ⟨X + 1 + 1, 1, none⟩ (.int .i64 k)) := ((Kept.refl _ _).setCell (p := ⟨X + 1 + 1, 0, none⟩) (Or.inl (by simp)) _).setCell (p := ⟨X + 1 + 1, 1, none⟩) (Or.inl (by simp)) _
      refine ⟨by rw [HA.out.1, HA.out.2, HNx.out], .slice (some ⟨gn, 0, none⟩) (n + 1) cn, ?_, (HKw.out.setCell (p := ⟨X + 1 + 1, 0, none⟩) (Or.inr hX2) _).setCell (p := ⟨X + 1 + 1, 1, none⟩) (Or.inr hX2) _, ?_⟩
      · have hL := HP.out.1.kept k9 (fun x hx => by
          have : x = X + 1 + 1 := by simpa using hx
          subst this
          intro hm
          rcases HP.out.2 _ hm with h1 | h1
          · exact HXb.out (X + 1 + 1) (HBl.out _ h1) (by omega)
          · have := lt_of_heap HB6.out; omega)
        have eC : C1.set i ⟨.slice (some ⟨gn, 0, none⟩) (n + 1) cn, R ++ [⟨nx, k, kind, i, fd, off, num, p1, p2, dat⟩], nx, k⟩ = C.set i ⟨.slice (some ⟨gn, 0, none⟩) (n + 1) cn, (C[i]).R ++ [addR C[i] kind i fd off num p1 p2 dat sa sk], nextS (C[i]).a (C[i]).k sa sk, (C[i]).k⟩ := by
          rw [HC1.out, List.set_set]
          simp only [addR, HRe.out, HA.out.1, HA.out.2, HNx.out]
        rw [← eC]
        exact hL
      · intro x hx
        have eC : C1.set i ⟨.slice (some ⟨gn, 0, none⟩) (n + 1) cn, R ++ [⟨nx, k, kind, i, fd, off, num, p1, p2, dat⟩], nx, k⟩ = C.set i ⟨.slice (some ⟨gn, 0, none⟩) (n + 1) cn, (C[i]).R ++ [addR C[i] kind i fd off num p1 p2 dat sa sk], nextS (C[i]).a (C[i]).k sa sk, (C[i]).k⟩ := by
          rw [HC1.out, List.set_set]
          simp only [addR, HRe.out, HA.out.1, HA.out.2, HNx.out]
        rw [← eC] at hx
        rcases HP.out.2 x hx with h1 | h1
        · exact Or.inl (HBl.out x h1)
        · exact Or.inr (by have := HK06.out.size; omega)

end Go.Proofs.Ytlecpeofjabndaa
