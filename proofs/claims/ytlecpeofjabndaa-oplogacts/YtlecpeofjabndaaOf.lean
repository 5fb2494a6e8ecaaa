/-
  The reference's Add.
-/
import Derived.Test.YtlecpeofjabndaaOe
namespace Go.Proofs.Ytlecpeofjabndaa
open Go.RowKit
set_option linter.unusedVariables false
set_option linter.unusedSimpArgs false

theorem oek4 {w w' : World} {b0 o0 b1 o1 b2 o2 b3 o3 : Nat} {v0 v1 v2 v3 : Value} (h : w.cell? ⟨b0, o0, none⟩ = some v0 ∧ w.cell? ⟨b1, o1, none⟩ = some v1 ∧ w.cell? ⟨b2, o2, none⟩ = some v2 ∧ w.cell? ⟨b3, o3, none⟩ = some v3) (k : Kept [] w w') : w'.cell? ⟨b0, o0, none⟩ = some v0 ∧ w'.cell? ⟨b1, o1, none⟩ = some v1 ∧ w'.cell? ⟨b2, o2, none⟩ = some v2 ∧ w'.cell? ⟨b3, o3, none⟩ = some v3 :=
  ⟨k.cell (h.1) (by simp), k.cell (h.2.1) (by simp), k.cell (h.2.2.1) (by simp), k.cell (h.2.2.2) (by simp)⟩

theorem oek5 {w w' : World} {b0 o0 b1 o1 b2 o2 b3 o3 b4 o4 : Nat} {v0 v1 v2 v3 v4 : Value} (h : w.cell? ⟨b0, o0, none⟩ = some v0 ∧ w.cell? ⟨b1, o1, none⟩ = some v1 ∧ w.cell? ⟨b2, o2, none⟩ = some v2 ∧ w.cell? ⟨b3, o3, none⟩ = some v3 ∧ w.cell? ⟨b4, o4, none⟩ = some v4) (k : Kept [] w w') : w'.cell? ⟨b0, o0, none⟩ = some v0 ∧ w'.cell? ⟨b1, o1, none⟩ = some v1 ∧ w'.cell? ⟨b2, o2, none⟩ = some v2 ∧ w'.cell? ⟨b3, o3, none⟩ = some v3 ∧ w'.cell? ⟨b4, o4, none⟩ = some v4 :=
  ⟨k.cell (h.1) (by simp), k.cell (h.2.1) (by simp), k.cell (h.2.2.1) (by simp), k.cell (h.2.2.2.1) (by simp), k.cell (h.2.2.2.2) (by simp)⟩

set_option maxRecDepth 100000 in
set_option maxHeartbeats 8000000 in
theorem r_add_form {H : Nat} {w : World} {q gc gl : Nat} {C : List Co} (h : Re H w q gc gl C) (kind core fd off num : Int) (p1 p2 dat : ByteArray) (sa sk : Int) (hb : (kindB kind && hasB C.length core && mayS sa sk) = false) :
    Calls Try.prog 12 #[.pointer (some ⟨q, 0, none⟩), .agg #[.int .i64 kind, .int .i64 core, .int .i64 fd, .int .i64 off, .int .i64 num, .string p1, .string p2, .string dat], .agg #[.int .i64 sa, .int .i64 sk]] w fun e w' => e = .returned (.tuple #[.agg #[.int .i64 0, .int .i64 0], .int .i64 1700]) ∧ Kept [] w w' := by
  obtain ⟨U, X, HU, HK, HB⟩ := three w #[.int .i64 kind, .int .i64 core, .int .i64 fd, .int .i64 off, .int .i64 num, .string p1, .string p2, .string dat] #[.int .i64 sa, .int .i64 sk] #[.int .i64 0, .int .i64 0] 33 35 35
  have HL : Hid (Re H U q gc gl C) := h.kept0 HK.out.1
  obtain ⟨n, hN⟩ : ∃ n, C.length = n := ⟨_, rfl⟩
  have HN0 : Hid (C.length = n) := hN
  have hn8 : n ≤ 8 := by rw [← hN]; exact h.chi
  have HS1 : Hid (U.cell? ⟨X, 0, none⟩ = some (.int .i64 kind) ∧ U.cell? ⟨X, 1, none⟩ = some (.int .i64 core) ∧ U.cell? ⟨q, 0, none⟩ = some (.slice (some ⟨gc, 0, none⟩) n n) ∧ U.cell? ⟨X + 1, 0, none⟩ = some (.int .i64 sa) ∧ U.cell? ⟨X + 1, 1, none⟩ = some (.int .i64 sk)) := ⟨cellB HB.out.1, cellB HB.out.1, by rw [← hN]; exact HL.out.box.1, cellB HB.out.2.1, cellB HB.out.2.1⟩
  have HXw : Hid (w.heap.size = X) := HU.out.2
  have HBad : Hid ((kindB kind && hasB n core && mayS sa sk) = false) := by rw [← hN]; exact hb
  clear h hN hb
  by_cases a1 : kind < 0
  · have d1 : decide (kind < 0) = true := decide_eq_true a1
    go_enter Try.func12, Try.ntmps12
    go_upto_region 1 with fail
    rw [HU.out.1, HU.out.2]
    clear HU
    refine wp_region_held_drew (S := fun w' => w'.cell? ⟨X, 0, none⟩ = some (.int .i64 kind) ∧ w'.cell? ⟨X, 1, none⟩ = some (.int .i64 core) ∧ w'.cell? ⟨q, 0, none⟩ = some (.slice (some ⟨gc, 0, none⟩) n n) ∧ w'.cell? ⟨X + 1, 0, none⟩ = some (.int .i64 sa) ∧ w'.cell? ⟨X + 1, 1, none⟩ = some (.int .i64 sk)) (by kernel_rfl) ?_ (fun hHeld => ?_)
    · exact HS1.out
    obtain ⟨u0, hu0⟩ : ∃ u, U.drew = u := ⟨_, rfl⟩
    have HKu : Hid (Kept [] U u0) := by rw [← hu0]; exact (Kept.refl [] U).drew
    rw [hu0] at hHeld ⊢
    clear hu0
    refine wpAnyH_take (i := 0) (v := ?va0) rfl (by kernel_rfl) (by kernel_rfl) (by kernel_rfl) (fun _ _ _ h => h) (Or.inl ⟨by rfl, ?hya0⟩) (by assumption) ?_
    case hya0 =>
      intro w hSw
      (try dsimp only at hSw)
      go_simp
      try with_reducible rfl
    try simp only [Act.put, List.setIfInBounds_toArray, List.set_cons_zero, List.set_cons_succ, List.getElem_toArray, List.getElem_cons_zero, List.getElem_cons_succ]
    refine wpAnyH_take (i := 1) (v := ?va1) rfl (by kernel_rfl) (by kernel_rfl) (by kernel_rfl) (fun _ _ _ h => h) (Or.inl ⟨by rfl, ?hya1⟩) (by assumption) ?_
    case hya1 =>
      intro w hSw
      (try dsimp only at hSw)
      go_simp
      try with_reducible rfl
    try simp only [Act.put, List.setIfInBounds_toArray, List.set_cons_zero, List.set_cons_succ, List.getElem_toArray, List.getElem_cons_zero, List.getElem_cons_succ]
    refine wpAnyH_take (i := 2) (v := ?va2) rfl (by kernel_rfl) (by kernel_rfl) (by kernel_rfl) (fun _ _ _ h => h) (Or.inl ⟨by rfl, ?hya2⟩) (by assumption) ?_
    case hya2 =>
      intro w hSw
      (try dsimp only at hSw)
      go_simp
      try with_reducible rfl
    try simp only [Act.put, List.setIfInBounds_toArray, List.set_cons_zero, List.set_cons_succ, List.getElem_toArray, List.getElem_cons_zero, List.getElem_cons_succ]
    refine wpAnyH_take (i := 3) (v := ?va3) rfl (by kernel_rfl) (by kernel_rfl) (by kernel_rfl) (fun _ _ _ h => h) (Or.inl ⟨by rfl, ?hya3⟩) (by assumption) ?_
    case hya3 =>
      intro w hSw
      (try dsimp only at hSw)
      go_simp
      try with_reducible rfl
    try simp only [Act.put, List.setIfInBounds_toArray, List.set_cons_zero, List.set_cons_succ, List.getElem_toArray, List.getElem_cons_zero, List.getElem_cons_succ]
    refine wpAnyH_take (i := 4) (v := undef) rfl (by kernel_rfl) (by kernel_rfl) (by kernel_rfl) (fun _ _ _ h => h) (Or.inr ⟨by rfl, rfl⟩) (by assumption) ?_
    try simp only [Act.put, List.setIfInBounds_toArray, List.set_cons_zero, List.set_cons_succ, List.getElem_toArray, List.getElem_cons_zero, List.getElem_cons_succ]
    refine wpAnyH_take (i := 5) (v := undef) rfl (by kernel_rfl) (by kernel_rfl) (by kernel_rfl) (fun _ _ _ h => h) (Or.inr ⟨by rfl, rfl⟩) (by assumption) ?_
    try simp only [Act.put, List.setIfInBounds_toArray, List.set_cons_zero, List.set_cons_succ, List.getElem_toArray, List.getElem_cons_zero, List.getElem_cons_succ]
    refine wpAnyH_take (i := 6) (v := undef) rfl (by kernel_rfl) (by kernel_rfl) (by kernel_rfl) (fun _ _ _ h => h) (Or.inr ⟨by rfl, rfl⟩) (by assumption) ?_
    try simp only [Act.put, List.setIfInBounds_toArray, List.set_cons_zero, List.set_cons_succ, List.getElem_toArray, List.getElem_cons_zero, List.getElem_cons_succ]
    refine wpAnyH_take (i := 7) (v := ?va7) rfl (by kernel_rfl) (by kernel_rfl) (by kernel_rfl) (fun _ _ _ h => h) (Or.inl ⟨by rfl, ?hya7⟩) (by assumption) ?_
    case hya7 =>
      intro w hSw
      (try dsimp only at hSw)
      go_simp
      try with_reducible rfl
    try simp only [Act.put, List.setIfInBounds_toArray, List.set_cons_zero, List.set_cons_succ, List.getElem_toArray, List.getElem_cons_zero, List.getElem_cons_succ]
    refine wpAnyH_take (i := 8) (v := ?va8) rfl (by kernel_rfl) (by kernel_rfl) (by kernel_rfl) (fun _ _ _ h => h) (Or.inl ⟨by rfl, ?hya8⟩) (by assumption) ?_
    case hya8 =>
      intro w hSw
      (try dsimp only at hSw)
      go_simp
      try with_reducible rfl
    try simp only [Act.put, List.setIfInBounds_toArray, List.set_cons_zero, List.set_cons_succ, List.getElem_toArray, List.getElem_cons_zero, List.getElem_cons_succ]
    refine wpAnyH_take (i := 9) (v := undef) rfl (by kernel_rfl) (by kernel_rfl) (by kernel_rfl) (fun _ _ _ h => h) (Or.inr ⟨by rfl, rfl⟩) (by assumption) ?_
    try simp only [Act.put, List.setIfInBounds_toArray, List.set_cons_zero, List.set_cons_succ, List.getElem_toArray, List.getElem_cons_zero, List.getElem_cons_succ]
    refine wpAnyH_take (i := 10) (v := undef) rfl (by kernel_rfl) (by kernel_rfl) (by kernel_rfl) (fun _ _ _ h => h) (Or.inr ⟨by rfl, rfl⟩) (by assumption) ?_
    try simp only [Act.put, List.setIfInBounds_toArray, List.set_cons_zero, List.set_cons_succ, List.getElem_toArray, List.getElem_cons_zero, List.getElem_cons_succ]
    refine wpAnyH_take (i := 11) (v := undef) rfl (by kernel_rfl) (by kernel_rfl) (by kernel_rfl) (fun _ _ _ h => h) (Or.inr ⟨by rfl, rfl⟩) (by assumption) ?_
    try simp only [Act.put, List.setIfInBounds_toArray, List.set_cons_zero, List.set_cons_succ, List.getElem_toArray, List.getElem_cons_zero, List.getElem_cons_succ]
    refine wpAnyH_take (i := 12) (v := ?va12) rfl (by kernel_rfl) (by kernel_rfl) (by kernel_rfl) (fun _ _ _ h => h) (Or.inl ⟨by rfl, ?hya12⟩) (by assumption) ?_
    case hya12 =>
      intro w hSw
      (try dsimp only at hSw)
      go_simp
      try with_reducible rfl
    try simp only [Act.put, List.setIfInBounds_toArray, List.set_cons_zero, List.set_cons_succ, List.getElem_toArray, List.getElem_cons_zero, List.getElem_cons_succ]
    refine wpAnyH_take (i := 13) (v := ?va13) rfl (by kernel_rfl) (by kernel_rfl) (by kernel_rfl) (fun _ _ _ h => h) (Or.inl ⟨by rfl, ?hya13⟩) (by assumption) ?_
    case hya13 =>
      intro w hSw
      (try dsimp only at hSw)
      go_simp
      try with_reducible rfl
    try simp only [Act.put, List.setIfInBounds_toArray, List.set_cons_zero, List.set_cons_succ, List.getElem_toArray, List.getElem_cons_zero, List.getElem_cons_succ]
    refine wpAnyH_take (i := 14) (v := undef) rfl (by kernel_rfl) (by kernel_rfl) (by kernel_rfl) (fun _ _ _ h => h) (Or.inr ⟨by rfl, rfl⟩) (by assumption) ?_
    try simp only [Act.put, List.setIfInBounds_toArray, List.set_cons_zero, List.set_cons_succ, List.getElem_toArray, List.getElem_cons_zero, List.getElem_cons_succ]
    refine wpAnyH_take (i := 15) (v := undef) rfl (by kernel_rfl) (by kernel_rfl) (by kernel_rfl) (fun _ _ _ h => h) (Or.inr ⟨by rfl, rfl⟩) (by assumption) ?_
    try simp only [Act.put, List.setIfInBounds_toArray, List.set_cons_zero, List.set_cons_succ, List.getElem_toArray, List.getElem_cons_zero, List.getElem_cons_succ]
    refine wpAnyH_take (i := 16) (v := undef) rfl (by kernel_rfl) (by kernel_rfl) (by kernel_rfl) (fun _ _ _ h => h) (Or.inr ⟨by rfl, rfl⟩) (by assumption) ?_
    try simp only [Act.put, List.setIfInBounds_toArray, List.set_cons_zero, List.set_cons_succ, List.getElem_toArray, List.getElem_cons_zero, List.getElem_cons_succ]
    refine wpAnyH_take (i := 17) (v := undef) rfl (by kernel_rfl) (by kernel_rfl) (by kernel_rfl) (fun _ _ _ h => h) (Or.inr ⟨by rfl, rfl⟩) (by assumption) ?_
    try simp only [Act.put, List.setIfInBounds_toArray, List.set_cons_zero, List.set_cons_succ, List.getElem_toArray, List.getElem_cons_zero, List.getElem_cons_succ]
    refine wpAnyH_take (i := 18) (v := undef) rfl (by kernel_rfl) (by kernel_rfl) (by kernel_rfl) (fun _ _ _ h => h) (Or.inr ⟨by rfl, rfl⟩) (by assumption) ?_
    try simp only [Act.put, List.setIfInBounds_toArray, List.set_cons_zero, List.set_cons_succ, List.getElem_toArray, List.getElem_cons_zero, List.getElem_cons_succ]
    refine wpAnyH_take (i := 19) (v := undef) rfl (by kernel_rfl) (by kernel_rfl) (by kernel_rfl) (fun _ _ _ h => h) (Or.inr ⟨by rfl, rfl⟩) (by assumption) ?_
    try simp only [Act.put, List.setIfInBounds_toArray, List.set_cons_zero, List.set_cons_succ, List.getElem_toArray, List.getElem_cons_zero, List.getElem_cons_succ]
    refine wpAnyH_take (i := 20) (v := undef) rfl (by kernel_rfl) (by kernel_rfl) (by kernel_rfl) (fun _ _ _ h => h) (Or.inr ⟨by rfl, rfl⟩) (by assumption) ?_
    try simp only [Act.put, List.setIfInBounds_toArray, List.set_cons_zero, List.set_cons_succ, List.getElem_toArray, List.getElem_cons_zero, List.getElem_cons_succ]
    refine wpAnyH_take (i := 21) (v := undef) rfl (by kernel_rfl) (by kernel_rfl) (by kernel_rfl) (fun _ _ _ h => h) (Or.inr ⟨by rfl, rfl⟩) (by assumption) ?_
    try simp only [Act.put, List.setIfInBounds_toArray, List.set_cons_zero, List.set_cons_succ, List.getElem_toArray, List.getElem_cons_zero, List.getElem_cons_succ]
    refine wpAnyH_take (i := 22) (v := ?va22) rfl (by kernel_rfl) (by kernel_rfl) (by kernel_rfl) (fun _ _ _ h => h) (Or.inl ⟨by rfl, ?hya22⟩) (by assumption) ?_
    case hya22 =>
      intro w hSw
      (try dsimp only at hSw)
      go_simp
      try with_reducible rfl
    try simp only [Act.put, List.setIfInBounds_toArray, List.set_cons_zero, List.set_cons_succ, List.getElem_toArray, List.getElem_cons_zero, List.getElem_cons_succ]
    refine wpAnyH_take (i := 23) (v := ?va23) rfl (by kernel_rfl) (by kernel_rfl) (by kernel_rfl) (fun _ _ _ h => h) (Or.inl ⟨by rfl, ?hya23⟩) (by assumption) ?_
    case hya23 =>
      intro w hSw
      (try dsimp only at hSw)
      go_simp
      try with_reducible rfl
    try simp only [Act.put, List.setIfInBounds_toArray, List.set_cons_zero, List.set_cons_succ, List.getElem_toArray, List.getElem_cons_zero, List.getElem_cons_succ]
    refine wpAnyH_take (i := 24) (v := undef) rfl (by kernel_rfl) (by kernel_rfl) (by kernel_rfl) (fun _ _ _ h => h) (Or.inr ⟨by rfl, rfl⟩) (by assumption) ?_
    try simp only [Act.put, List.setIfInBounds_toArray, List.set_cons_zero, List.set_cons_succ, List.getElem_toArray, List.getElem_cons_zero, List.getElem_cons_succ]
    refine wpAnyH_take (i := 25) (v := undef) rfl (by kernel_rfl) (by kernel_rfl) (by kernel_rfl) (fun _ _ _ h => h) (Or.inr ⟨by rfl, rfl⟩) (by assumption) ?_
    try simp only [Act.put, List.setIfInBounds_toArray, List.set_cons_zero, List.set_cons_succ, List.getElem_toArray, List.getElem_cons_zero, List.getElem_cons_succ]
    refine wpAnyH_take (i := 26) (v := undef) rfl (by kernel_rfl) (by kernel_rfl) (by kernel_rfl) (fun _ _ _ h => h) (Or.inr ⟨by rfl, rfl⟩) (by assumption) ?_
    try simp only [Act.put, List.setIfInBounds_toArray, List.set_cons_zero, List.set_cons_succ, List.getElem_toArray, List.getElem_cons_zero, List.getElem_cons_succ]
    refine wpAnyH_take (i := 27) (v := ?va27) rfl (by kernel_rfl) (by kernel_rfl) (by kernel_rfl) (fun _ _ _ h => h) (Or.inl ⟨by rfl, ?hya27⟩) (by assumption) ?_
    case hya27 =>
      intro w hSw
      (try dsimp only at hSw)
      go_simp
      try with_reducible rfl
    try simp only [Act.put, List.setIfInBounds_toArray, List.set_cons_zero, List.set_cons_succ, List.getElem_toArray, List.getElem_cons_zero, List.getElem_cons_succ]
    refine wpAnyH_done (by kernel_rfl) ?_ _
    have HB2 : Hid (_) := (HKu.out.block _ (lt_of_heap HB.out.2.2) (by simp)).trans HB.out.2.2
    have HK9 : Hid (Kept [] w u0) := HK.out.1.trans HKu.out (by simp)
    clear hHeld
    have g0 : u0.cell? ⟨X + 1 + 1, 0, none⟩ = some (.int .i64 0) := cellB HB2.out
    have g1 : u0.cell? ⟨X + 1 + 1, 1, none⟩ = some (.int .i64 0) := cellB HB2.out
    have z0 := frozen_of HB2.out 0
    have z1 := frozen_of HB2.out 1
    go_wp2_with fail
    (try simp only [Exit.inBlock, Exit.then])
    refine bodyPost_ret (results_ct rfl _ _ (X + 1 + 1) 35 #[.int .i64 0, .int .i64 0] (0, 0) _ (.int .i64 1700) rfl rfl (block_set (block_set HB2.out 0 _) 1 _) Try.underlying35 rfl (by kernel_rfl)) rfl ?_
    exact ⟨rfl, (HK9.out.setCell (Or.inr (by have := HK.out.2; show _ ≤ X + 1 + 1; omega)) _).setCell (Or.inr (by have := HK.out.2; show _ ≤ X + 1 + 1; omega)) _⟩
  have d1 : decide (kind < 0) = false := decide_eq_false a1
  by_cases a2 : 16 < kind
  · have d2 : decide (16 < kind) = true := decide_eq_true a2
    go_enter Try.func12, Try.ntmps12
    go_upto_region 1 with fail
    rw [HU.out.1, HU.out.2]
    clear HU
    refine wp_region_held_drew (S := fun w' => w'.cell? ⟨X, 0, none⟩ = some (.int .i64 kind) ∧ w'.cell? ⟨X, 1, none⟩ = some (.int .i64 core) ∧ w'.cell? ⟨q, 0, none⟩ = some (.slice (some ⟨gc, 0, none⟩) n n) ∧ w'.cell? ⟨X + 1, 0, none⟩ = some (.int .i64 sa) ∧ w'.cell? ⟨X + 1, 1, none⟩ = some (.int .i64 sk)) (by kernel_rfl) ?_ (fun hHeld => ?_)
    · exact HS1.out
    obtain ⟨u0, hu0⟩ : ∃ u, U.drew = u := ⟨_, rfl⟩
    have HKu : Hid (Kept [] U u0) := by rw [← hu0]; exact (Kept.refl [] U).drew
    rw [hu0] at hHeld ⊢
    clear hu0
    refine wpAnyH_take (i := 0) (v := ?vb0) rfl (by kernel_rfl) (by kernel_rfl) (by kernel_rfl) (fun _ _ _ h => h) (Or.inl ⟨by rfl, ?hyb0⟩) (by assumption) ?_
    case hyb0 =>
      intro w hSw
      (try dsimp only at hSw)
      go_simp
      try with_reducible rfl
    try simp only [Act.put, List.setIfInBounds_toArray, List.set_cons_zero, List.set_cons_succ, List.getElem_toArray, List.getElem_cons_zero, List.getElem_cons_succ]
    refine wpAnyH_take (i := 1) (v := ?vb1) rfl (by kernel_rfl) (by kernel_rfl) (by kernel_rfl) (fun _ _ _ h => h) (Or.inl ⟨by rfl, ?hyb1⟩) (by assumption) ?_
    case hyb1 =>
      intro w hSw
      (try dsimp only at hSw)
      go_simp
      try with_reducible rfl
    try simp only [Act.put, List.setIfInBounds_toArray, List.set_cons_zero, List.set_cons_succ, List.getElem_toArray, List.getElem_cons_zero, List.getElem_cons_succ]
    refine wpAnyH_take (i := 2) (v := ?vb2) rfl (by kernel_rfl) (by kernel_rfl) (by kernel_rfl) (fun _ _ _ h => h) (Or.inl ⟨by rfl, ?hyb2⟩) (by assumption) ?_
    case hyb2 =>
      intro w hSw
      (try dsimp only at hSw)
      go_simp
      try with_reducible rfl
    try simp only [Act.put, List.setIfInBounds_toArray, List.set_cons_zero, List.set_cons_succ, List.getElem_toArray, List.getElem_cons_zero, List.getElem_cons_succ]
    refine wpAnyH_take (i := 3) (v := ?vb3) rfl (by kernel_rfl) (by kernel_rfl) (by kernel_rfl) (fun _ _ _ h => h) (Or.inl ⟨by rfl, ?hyb3⟩) (by assumption) ?_
    case hyb3 =>
      intro w hSw
      (try dsimp only at hSw)
      go_simp
      try with_reducible rfl
    try simp only [Act.put, List.setIfInBounds_toArray, List.set_cons_zero, List.set_cons_succ, List.getElem_toArray, List.getElem_cons_zero, List.getElem_cons_succ]
    refine wpAnyH_take (i := 4) (v := ?vb4) rfl (by kernel_rfl) (by kernel_rfl) (by kernel_rfl) (fun _ _ _ h => h) (Or.inl ⟨by rfl, ?hyb4⟩) (by assumption) ?_
    case hyb4 =>
      intro w hSw
      (try dsimp only at hSw)
      go_simp
      try with_reducible rfl
    try simp only [Act.put, List.setIfInBounds_toArray, List.set_cons_zero, List.set_cons_succ, List.getElem_toArray, List.getElem_cons_zero, List.getElem_cons_succ]
    refine wpAnyH_take (i := 5) (v := ?vb5) rfl (by kernel_rfl) (by kernel_rfl) (by kernel_rfl) (fun _ _ _ h => h) (Or.inl ⟨by rfl, ?hyb5⟩) (by assumption) ?_
    case hyb5 =>
      intro w hSw
      (try dsimp only at hSw)
      go_simp
      try with_reducible rfl
    try simp only [Act.put, List.setIfInBounds_toArray, List.set_cons_zero, List.set_cons_succ, List.getElem_toArray, List.getElem_cons_zero, List.getElem_cons_succ]
    refine wpAnyH_take (i := 6) (v := ?vb6) rfl (by kernel_rfl) (by kernel_rfl) (by kernel_rfl) (fun _ _ _ h => h) (Or.inl ⟨by rfl, ?hyb6⟩) (by assumption) ?_
    case hyb6 =>
      intro w hSw
      (try dsimp only at hSw)
      go_simp
      try with_reducible rfl
    try simp only [Act.put, List.setIfInBounds_toArray, List.set_cons_zero, List.set_cons_succ, List.getElem_toArray, List.getElem_cons_zero, List.getElem_cons_succ]
    refine wpAnyH_take (i := 7) (v := ?vb7) rfl (by kernel_rfl) (by kernel_rfl) (by kernel_rfl) (fun _ _ _ h => h) (Or.inl ⟨by rfl, ?hyb7⟩) (by assumption) ?_
    case hyb7 =>
      intro w hSw
      (try dsimp only at hSw)
      go_simp
      try with_reducible rfl
    try simp only [Act.put, List.setIfInBounds_toArray, List.set_cons_zero, List.set_cons_succ, List.getElem_toArray, List.getElem_cons_zero, List.getElem_cons_succ]
    refine wpAnyH_take (i := 8) (v := ?vb8) rfl (by kernel_rfl) (by kernel_rfl) (by kernel_rfl) (fun _ _ _ h => h) (Or.inl ⟨by rfl, ?hyb8⟩) (by assumption) ?_
    case hyb8 =>
      intro w hSw
      (try dsimp only at hSw)
      go_simp
      try with_reducible rfl
    try simp only [Act.put, List.setIfInBounds_toArray, List.set_cons_zero, List.set_cons_succ, List.getElem_toArray, List.getElem_cons_zero, List.getElem_cons_succ]
    refine wpAnyH_take (i := 9) (v := undef) rfl (by kernel_rfl) (by kernel_rfl) (by kernel_rfl) (fun _ _ _ h => h) (Or.inr ⟨by rfl, rfl⟩) (by assumption) ?_
    try simp only [Act.put, List.setIfInBounds_toArray, List.set_cons_zero, List.set_cons_succ, List.getElem_toArray, List.getElem_cons_zero, List.getElem_cons_succ]
    refine wpAnyH_take (i := 10) (v := undef) rfl (by kernel_rfl) (by kernel_rfl) (by kernel_rfl) (fun _ _ _ h => h) (Or.inr ⟨by rfl, rfl⟩) (by assumption) ?_
    try simp only [Act.put, List.setIfInBounds_toArray, List.set_cons_zero, List.set_cons_succ, List.getElem_toArray, List.getElem_cons_zero, List.getElem_cons_succ]
    refine wpAnyH_take (i := 11) (v := undef) rfl (by kernel_rfl) (by kernel_rfl) (by kernel_rfl) (fun _ _ _ h => h) (Or.inr ⟨by rfl, rfl⟩) (by assumption) ?_
    try simp only [Act.put, List.setIfInBounds_toArray, List.set_cons_zero, List.set_cons_succ, List.getElem_toArray, List.getElem_cons_zero, List.getElem_cons_succ]
    refine wpAnyH_take (i := 12) (v := ?vb12) rfl (by kernel_rfl) (by kernel_rfl) (by kernel_rfl) (fun _ _ _ h => h) (Or.inl ⟨by rfl, ?hyb12⟩) (by assumption) ?_
    case hyb12 =>
      intro w hSw
      (try dsimp only at hSw)
      go_simp
      try with_reducible rfl
    try simp only [Act.put, List.setIfInBounds_toArray, List.set_cons_zero, List.set_cons_succ, List.getElem_toArray, List.getElem_cons_zero, List.getElem_cons_succ]
    refine wpAnyH_take (i := 13) (v := ?vb13) rfl (by kernel_rfl) (by kernel_rfl) (by kernel_rfl) (fun _ _ _ h => h) (Or.inl ⟨by rfl, ?hyb13⟩) (by assumption) ?_
    case hyb13 =>
      intro w hSw
      (try dsimp only at hSw)
      go_simp
      try with_reducible rfl
    try simp only [Act.put, List.setIfInBounds_toArray, List.set_cons_zero, List.set_cons_succ, List.getElem_toArray, List.getElem_cons_zero, List.getElem_cons_succ]
    refine wpAnyH_take (i := 14) (v := undef) rfl (by kernel_rfl) (by kernel_rfl) (by kernel_rfl) (fun _ _ _ h => h) (Or.inr ⟨by rfl, rfl⟩) (by assumption) ?_
    try simp only [Act.put, List.setIfInBounds_toArray, List.set_cons_zero, List.set_cons_succ, List.getElem_toArray, List.getElem_cons_zero, List.getElem_cons_succ]
    refine wpAnyH_take (i := 15) (v := undef) rfl (by kernel_rfl) (by kernel_rfl) (by kernel_rfl) (fun _ _ _ h => h) (Or.inr ⟨by rfl, rfl⟩) (by assumption) ?_
    try simp only [Act.put, List.setIfInBounds_toArray, List.set_cons_zero, List.set_cons_succ, List.getElem_toArray, List.getElem_cons_zero, List.getElem_cons_succ]
    refine wpAnyH_take (i := 16) (v := undef) rfl (by kernel_rfl) (by kernel_rfl) (by kernel_rfl) (fun _ _ _ h => h) (Or.inr ⟨by rfl, rfl⟩) (by assumption) ?_
    try simp only [Act.put, List.setIfInBounds_toArray, List.set_cons_zero, List.set_cons_succ, List.getElem_toArray, List.getElem_cons_zero, List.getElem_cons_succ]
    refine wpAnyH_take (i := 17) (v := undef) rfl (by kernel_rfl) (by kernel_rfl) (by kernel_rfl) (fun _ _ _ h => h) (Or.inr ⟨by rfl, rfl⟩) (by assumption) ?_
    try simp only [Act.put, List.setIfInBounds_toArray, List.set_cons_zero, List.set_cons_succ, List.getElem_toArray, List.getElem_cons_zero, List.getElem_cons_succ]
    refine wpAnyH_take (i := 18) (v := undef) rfl (by kernel_rfl) (by kernel_rfl) (by kernel_rfl) (fun _ _ _ h => h) (Or.inr ⟨by rfl, rfl⟩) (by assumption) ?_
    try simp only [Act.put, List.setIfInBounds_toArray, List.set_cons_zero, List.set_cons_succ, List.getElem_toArray, List.getElem_cons_zero, List.getElem_cons_succ]
    refine wpAnyH_take (i := 19) (v := undef) rfl (by kernel_rfl) (by kernel_rfl) (by kernel_rfl) (fun _ _ _ h => h) (Or.inr ⟨by rfl, rfl⟩) (by assumption) ?_
    try simp only [Act.put, List.setIfInBounds_toArray, List.set_cons_zero, List.set_cons_succ, List.getElem_toArray, List.getElem_cons_zero, List.getElem_cons_succ]
    refine wpAnyH_take (i := 20) (v := undef) rfl (by kernel_rfl) (by kernel_rfl) (by kernel_rfl) (fun _ _ _ h => h) (Or.inr ⟨by rfl, rfl⟩) (by assumption) ?_
    try simp only [Act.put, List.setIfInBounds_toArray, List.set_cons_zero, List.set_cons_succ, List.getElem_toArray, List.getElem_cons_zero, List.getElem_cons_succ]
    refine wpAnyH_take (i := 21) (v := undef) rfl (by kernel_rfl) (by kernel_rfl) (by kernel_rfl) (fun _ _ _ h => h) (Or.inr ⟨by rfl, rfl⟩) (by assumption) ?_
    try simp only [Act.put, List.setIfInBounds_toArray, List.set_cons_zero, List.set_cons_succ, List.getElem_toArray, List.getElem_cons_zero, List.getElem_cons_succ]
    refine wpAnyH_take (i := 22) (v := ?vb22) rfl (by kernel_rfl) (by kernel_rfl) (by kernel_rfl) (fun _ _ _ h => h) (Or.inl ⟨by rfl, ?hyb22⟩) (by assumption) ?_
    case hyb22 =>
      intro w hSw
      (try dsimp only at hSw)
      go_simp
      try with_reducible rfl
    try simp only [Act.put, List.setIfInBounds_toArray, List.set_cons_zero, List.set_cons_succ, List.getElem_toArray, List.getElem_cons_zero, List.getElem_cons_succ]
    refine wpAnyH_take (i := 23) (v := ?vb23) rfl (by kernel_rfl) (by kernel_rfl) (by kernel_rfl) (fun _ _ _ h => h) (Or.inl ⟨by rfl, ?hyb23⟩) (by assumption) ?_
    case hyb23 =>
      intro w hSw
      (try dsimp only at hSw)
      go_simp
      try with_reducible rfl
    try simp only [Act.put, List.setIfInBounds_toArray, List.set_cons_zero, List.set_cons_succ, List.getElem_toArray, List.getElem_cons_zero, List.getElem_cons_succ]
    refine wpAnyH_take (i := 24) (v := undef) rfl (by kernel_rfl) (by kernel_rfl) (by kernel_rfl) (fun _ _ _ h => h) (Or.inr ⟨by rfl, rfl⟩) (by assumption) ?_
    try simp only [Act.put, List.setIfInBounds_toArray, List.set_cons_zero, List.set_cons_succ, List.getElem_toArray, List.getElem_cons_zero, List.getElem_cons_succ]
    refine wpAnyH_take (i := 25) (v := undef) rfl (by kernel_rfl) (by kernel_rfl) (by kernel_rfl) (fun _ _ _ h => h) (Or.inr ⟨by rfl, rfl⟩) (by assumption) ?_
    try simp only [Act.put, List.setIfInBounds_toArray, List.set_cons_zero, List.set_cons_succ, List.getElem_toArray, List.getElem_cons_zero, List.getElem_cons_succ]
    refine wpAnyH_take (i := 26) (v := undef) rfl (by kernel_rfl) (by kernel_rfl) (by kernel_rfl) (fun _ _ _ h => h) (Or.inr ⟨by rfl, rfl⟩) (by assumption) ?_
    try simp only [Act.put, List.setIfInBounds_toArray, List.set_cons_zero, List.set_cons_succ, List.getElem_toArray, List.getElem_cons_zero, List.getElem_cons_succ]
    refine wpAnyH_take (i := 27) (v := ?vb27) rfl (by kernel_rfl) (by kernel_rfl) (by kernel_rfl) (fun _ _ _ h => h) (Or.inl ⟨by rfl, ?hyb27⟩) (by assumption) ?_
    case hyb27 =>
      intro w hSw
      (try dsimp only at hSw)
      go_simp
      try with_reducible rfl
    try simp only [Act.put, List.setIfInBounds_toArray, List.set_cons_zero, List.set_cons_succ, List.getElem_toArray, List.getElem_cons_zero, List.getElem_cons_succ]
    refine wpAnyH_done (by kernel_rfl) ?_ _
    have HB2 : Hid (_) := (HKu.out.block _ (lt_of_heap HB.out.2.2) (by simp)).trans HB.out.2.2
    have HK9 : Hid (Kept [] w u0) := HK.out.1.trans HKu.out (by simp)
    clear hHeld
    have g0 : u0.cell? ⟨X + 1 + 1, 0, none⟩ = some (.int .i64 0) := cellB HB2.out
    have g1 : u0.cell? ⟨X + 1 + 1, 1, none⟩ = some (.int .i64 0) := cellB HB2.out
    have z0 := frozen_of HB2.out 0
    have z1 := frozen_of HB2.out 1
    go_wp2_with fail
    (try simp only [Exit.inBlock, Exit.then])
    refine bodyPost_ret (results_ct rfl _ _ (X + 1 + 1) 35 #[.int .i64 0, .int .i64 0] (0, 0) _ (.int .i64 1700) rfl rfl (block_set (block_set HB2.out 0 _) 1 _) Try.underlying35 rfl (by kernel_rfl)) rfl ?_
    exact ⟨rfl, (HK9.out.setCell (Or.inr (by have := HK.out.2; show _ ≤ X + 1 + 1; omega)) _).setCell (Or.inr (by have := HK.out.2; show _ ≤ X + 1 + 1; omega)) _⟩
  have d2 : decide (16 < kind) = false := decide_eq_false a2
  by_cases a3 : core < 0
  · have d3 : decide (core < 0) = true := decide_eq_true a3
    go_enter Try.func12, Try.ntmps12
    go_upto_region 1 with fail
    rw [HU.out.1, HU.out.2]
    clear HU
    refine wp_region_held_drew (S := fun w' => w'.cell? ⟨X, 0, none⟩ = some (.int .i64 kind) ∧ w'.cell? ⟨X, 1, none⟩ = some (.int .i64 core) ∧ w'.cell? ⟨q, 0, none⟩ = some (.slice (some ⟨gc, 0, none⟩) n n) ∧ w'.cell? ⟨X + 1, 0, none⟩ = some (.int .i64 sa) ∧ w'.cell? ⟨X + 1, 1, none⟩ = some (.int .i64 sk)) (by kernel_rfl) ?_ (fun hHeld => ?_)
    · exact HS1.out
    obtain ⟨u0, hu0⟩ : ∃ u, U.drew = u := ⟨_, rfl⟩
    have HKu : Hid (Kept [] U u0) := by rw [← hu0]; exact (Kept.refl [] U).drew
    rw [hu0] at hHeld ⊢
    clear hu0
    refine wpAnyH_take (i := 0) (v := ?vc0) rfl (by kernel_rfl) (by kernel_rfl) (by kernel_rfl) (fun _ _ _ h => h) (Or.inl ⟨by rfl, ?hyc0⟩) (by assumption) ?_
    case hyc0 =>
      intro w hSw
      (try dsimp only at hSw)
      go_simp
      try with_reducible rfl
    try simp only [Act.put, List.setIfInBounds_toArray, List.set_cons_zero, List.set_cons_succ, List.getElem_toArray, List.getElem_cons_zero, List.getElem_cons_succ]
    refine wpAnyH_take (i := 1) (v := ?vc1) rfl (by kernel_rfl) (by kernel_rfl) (by kernel_rfl) (fun _ _ _ h => h) (Or.inl ⟨by rfl, ?hyc1⟩) (by assumption) ?_
    case hyc1 =>
      intro w hSw
      (try dsimp only at hSw)
      go_simp
      try with_reducible rfl
    try simp only [Act.put, List.setIfInBounds_toArray, List.set_cons_zero, List.set_cons_succ, List.getElem_toArray, List.getElem_cons_zero, List.getElem_cons_succ]
    refine wpAnyH_take (i := 2) (v := ?vc2) rfl (by kernel_rfl) (by kernel_rfl) (by kernel_rfl) (fun _ _ _ h => h) (Or.inl ⟨by rfl, ?hyc2⟩) (by assumption) ?_
    case hyc2 =>
      intro w hSw
      (try dsimp only at hSw)
      go_simp
      try with_reducible rfl
    try simp only [Act.put, List.setIfInBounds_toArray, List.set_cons_zero, List.set_cons_succ, List.getElem_toArray, List.getElem_cons_zero, List.getElem_cons_succ]
    refine wpAnyH_take (i := 3) (v := ?vc3) rfl (by kernel_rfl) (by kernel_rfl) (by kernel_rfl) (fun _ _ _ h => h) (Or.inl ⟨by rfl, ?hyc3⟩) (by assumption) ?_
    case hyc3 =>
      intro w hSw
      (try dsimp only at hSw)
      go_simp
      try with_reducible rfl
    try simp only [Act.put, List.setIfInBounds_toArray, List.set_cons_zero, List.set_cons_succ, List.getElem_toArray, List.getElem_cons_zero, List.getElem_cons_succ]
    refine wpAnyH_take (i := 4) (v := ?vc4) rfl (by kernel_rfl) (by kernel_rfl) (by kernel_rfl) (fun _ _ _ h => h) (Or.inl ⟨by rfl, ?hyc4⟩) (by assumption) ?_
    case hyc4 =>
      intro w hSw
      (try dsimp only at hSw)
      go_simp
      try with_reducible rfl
    try simp only [Act.put, List.setIfInBounds_toArray, List.set_cons_zero, List.set_cons_succ, List.getElem_toArray, List.getElem_cons_zero, List.getElem_cons_succ]
    refine wpAnyH_take (i := 5) (v := ?vc5) rfl (by kernel_rfl) (by kernel_rfl) (by kernel_rfl) (fun _ _ _ h => h) (Or.inl ⟨by rfl, ?hyc5⟩) (by assumption) ?_
    case hyc5 =>
      intro w hSw
      (try dsimp only at hSw)
      go_simp
      try with_reducible rfl
    try simp only [Act.put, List.setIfInBounds_toArray, List.set_cons_zero, List.set_cons_succ, List.getElem_toArray, List.getElem_cons_zero, List.getElem_cons_succ]
    refine wpAnyH_take (i := 6) (v := ?vc6) rfl (by kernel_rfl) (by kernel_rfl) (by kernel_rfl) (fun _ _ _ h => h) (Or.inl ⟨by rfl, ?hyc6⟩) (by assumption) ?_
    case hyc6 =>
      intro w hSw
      (try dsimp only at hSw)
      go_simp
      try with_reducible rfl
    try simp only [Act.put, List.setIfInBounds_toArray, List.set_cons_zero, List.set_cons_succ, List.getElem_toArray, List.getElem_cons_zero, List.getElem_cons_succ]
    refine wpAnyH_take (i := 7) (v := ?vc7) rfl (by kernel_rfl) (by kernel_rfl) (by kernel_rfl) (fun _ _ _ h => h) (Or.inl ⟨by rfl, ?hyc7⟩) (by assumption) ?_
    case hyc7 =>
      intro w hSw
      (try dsimp only at hSw)
      go_simp
      try with_reducible rfl
    try simp only [Act.put, List.setIfInBounds_toArray, List.set_cons_zero, List.set_cons_succ, List.getElem_toArray, List.getElem_cons_zero, List.getElem_cons_succ]
    refine wpAnyH_take (i := 8) (v := ?vc8) rfl (by kernel_rfl) (by kernel_rfl) (by kernel_rfl) (fun _ _ _ h => h) (Or.inl ⟨by rfl, ?hyc8⟩) (by assumption) ?_
    case hyc8 =>
      intro w hSw
      (try dsimp only at hSw)
      go_simp
      try with_reducible rfl
    try simp only [Act.put, List.setIfInBounds_toArray, List.set_cons_zero, List.set_cons_succ, List.getElem_toArray, List.getElem_cons_zero, List.getElem_cons_succ]
    refine wpAnyH_take (i := 9) (v := ?vc9) rfl (by kernel_rfl) (by kernel_rfl) (by kernel_rfl) (fun _ _ _ h => h) (Or.inl ⟨by rfl, ?hyc9⟩) (by assumption) ?_
    case hyc9 =>
      intro w hSw
      (try dsimp only at hSw)
      go_simp
      try with_reducible rfl
    try simp only [Act.put, List.setIfInBounds_toArray, List.set_cons_zero, List.set_cons_succ, List.getElem_toArray, List.getElem_cons_zero, List.getElem_cons_succ]
    refine wpAnyH_take (i := 10) (v := ?vc10) rfl (by kernel_rfl) (by kernel_rfl) (by kernel_rfl) (fun _ _ _ h => h) (Or.inl ⟨by rfl, ?hyc10⟩) (by assumption) ?_
    case hyc10 =>
      intro w hSw
      (try dsimp only at hSw)
      go_simp
      try with_reducible rfl
    try simp only [Act.put, List.setIfInBounds_toArray, List.set_cons_zero, List.set_cons_succ, List.getElem_toArray, List.getElem_cons_zero, List.getElem_cons_succ]
    refine wpAnyH_take (i := 11) (v := ?vc11) rfl (by kernel_rfl) (by kernel_rfl) (by kernel_rfl) (fun _ _ _ h => h) (Or.inl ⟨by rfl, ?hyc11⟩) (by assumption) ?_
    case hyc11 =>
      intro w hSw
      (try dsimp only at hSw)
      go_simp
      try with_reducible rfl
    try simp only [Act.put, List.setIfInBounds_toArray, List.set_cons_zero, List.set_cons_succ, List.getElem_toArray, List.getElem_cons_zero, List.getElem_cons_succ]
    refine wpAnyH_take (i := 12) (v := ?vc12) rfl (by kernel_rfl) (by kernel_rfl) (by kernel_rfl) (fun _ _ _ h => h) (Or.inl ⟨by rfl, ?hyc12⟩) (by assumption) ?_
    case hyc12 =>
      intro w hSw
      (try dsimp only at hSw)
      go_simp
      try with_reducible rfl
    try simp only [Act.put, List.setIfInBounds_toArray, List.set_cons_zero, List.set_cons_succ, List.getElem_toArray, List.getElem_cons_zero, List.getElem_cons_succ]
    refine wpAnyH_take (i := 13) (v := ?vc13) rfl (by kernel_rfl) (by kernel_rfl) (by kernel_rfl) (fun _ _ _ h => h) (Or.inl ⟨by rfl, ?hyc13⟩) (by assumption) ?_
    case hyc13 =>
      intro w hSw
      (try dsimp only at hSw)
      go_simp
      try with_reducible rfl
    try simp only [Act.put, List.setIfInBounds_toArray, List.set_cons_zero, List.set_cons_succ, List.getElem_toArray, List.getElem_cons_zero, List.getElem_cons_succ]
    refine wpAnyH_take (i := 14) (v := undef) rfl (by kernel_rfl) (by kernel_rfl) (by kernel_rfl) (fun _ _ _ h => h) (Or.inr ⟨by rfl, rfl⟩) (by assumption) ?_
    try simp only [Act.put, List.setIfInBounds_toArray, List.set_cons_zero, List.set_cons_succ, List.getElem_toArray, List.getElem_cons_zero, List.getElem_cons_succ]
    refine wpAnyH_take (i := 15) (v := undef) rfl (by kernel_rfl) (by kernel_rfl) (by kernel_rfl) (fun _ _ _ h => h) (Or.inr ⟨by rfl, rfl⟩) (by assumption) ?_
    try simp only [Act.put, List.setIfInBounds_toArray, List.set_cons_zero, List.set_cons_succ, List.getElem_toArray, List.getElem_cons_zero, List.getElem_cons_succ]
    refine wpAnyH_take (i := 16) (v := undef) rfl (by kernel_rfl) (by kernel_rfl) (by kernel_rfl) (fun _ _ _ h => h) (Or.inr ⟨by rfl, rfl⟩) (by assumption) ?_
    try simp only [Act.put, List.setIfInBounds_toArray, List.set_cons_zero, List.set_cons_succ, List.getElem_toArray, List.getElem_cons_zero, List.getElem_cons_succ]
    refine wpAnyH_take (i := 17) (v := undef) rfl (by kernel_rfl) (by kernel_rfl) (by kernel_rfl) (fun _ _ _ h => h) (Or.inr ⟨by rfl, rfl⟩) (by assumption) ?_
    try simp only [Act.put, List.setIfInBounds_toArray, List.set_cons_zero, List.set_cons_succ, List.getElem_toArray, List.getElem_cons_zero, List.getElem_cons_succ]
    refine wpAnyH_take (i := 18) (v := undef) rfl (by kernel_rfl) (by kernel_rfl) (by kernel_rfl) (fun _ _ _ h => h) (Or.inr ⟨by rfl, rfl⟩) (by assumption) ?_
    try simp only [Act.put, List.setIfInBounds_toArray, List.set_cons_zero, List.set_cons_succ, List.getElem_toArray, List.getElem_cons_zero, List.getElem_cons_succ]
    refine wpAnyH_take (i := 19) (v := undef) rfl (by kernel_rfl) (by kernel_rfl) (by kernel_rfl) (fun _ _ _ h => h) (Or.inr ⟨by rfl, rfl⟩) (by assumption) ?_
    try simp only [Act.put, List.setIfInBounds_toArray, List.set_cons_zero, List.set_cons_succ, List.getElem_toArray, List.getElem_cons_zero, List.getElem_cons_succ]
    refine wpAnyH_take (i := 20) (v := undef) rfl (by kernel_rfl) (by kernel_rfl) (by kernel_rfl) (fun _ _ _ h => h) (Or.inr ⟨by rfl, rfl⟩) (by assumption) ?_
    try simp only [Act.put, List.setIfInBounds_toArray, List.set_cons_zero, List.set_cons_succ, List.getElem_toArray, List.getElem_cons_zero, List.getElem_cons_succ]
    refine wpAnyH_take (i := 21) (v := undef) rfl (by kernel_rfl) (by kernel_rfl) (by kernel_rfl) (fun _ _ _ h => h) (Or.inr ⟨by rfl, rfl⟩) (by assumption) ?_
    try simp only [Act.put, List.setIfInBounds_toArray, List.set_cons_zero, List.set_cons_succ, List.getElem_toArray, List.getElem_cons_zero, List.getElem_cons_succ]
    refine wpAnyH_take (i := 22) (v := ?vc22) rfl (by kernel_rfl) (by kernel_rfl) (by kernel_rfl) (fun _ _ _ h => h) (Or.inl ⟨by rfl, ?hyc22⟩) (by assumption) ?_
    case hyc22 =>
      intro w hSw
      (try dsimp only at hSw)
      go_simp
      try with_reducible rfl
    try simp only [Act.put, List.setIfInBounds_toArray, List.set_cons_zero, List.set_cons_succ, List.getElem_toArray, List.getElem_cons_zero, List.getElem_cons_succ]
    refine wpAnyH_take (i := 23) (v := ?vc23) rfl (by kernel_rfl) (by kernel_rfl) (by kernel_rfl) (fun _ _ _ h => h) (Or.inl ⟨by rfl, ?hyc23⟩) (by assumption) ?_
    case hyc23 =>
      intro w hSw
      (try dsimp only at hSw)
      go_simp
      try with_reducible rfl
    try simp only [Act.put, List.setIfInBounds_toArray, List.set_cons_zero, List.set_cons_succ, List.getElem_toArray, List.getElem_cons_zero, List.getElem_cons_succ]
    refine wpAnyH_take (i := 24) (v := undef) rfl (by kernel_rfl) (by kernel_rfl) (by kernel_rfl) (fun _ _ _ h => h) (Or.inr ⟨by rfl, rfl⟩) (by assumption) ?_
    try simp only [Act.put, List.setIfInBounds_toArray, List.set_cons_zero, List.set_cons_succ, List.getElem_toArray, List.getElem_cons_zero, List.getElem_cons_succ]
    refine wpAnyH_take (i := 25) (v := undef) rfl (by kernel_rfl) (by kernel_rfl) (by kernel_rfl) (fun _ _ _ h => h) (Or.inr ⟨by rfl, rfl⟩) (by assumption) ?_
    try simp only [Act.put, List.setIfInBounds_toArray, List.set_cons_zero, List.set_cons_succ, List.getElem_toArray, List.getElem_cons_zero, List.getElem_cons_succ]
    refine wpAnyH_take (i := 26) (v := undef) rfl (by kernel_rfl) (by kernel_rfl) (by kernel_rfl) (fun _ _ _ h => h) (Or.inr ⟨by rfl, rfl⟩) (by assumption) ?_
    try simp only [Act.put, List.setIfInBounds_toArray, List.set_cons_zero, List.set_cons_succ, List.getElem_toArray, List.getElem_cons_zero, List.getElem_cons_succ]
    refine wpAnyH_take (i := 27) (v := ?vc27) rfl (by kernel_rfl) (by kernel_rfl) (by kernel_rfl) (fun _ _ _ h => h) (Or.inl ⟨by rfl, ?hyc27⟩) (by assumption) ?_
    case hyc27 =>
      intro w hSw
      (try dsimp only at hSw)
      go_simp
      try with_reducible rfl
    try simp only [Act.put, List.setIfInBounds_toArray, List.set_cons_zero, List.set_cons_succ, List.getElem_toArray, List.getElem_cons_zero, List.getElem_cons_succ]
    refine wpAnyH_done (by kernel_rfl) ?_ _
    have HB2 : Hid (_) := (HKu.out.block _ (lt_of_heap HB.out.2.2) (by simp)).trans HB.out.2.2
    have HK9 : Hid (Kept [] w u0) := HK.out.1.trans HKu.out (by simp)
    clear hHeld
    have g0 : u0.cell? ⟨X + 1 + 1, 0, none⟩ = some (.int .i64 0) := cellB HB2.out
    have g1 : u0.cell? ⟨X + 1 + 1, 1, none⟩ = some (.int .i64 0) := cellB HB2.out
    have z0 := frozen_of HB2.out 0
    have z1 := frozen_of HB2.out 1
    go_wp2_with fail
    (try simp only [Exit.inBlock, Exit.then])
    refine bodyPost_ret (results_ct rfl _ _ (X + 1 + 1) 35 #[.int .i64 0, .int .i64 0] (0, 0) _ (.int .i64 1700) rfl rfl (block_set (block_set HB2.out 0 _) 1 _) Try.underlying35 rfl (by kernel_rfl)) rfl ?_
    exact ⟨rfl, (HK9.out.setCell (Or.inr (by have := HK.out.2; show _ ≤ X + 1 + 1; omega)) _).setCell (Or.inr (by have := HK.out.2; show _ ≤ X + 1 + 1; omega)) _⟩
  have d3 : decide (core < 0) = false := decide_eq_false a3
  by_cases a4 : (n : Int) ≤ core
  · have d4 : decide ((n : Int) ≤ core) = true := decide_eq_true a4
    go_enter Try.func12, Try.ntmps12
    go_upto_region 1 with fail
    rw [HU.out.1, HU.out.2]
    clear HU
    refine wp_region_held_drew (S := fun w' => w'.cell? ⟨X, 0, none⟩ = some (.int .i64 kind) ∧ w'.cell? ⟨X, 1, none⟩ = some (.int .i64 core) ∧ w'.cell? ⟨q, 0, none⟩ = some (.slice (some ⟨gc, 0, none⟩) n n) ∧ w'.cell? ⟨X + 1, 0, none⟩ = some (.int .i64 sa) ∧ w'.cell? ⟨X + 1, 1, none⟩ = some (.int .i64 sk)) (by kernel_rfl) ?_ (fun hHeld => ?_)
    · exact HS1.out
    obtain ⟨u0, hu0⟩ : ∃ u, U.drew = u := ⟨_, rfl⟩
    have HKu : Hid (Kept [] U u0) := by rw [← hu0]; exact (Kept.refl [] U).drew
    rw [hu0] at hHeld ⊢
    clear hu0
    refine wpAnyH_take (i := 0) (v := ?vd0) rfl (by kernel_rfl) (by kernel_rfl) (by kernel_rfl) (fun _ _ _ h => h) (Or.inl ⟨by rfl, ?hyd0⟩) (by assumption) ?_
    case hyd0 =>
      intro w hSw
      (try dsimp only at hSw)
      go_simp
      try with_reducible rfl
    try simp only [Act.put, List.setIfInBounds_toArray, List.set_cons_zero, List.set_cons_succ, List.getElem_toArray, List.getElem_cons_zero, List.getElem_cons_succ]
    refine wpAnyH_take (i := 1) (v := ?vd1) rfl (by kernel_rfl) (by kernel_rfl) (by kernel_rfl) (fun _ _ _ h => h) (Or.inl ⟨by rfl, ?hyd1⟩) (by assumption) ?_
    case hyd1 =>
      intro w hSw
      (try dsimp only at hSw)
      go_simp
      try with_reducible rfl
    try simp only [Act.put, List.setIfInBounds_toArray, List.set_cons_zero, List.set_cons_succ, List.getElem_toArray, List.getElem_cons_zero, List.getElem_cons_succ]
    refine wpAnyH_take (i := 2) (v := ?vd2) rfl (by kernel_rfl) (by kernel_rfl) (by kernel_rfl) (fun _ _ _ h => h) (Or.inl ⟨by rfl, ?hyd2⟩) (by assumption) ?_
    case hyd2 =>
      intro w hSw
      (try dsimp only at hSw)
      go_simp
      try with_reducible rfl
    try simp only [Act.put, List.setIfInBounds_toArray, List.set_cons_zero, List.set_cons_succ, List.getElem_toArray, List.getElem_cons_zero, List.getElem_cons_succ]
    refine wpAnyH_take (i := 3) (v := ?vd3) rfl (by kernel_rfl) (by kernel_rfl) (by kernel_rfl) (fun _ _ _ h => h) (Or.inl ⟨by rfl, ?hyd3⟩) (by assumption) ?_
    case hyd3 =>
      intro w hSw
      (try dsimp only at hSw)
      go_simp
      try with_reducible rfl
    try simp only [Act.put, List.setIfInBounds_toArray, List.set_cons_zero, List.set_cons_succ, List.getElem_toArray, List.getElem_cons_zero, List.getElem_cons_succ]
    refine wpAnyH_take (i := 4) (v := ?vd4) rfl (by kernel_rfl) (by kernel_rfl) (by kernel_rfl) (fun _ _ _ h => h) (Or.inl ⟨by rfl, ?hyd4⟩) (by assumption) ?_
    case hyd4 =>
      intro w hSw
      (try dsimp only at hSw)
      go_simp
      try with_reducible rfl
    try simp only [Act.put, List.setIfInBounds_toArray, List.set_cons_zero, List.set_cons_succ, List.getElem_toArray, List.getElem_cons_zero, List.getElem_cons_succ]
    refine wpAnyH_take (i := 5) (v := ?vd5) rfl (by kernel_rfl) (by kernel_rfl) (by kernel_rfl) (fun _ _ _ h => h) (Or.inl ⟨by rfl, ?hyd5⟩) (by assumption) ?_
    case hyd5 =>
      intro w hSw
      (try dsimp only at hSw)
      go_simp
      try with_reducible rfl
    try simp only [Act.put, List.setIfInBounds_toArray, List.set_cons_zero, List.set_cons_succ, List.getElem_toArray, List.getElem_cons_zero, List.getElem_cons_succ]
    refine wpAnyH_take (i := 6) (v := ?vd6) rfl (by kernel_rfl) (by kernel_rfl) (by kernel_rfl) (fun _ _ _ h => h) (Or.inl ⟨by rfl, ?hyd6⟩) (by assumption) ?_
    case hyd6 =>
      intro w hSw
      (try dsimp only at hSw)
      go_simp
      try with_reducible rfl
    try simp only [Act.put, List.setIfInBounds_toArray, List.set_cons_zero, List.set_cons_succ, List.getElem_toArray, List.getElem_cons_zero, List.getElem_cons_succ]
    refine wpAnyH_take (i := 7) (v := ?vd7) rfl (by kernel_rfl) (by kernel_rfl) (by kernel_rfl) (fun _ _ _ h => h) (Or.inl ⟨by rfl, ?hyd7⟩) (by assumption) ?_
    case hyd7 =>
      intro w hSw
      (try dsimp only at hSw)
      go_simp
      try with_reducible rfl
    try simp only [Act.put, List.setIfInBounds_toArray, List.set_cons_zero, List.set_cons_succ, List.getElem_toArray, List.getElem_cons_zero, List.getElem_cons_succ]
    refine wpAnyH_take (i := 8) (v := ?vd8) rfl (by kernel_rfl) (by kernel_rfl) (by kernel_rfl) (fun _ _ _ h => h) (Or.inl ⟨by rfl, ?hyd8⟩) (by assumption) ?_
    case hyd8 =>
      intro w hSw
      (try dsimp only at hSw)
      go_simp
      try with_reducible rfl
    try simp only [Act.put, List.setIfInBounds_toArray, List.set_cons_zero, List.set_cons_succ, List.getElem_toArray, List.getElem_cons_zero, List.getElem_cons_succ]
    refine wpAnyH_take (i := 9) (v := ?vd9) rfl (by kernel_rfl) (by kernel_rfl) (by kernel_rfl) (fun _ _ _ h => h) (Or.inl ⟨by rfl, ?hyd9⟩) (by assumption) ?_
    case hyd9 =>
      intro w hSw
      (try dsimp only at hSw)
      go_simp
      try with_reducible rfl
    try simp only [Act.put, List.setIfInBounds_toArray, List.set_cons_zero, List.set_cons_succ, List.getElem_toArray, List.getElem_cons_zero, List.getElem_cons_succ]
    refine wpAnyH_take (i := 10) (v := ?vd10) rfl (by kernel_rfl) (by kernel_rfl) (by kernel_rfl) (fun _ _ _ h => h) (Or.inl ⟨by rfl, ?hyd10⟩) (by assumption) ?_
    case hyd10 =>
      intro w hSw
      (try dsimp only at hSw)
      go_simp
      try with_reducible rfl
    try simp only [Act.put, List.setIfInBounds_toArray, List.set_cons_zero, List.set_cons_succ, List.getElem_toArray, List.getElem_cons_zero, List.getElem_cons_succ]
    refine wpAnyH_take (i := 11) (v := ?vd11) rfl (by kernel_rfl) (by kernel_rfl) (by kernel_rfl) (fun _ _ _ h => h) (Or.inl ⟨by rfl, ?hyd11⟩) (by assumption) ?_
    case hyd11 =>
      intro w hSw
      (try dsimp only at hSw)
      go_simp
      try with_reducible rfl
    try simp only [Act.put, List.setIfInBounds_toArray, List.set_cons_zero, List.set_cons_succ, List.getElem_toArray, List.getElem_cons_zero, List.getElem_cons_succ]
    refine wpAnyH_take (i := 12) (v := ?vd12) rfl (by kernel_rfl) (by kernel_rfl) (by kernel_rfl) (fun _ _ _ h => h) (Or.inl ⟨by rfl, ?hyd12⟩) (by assumption) ?_
    case hyd12 =>
      intro w hSw
      (try dsimp only at hSw)
      go_simp
      try with_reducible rfl
    try simp only [Act.put, List.setIfInBounds_toArray, List.set_cons_zero, List.set_cons_succ, List.getElem_toArray, List.getElem_cons_zero, List.getElem_cons_succ]
    refine wpAnyH_take (i := 13) (v := ?vd13) rfl (by kernel_rfl) (by kernel_rfl) (by kernel_rfl) (fun _ _ _ h => h) (Or.inl ⟨by rfl, ?hyd13⟩) (by assumption) ?_
    case hyd13 =>
      intro w hSw
      (try dsimp only at hSw)
      go_simp
      try with_reducible rfl
    try simp only [Act.put, List.setIfInBounds_toArray, List.set_cons_zero, List.set_cons_succ, List.getElem_toArray, List.getElem_cons_zero, List.getElem_cons_succ]
    refine wpAnyH_take (i := 14) (v := ?vd14) rfl (by kernel_rfl) (by kernel_rfl) (by kernel_rfl) (fun _ _ _ h => h) (Or.inl ⟨by rfl, ?hyd14⟩) (by assumption) ?_
    case hyd14 =>
      intro w hSw
      (try dsimp only at hSw)
      go_simp
      try with_reducible rfl
    try simp only [Act.put, List.setIfInBounds_toArray, List.set_cons_zero, List.set_cons_succ, List.getElem_toArray, List.getElem_cons_zero, List.getElem_cons_succ]
    refine wpAnyH_take (i := 15) (v := ?vd15) rfl (by kernel_rfl) (by kernel_rfl) (by kernel_rfl) (fun _ _ _ h => h) (Or.inl ⟨by rfl, ?hyd15⟩) (by assumption) ?_
    case hyd15 =>
      intro w hSw
      (try dsimp only at hSw)
      go_simp
      try with_reducible rfl
    try simp only [Act.put, List.setIfInBounds_toArray, List.set_cons_zero, List.set_cons_succ, List.getElem_toArray, List.getElem_cons_zero, List.getElem_cons_succ]
    refine wpAnyH_take (i := 16) (v := ?vd16) rfl (by kernel_rfl) (by kernel_rfl) (by kernel_rfl) (fun _ _ _ h => h) (Or.inl ⟨by rfl, ?hyd16⟩) (by assumption) ?_
    case hyd16 =>
      intro w hSw
      (try dsimp only at hSw)
      go_simp
      try with_reducible rfl
    try simp only [Act.put, List.setIfInBounds_toArray, List.set_cons_zero, List.set_cons_succ, List.getElem_toArray, List.getElem_cons_zero, List.getElem_cons_succ]
    refine wpAnyH_take (i := 17) (v := ?vd17) rfl (by kernel_rfl) (by kernel_rfl) (by kernel_rfl) (fun _ _ _ h => h) (Or.inl ⟨by rfl, ?hyd17⟩) (by assumption) ?_
    case hyd17 =>
      intro w hSw
      (try dsimp only at hSw)
      go_simp
      try with_reducible rfl
    try simp only [Act.put, List.setIfInBounds_toArray, List.set_cons_zero, List.set_cons_succ, List.getElem_toArray, List.getElem_cons_zero, List.getElem_cons_succ]
    refine wpAnyH_take (i := 18) (v := ?vd18) rfl (by kernel_rfl) (by kernel_rfl) (by kernel_rfl) (fun _ _ _ h => h) (Or.inl ⟨by rfl, ?hyd18⟩) (by assumption) ?_
    case hyd18 =>
      intro w hSw
      (try dsimp only at hSw)
      go_simp
      try with_reducible rfl
    try simp only [Act.put, List.setIfInBounds_toArray, List.set_cons_zero, List.set_cons_succ, List.getElem_toArray, List.getElem_cons_zero, List.getElem_cons_succ]
    refine wpAnyH_take (i := 19) (v := ?vd19) rfl (by kernel_rfl) (by kernel_rfl) (by kernel_rfl) (fun _ _ _ h => h) (Or.inl ⟨by rfl, ?hyd19⟩) (by assumption) ?_
    case hyd19 =>
      intro w hSw
      (try dsimp only at hSw)
      go_simp
      try with_reducible rfl
    try simp only [Act.put, List.setIfInBounds_toArray, List.set_cons_zero, List.set_cons_succ, List.getElem_toArray, List.getElem_cons_zero, List.getElem_cons_succ]
    refine wpAnyH_take (i := 20) (v := ?vd20) rfl (by kernel_rfl) (by kernel_rfl) (by kernel_rfl) (fun _ _ _ h => h) (Or.inl ⟨by rfl, ?hyd20⟩) (by assumption) ?_
    case hyd20 =>
      intro w hSw
      (try dsimp only at hSw)
      go_simp
      try with_reducible rfl
    try simp only [Act.put, List.setIfInBounds_toArray, List.set_cons_zero, List.set_cons_succ, List.getElem_toArray, List.getElem_cons_zero, List.getElem_cons_succ]
    refine wpAnyH_take (i := 21) (v := ?vd21) rfl (by kernel_rfl) (by kernel_rfl) (by kernel_rfl) (fun _ _ _ h => h) (Or.inl ⟨by rfl, ?hyd21⟩) (by assumption) ?_
    case hyd21 =>
      intro w hSw
      (try dsimp only at hSw)
      go_simp
      try with_reducible rfl
    try simp only [Act.put, List.setIfInBounds_toArray, List.set_cons_zero, List.set_cons_succ, List.getElem_toArray, List.getElem_cons_zero, List.getElem_cons_succ]
    refine wpAnyH_take (i := 22) (v := ?vd22) rfl (by kernel_rfl) (by kernel_rfl) (by kernel_rfl) (fun _ _ _ h => h) (Or.inl ⟨by rfl, ?hyd22⟩) (by assumption) ?_
    case hyd22 =>
      intro w hSw
      (try dsimp only at hSw)
      go_simp
      try with_reducible rfl
    try simp only [Act.put, List.setIfInBounds_toArray, List.set_cons_zero, List.set_cons_succ, List.getElem_toArray, List.getElem_cons_zero, List.getElem_cons_succ]
    refine wpAnyH_take (i := 23) (v := ?vd23) rfl (by kernel_rfl) (by kernel_rfl) (by kernel_rfl) (fun _ _ _ h => h) (Or.inl ⟨by rfl, ?hyd23⟩) (by assumption) ?_
    case hyd23 =>
      intro w hSw
      (try dsimp only at hSw)
      go_simp
      try with_reducible rfl
    try simp only [Act.put, List.setIfInBounds_toArray, List.set_cons_zero, List.set_cons_succ, List.getElem_toArray, List.getElem_cons_zero, List.getElem_cons_succ]
    refine wpAnyH_take (i := 24) (v := undef) rfl (by kernel_rfl) (by kernel_rfl) (by kernel_rfl) (fun _ _ _ h => h) (Or.inr ⟨by rfl, rfl⟩) (by assumption) ?_
    try simp only [Act.put, List.setIfInBounds_toArray, List.set_cons_zero, List.set_cons_succ, List.getElem_toArray, List.getElem_cons_zero, List.getElem_cons_succ]
    refine wpAnyH_take (i := 25) (v := undef) rfl (by kernel_rfl) (by kernel_rfl) (by kernel_rfl) (fun _ _ _ h => h) (Or.inr ⟨by rfl, rfl⟩) (by assumption) ?_
    try simp only [Act.put, List.setIfInBounds_toArray, List.set_cons_zero, List.set_cons_succ, List.getElem_toArray, List.getElem_cons_zero, List.getElem_cons_succ]
    refine wpAnyH_take (i := 26) (v := undef) rfl (by kernel_rfl) (by kernel_rfl) (by kernel_rfl) (fun _ _ _ h => h) (Or.inr ⟨by rfl, rfl⟩) (by assumption) ?_
    try simp only [Act.put, List.setIfInBounds_toArray, List.set_cons_zero, List.set_cons_succ, List.getElem_toArray, List.getElem_cons_zero, List.getElem_cons_succ]
    refine wpAnyH_take (i := 27) (v := ?vd27) rfl (by kernel_rfl) (by kernel_rfl) (by kernel_rfl) (fun _ _ _ h => h) (Or.inl ⟨by rfl, ?hyd27⟩) (by assumption) ?_
    case hyd27 =>
      intro w hSw
      (try dsimp only at hSw)
      go_simp
      try with_reducible rfl
    try simp only [Act.put, List.setIfInBounds_toArray, List.set_cons_zero, List.set_cons_succ, List.getElem_toArray, List.getElem_cons_zero, List.getElem_cons_succ]
    refine wpAnyH_done (by kernel_rfl) ?_ _
    have HB2 : Hid (_) := (HKu.out.block _ (lt_of_heap HB.out.2.2) (by simp)).trans HB.out.2.2
    have HK9 : Hid (Kept [] w u0) := HK.out.1.trans HKu.out (by simp)
    clear hHeld
    have g0 : u0.cell? ⟨X + 1 + 1, 0, none⟩ = some (.int .i64 0) := cellB HB2.out
    have g1 : u0.cell? ⟨X + 1 + 1, 1, none⟩ = some (.int .i64 0) := cellB HB2.out
    have z0 := frozen_of HB2.out 0
    have z1 := frozen_of HB2.out 1
    go_wp2_with fail
    (try simp only [Exit.inBlock, Exit.then])
    refine bodyPost_ret (results_ct rfl _ _ (X + 1 + 1) 35 #[.int .i64 0, .int .i64 0] (0, 0) _ (.int .i64 1700) rfl rfl (block_set (block_set HB2.out 0 _) 1 _) Try.underlying35 rfl (by kernel_rfl)) rfl ?_
    exact ⟨rfl, (HK9.out.setCell (Or.inr (by have := HK.out.2; show _ ≤ X + 1 + 1; omega)) _).setCell (Or.inr (by have := HK.out.2; show _ ≤ X + 1 + 1; omega)) _⟩
  have d4 : decide ((n : Int) ≤ core) = false := decide_eq_false a4
  have hm3 : mayS sa sk = false := by
    have hb := HBad.out
    have h1 : kindB kind = true := by simp [kindB]; omega
    have h2 : hasB n core = true := by simp [hasB]; omega
    rw [h1, h2] at hb
    simpa using hb
  go_enter Try.func12, Try.ntmps12
  go_upto_region 1 with fail
  rw [HU.out.1, HU.out.2]
  clear HU
  refine wp_region_held_drew (S := fun w' => w'.cell? ⟨X, 0, none⟩ = some (.int .i64 kind) ∧ w'.cell? ⟨X, 1, none⟩ = some (.int .i64 core) ∧ w'.cell? ⟨q, 0, none⟩ = some (.slice (some ⟨gc, 0, none⟩) n n) ∧ w'.cell? ⟨X + 1, 0, none⟩ = some (.int .i64 sa) ∧ w'.cell? ⟨X + 1, 1, none⟩ = some (.int .i64 sk)) (by kernel_rfl) ?_ (fun hHeld => ?_)
  · exact HS1.out
  obtain ⟨u0, hu0⟩ : ∃ u, U.drew = u := ⟨_, rfl⟩
  have HKu : Hid (Kept [] U u0) := by rw [← hu0]; exact (Kept.refl [] U).drew
  rw [hu0] at hHeld ⊢
  clear hu0
  refine wpAnyH_take (i := 0) (v := ?ve0) rfl (by kernel_rfl) (by kernel_rfl) (by kernel_rfl) (fun _ _ _ h => h) (Or.inl ⟨by rfl, ?hye0⟩) (by assumption) ?_
  case hye0 =>
    intro w hSw
    (try dsimp only at hSw)
    go_simp
    try with_reducible rfl
  try simp only [Act.put, List.setIfInBounds_toArray, List.set_cons_zero, List.set_cons_succ, List.getElem_toArray, List.getElem_cons_zero, List.getElem_cons_succ]
  refine wpAnyH_take (i := 1) (v := ?ve1) rfl (by kernel_rfl) (by kernel_rfl) (by kernel_rfl) (fun _ _ _ h => h) (Or.inl ⟨by rfl, ?hye1⟩) (by assumption) ?_
  case hye1 =>
    intro w hSw
    (try dsimp only at hSw)
    go_simp
    try with_reducible rfl
  try simp only [Act.put, List.setIfInBounds_toArray, List.set_cons_zero, List.set_cons_succ, List.getElem_toArray, List.getElem_cons_zero, List.getElem_cons_succ]
  refine wpAnyH_take (i := 2) (v := ?ve2) rfl (by kernel_rfl) (by kernel_rfl) (by kernel_rfl) (fun _ _ _ h => h) (Or.inl ⟨by rfl, ?hye2⟩) (by assumption) ?_
  case hye2 =>
    intro w hSw
    (try dsimp only at hSw)
    go_simp
    try with_reducible rfl
  try simp only [Act.put, List.setIfInBounds_toArray, List.set_cons_zero, List.set_cons_succ, List.getElem_toArray, List.getElem_cons_zero, List.getElem_cons_succ]
  refine wpAnyH_take (i := 3) (v := ?ve3) rfl (by kernel_rfl) (by kernel_rfl) (by kernel_rfl) (fun _ _ _ h => h) (Or.inl ⟨by rfl, ?hye3⟩) (by assumption) ?_
  case hye3 =>
    intro w hSw
    (try dsimp only at hSw)
    go_simp
    try with_reducible rfl
  try simp only [Act.put, List.setIfInBounds_toArray, List.set_cons_zero, List.set_cons_succ, List.getElem_toArray, List.getElem_cons_zero, List.getElem_cons_succ]
  refine wpAnyH_take (i := 4) (v := ?ve4) rfl (by kernel_rfl) (by kernel_rfl) (by kernel_rfl) (fun _ _ _ h => h) (Or.inl ⟨by rfl, ?hye4⟩) (by assumption) ?_
  case hye4 =>
    intro w hSw
    (try dsimp only at hSw)
    go_simp
    try with_reducible rfl
  try simp only [Act.put, List.setIfInBounds_toArray, List.set_cons_zero, List.set_cons_succ, List.getElem_toArray, List.getElem_cons_zero, List.getElem_cons_succ]
  refine wpAnyH_take (i := 5) (v := ?ve5) rfl (by kernel_rfl) (by kernel_rfl) (by kernel_rfl) (fun _ _ _ h => h) (Or.inl ⟨by rfl, ?hye5⟩) (by assumption) ?_
  case hye5 =>
    intro w hSw
    (try dsimp only at hSw)
    go_simp
    try with_reducible rfl
  try simp only [Act.put, List.setIfInBounds_toArray, List.set_cons_zero, List.set_cons_succ, List.getElem_toArray, List.getElem_cons_zero, List.getElem_cons_succ]
  refine wpAnyH_take (i := 6) (v := ?ve6) rfl (by kernel_rfl) (by kernel_rfl) (by kernel_rfl) (fun _ _ _ h => h) (Or.inl ⟨by rfl, ?hye6⟩) (by assumption) ?_
  case hye6 =>
    intro w hSw
    (try dsimp only at hSw)
    go_simp
    try with_reducible rfl
  try simp only [Act.put, List.setIfInBounds_toArray, List.set_cons_zero, List.set_cons_succ, List.getElem_toArray, List.getElem_cons_zero, List.getElem_cons_succ]
  refine wpAnyH_take (i := 7) (v := ?ve7) rfl (by kernel_rfl) (by kernel_rfl) (by kernel_rfl) (fun _ _ _ h => h) (Or.inl ⟨by rfl, ?hye7⟩) (by assumption) ?_
  case hye7 =>
    intro w hSw
    (try dsimp only at hSw)
    go_simp
    try with_reducible rfl
  try simp only [Act.put, List.setIfInBounds_toArray, List.set_cons_zero, List.set_cons_succ, List.getElem_toArray, List.getElem_cons_zero, List.getElem_cons_succ]
  refine wpAnyH_take (i := 8) (v := ?ve8) rfl (by kernel_rfl) (by kernel_rfl) (by kernel_rfl) (fun _ _ _ h => h) (Or.inl ⟨by rfl, ?hye8⟩) (by assumption) ?_
  case hye8 =>
    intro w hSw
    (try dsimp only at hSw)
    go_simp
    try with_reducible rfl
  try simp only [Act.put, List.setIfInBounds_toArray, List.set_cons_zero, List.set_cons_succ, List.getElem_toArray, List.getElem_cons_zero, List.getElem_cons_succ]
  refine wpAnyH_take (i := 9) (v := ?ve9) rfl (by kernel_rfl) (by kernel_rfl) (by kernel_rfl) (fun _ _ _ h => h) (Or.inl ⟨by rfl, ?hye9⟩) (by assumption) ?_
  case hye9 =>
    intro w hSw
    (try dsimp only at hSw)
    go_simp
    try with_reducible rfl
  try simp only [Act.put, List.setIfInBounds_toArray, List.set_cons_zero, List.set_cons_succ, List.getElem_toArray, List.getElem_cons_zero, List.getElem_cons_succ]
  refine wpAnyH_take (i := 10) (v := ?ve10) rfl (by kernel_rfl) (by kernel_rfl) (by kernel_rfl) (fun _ _ _ h => h) (Or.inl ⟨by rfl, ?hye10⟩) (by assumption) ?_
  case hye10 =>
    intro w hSw
    (try dsimp only at hSw)
    go_simp
    try with_reducible rfl
  try simp only [Act.put, List.setIfInBounds_toArray, List.set_cons_zero, List.set_cons_succ, List.getElem_toArray, List.getElem_cons_zero, List.getElem_cons_succ]
  refine wpAnyH_take (i := 11) (v := ?ve11) rfl (by kernel_rfl) (by kernel_rfl) (by kernel_rfl) (fun _ _ _ h => h) (Or.inl ⟨by rfl, ?hye11⟩) (by assumption) ?_
  case hye11 =>
    intro w hSw
    (try dsimp only at hSw)
    go_simp
    try with_reducible rfl
  try simp only [Act.put, List.setIfInBounds_toArray, List.set_cons_zero, List.set_cons_succ, List.getElem_toArray, List.getElem_cons_zero, List.getElem_cons_succ]
  refine wpAnyH_take (i := 12) (v := ?ve12) rfl (by kernel_rfl) (by kernel_rfl) (by kernel_rfl) (fun _ _ _ h => h) (Or.inl ⟨by rfl, ?hye12⟩) (by assumption) ?_
  case hye12 =>
    intro w hSw
    (try dsimp only at hSw)
    go_simp
    try with_reducible rfl
  try simp only [Act.put, List.setIfInBounds_toArray, List.set_cons_zero, List.set_cons_succ, List.getElem_toArray, List.getElem_cons_zero, List.getElem_cons_succ]
  refine wpAnyH_take (i := 13) (v := ?ve13) rfl (by kernel_rfl) (by kernel_rfl) (by kernel_rfl) (fun _ _ _ h => h) (Or.inl ⟨by rfl, ?hye13⟩) (by assumption) ?_
  case hye13 =>
    intro w hSw
    (try dsimp only at hSw)
    go_simp
    try with_reducible rfl
  try simp only [Act.put, List.setIfInBounds_toArray, List.set_cons_zero, List.set_cons_succ, List.getElem_toArray, List.getElem_cons_zero, List.getElem_cons_succ]
  refine wpAnyH_take (i := 14) (v := ?ve14) rfl (by kernel_rfl) (by kernel_rfl) (by kernel_rfl) (fun _ _ _ h => h) (Or.inl ⟨by rfl, ?hye14⟩) (by assumption) ?_
  case hye14 =>
    intro w hSw
    (try dsimp only at hSw)
    go_simp
    try with_reducible rfl
  try simp only [Act.put, List.setIfInBounds_toArray, List.set_cons_zero, List.set_cons_succ, List.getElem_toArray, List.getElem_cons_zero, List.getElem_cons_succ]
  refine wpAnyH_take (i := 15) (v := ?ve15) rfl (by kernel_rfl) (by kernel_rfl) (by kernel_rfl) (fun _ _ _ h => h) (Or.inl ⟨by rfl, ?hye15⟩) (by assumption) ?_
  case hye15 =>
    intro w hSw
    (try dsimp only at hSw)
    go_simp
    try with_reducible rfl
  try simp only [Act.put, List.setIfInBounds_toArray, List.set_cons_zero, List.set_cons_succ, List.getElem_toArray, List.getElem_cons_zero, List.getElem_cons_succ]
  refine wpAnyH_take (i := 16) (v := ?ve16) rfl (by kernel_rfl) (by kernel_rfl) (by kernel_rfl) (fun _ _ _ h => h) (Or.inl ⟨by rfl, ?hye16⟩) (by assumption) ?_
  case hye16 =>
    intro w hSw
    (try dsimp only at hSw)
    go_simp
    try with_reducible rfl
  try simp only [Act.put, List.setIfInBounds_toArray, List.set_cons_zero, List.set_cons_succ, List.getElem_toArray, List.getElem_cons_zero, List.getElem_cons_succ]
  refine wpAnyH_take (i := 17) (v := ?ve17) rfl (by kernel_rfl) (by kernel_rfl) (by kernel_rfl) (fun _ _ _ h => h) (Or.inl ⟨by rfl, ?hye17⟩) (by assumption) ?_
  case hye17 =>
    intro w hSw
    (try dsimp only at hSw)
    go_simp
    try with_reducible rfl
  try simp only [Act.put, List.setIfInBounds_toArray, List.set_cons_zero, List.set_cons_succ, List.getElem_toArray, List.getElem_cons_zero, List.getElem_cons_succ]
  refine wpAnyH_take (i := 18) (v := ?ve18) rfl (by kernel_rfl) (by kernel_rfl) (by kernel_rfl) (fun _ _ _ h => h) (Or.inl ⟨by rfl, ?hye18⟩) (by assumption) ?_
  case hye18 =>
    intro w hSw
    (try dsimp only at hSw)
    go_simp
    try with_reducible rfl
  try simp only [Act.put, List.setIfInBounds_toArray, List.set_cons_zero, List.set_cons_succ, List.getElem_toArray, List.getElem_cons_zero, List.getElem_cons_succ]
  refine wpAnyH_take (i := 19) (v := ?ve19) rfl (by kernel_rfl) (by kernel_rfl) (by kernel_rfl) (fun _ _ _ h => h) (Or.inl ⟨by rfl, ?hye19⟩) (by assumption) ?_
  case hye19 =>
    intro w hSw
    (try dsimp only at hSw)
    go_simp
    try with_reducible rfl
  try simp only [Act.put, List.setIfInBounds_toArray, List.set_cons_zero, List.set_cons_succ, List.getElem_toArray, List.getElem_cons_zero, List.getElem_cons_succ]
  refine wpAnyH_take (i := 20) (v := ?ve20) rfl (by kernel_rfl) (by kernel_rfl) (by kernel_rfl) (fun _ _ _ h => h) (Or.inl ⟨by rfl, ?hye20⟩) (by assumption) ?_
  case hye20 =>
    intro w hSw
    (try dsimp only at hSw)
    go_simp
    try with_reducible rfl
  try simp only [Act.put, List.setIfInBounds_toArray, List.set_cons_zero, List.set_cons_succ, List.getElem_toArray, List.getElem_cons_zero, List.getElem_cons_succ]
  refine wpAnyH_take (i := 21) (v := ?ve21) rfl (by kernel_rfl) (by kernel_rfl) (by kernel_rfl) (fun _ _ _ h => h) (Or.inl ⟨by rfl, ?hye21⟩) (by assumption) ?_
  case hye21 =>
    intro w hSw
    (try dsimp only at hSw)
    go_simp
    try with_reducible rfl
  try simp only [Act.put, List.setIfInBounds_toArray, List.set_cons_zero, List.set_cons_succ, List.getElem_toArray, List.getElem_cons_zero, List.getElem_cons_succ]
  refine wpAnyH_take (i := 22) (v := ?ve22) rfl (by kernel_rfl) (by kernel_rfl) (by kernel_rfl) (fun _ _ _ h => h) (Or.inl ⟨by rfl, ?hye22⟩) (by assumption) ?_
  case hye22 =>
    intro w hSw
    (try dsimp only at hSw)
    go_simp
    try with_reducible rfl
  try simp only [Act.put, List.setIfInBounds_toArray, List.set_cons_zero, List.set_cons_succ, List.getElem_toArray, List.getElem_cons_zero, List.getElem_cons_succ]
  refine wpAnyH_take (i := 23) (v := ?ve23) rfl (by kernel_rfl) (by kernel_rfl) (by kernel_rfl) (fun _ _ _ h => h) (Or.inl ⟨by rfl, ?hye23⟩) (by assumption) ?_
  case hye23 =>
    intro w hSw
    (try dsimp only at hSw)
    go_simp
    try with_reducible rfl
  try simp only [Act.put, List.setIfInBounds_toArray, List.set_cons_zero, List.set_cons_succ, List.getElem_toArray, List.getElem_cons_zero, List.getElem_cons_succ]
  refine wpAnyH_take (i := 24) (v := ?ve24) rfl (by kernel_rfl) (by kernel_rfl) (by kernel_rfl) (fun _ _ _ h => h) (Or.inl ⟨by rfl, ?hye24⟩) (by assumption) ?_
  case hye24 =>
    intro w hSw
    (try dsimp only at hSw)
    go_simp
    try with_reducible rfl
  try simp only [Act.put, List.setIfInBounds_toArray, List.set_cons_zero, List.set_cons_succ, List.getElem_toArray, List.getElem_cons_zero, List.getElem_cons_succ]
  refine wpAnyH_ready (rs := [25]) (by kernel_rfl) (by simp) ?_
  refine AllReadyH.cons rfl (fun K hK => ?_) AllReadyH.nil
  go_simp
  refine (r_may sa sk _).mono ?_
  rintro e w3 ⟨rfl, k3⟩
  rw [hm3]
  have HS3 : Hid (_) := oek5 hHeld k3
  have HK3 : Hid (Kept [] U w3) := HKu.out.trans k3 (by simp)
  clear k3
  go_wp2_with fail
  refine hK.out _ _ ?_ (fun hHeld => ?_)
  · exact HS3.out
  clear hK K
  try simp only [Act.put, List.setIfInBounds_toArray, List.set_cons_zero, List.set_cons_succ, List.getElem_toArray, List.getElem_cons_zero, List.getElem_cons_succ]
  refine wpAnyH_take (i := 26) (v := ?ve26) rfl (by kernel_rfl) (by kernel_rfl) (by kernel_rfl) (fun _ _ _ h => h) (Or.inl ⟨by rfl, ?hye26⟩) (by assumption) ?_
  case hye26 =>
    intro w hSw
    (try dsimp only at hSw)
    go_simp
    try with_reducible rfl
  try simp only [Act.put, List.setIfInBounds_toArray, List.set_cons_zero, List.set_cons_succ, List.getElem_toArray, List.getElem_cons_zero, List.getElem_cons_succ]
  refine wpAnyH_take (i := 27) (v := ?ve27) rfl (by kernel_rfl) (by kernel_rfl) (by kernel_rfl) (fun _ _ _ h => h) (Or.inl ⟨by rfl, ?hye27⟩) (by assumption) ?_
  case hye27 =>
    intro w hSw
    (try dsimp only at hSw)
    go_simp
    try with_reducible rfl
  try simp only [Act.put, List.setIfInBounds_toArray, List.set_cons_zero, List.set_cons_succ, List.getElem_toArray, List.getElem_cons_zero, List.getElem_cons_succ]
  refine wpAnyH_done (by kernel_rfl) ?_ _
  have HB2 : Hid (_) := (HK3.out.block _ (lt_of_heap HB.out.2.2) (by simp)).trans HB.out.2.2
  have HK9 : Hid (Kept [] w w3) := HK.out.1.trans HK3.out (by simp)
  clear hHeld
  have g0 : w3.cell? ⟨X + 1 + 1, 0, none⟩ = some (.int .i64 0) := cellB HB2.out
  have g1 : w3.cell? ⟨X + 1 + 1, 1, none⟩ = some (.int .i64 0) := cellB HB2.out
  have z0 := frozen_of HB2.out 0
  have z1 := frozen_of HB2.out 1
  go_wp2_with fail
  (try simp only [Exit.inBlock, Exit.then])
  refine bodyPost_ret (results_ct rfl _ _ (X + 1 + 1) 35 #[.int .i64 0, .int .i64 0] (0, 0) _ (.int .i64 1700) rfl rfl (block_set (block_set HB2.out 0 _) 1 _) Try.underlying35 rfl (by kernel_rfl)) rfl ?_
  exact ⟨rfl, (HK9.out.setCell (Or.inr (by have := HK.out.2; show _ ≤ X + 1 + 1; omega)) _).setCell (Or.inr (by have := HK.out.2; show _ ≤ X + 1 + 1; omega)) _⟩

set_option maxRecDepth 100000 in
set_option maxHeartbeats 8000000 in
theorem r_add_full {H : Nat} {w : World} {q gc gl : Nat} {C : List Co} (h : Re H w q gc gl C) (kind : Int) {i : Nat} (fd off num : Int) (p1 p2 dat : ByteArray) (sa sk : Int) (hk : kindB kind = true) (hi : i < C.length) (hm : mayS sa sk = true) (hl : (C[i]).R.length = 256) :
    Calls Try.prog 12 #[.pointer (some ⟨q, 0, none⟩), .agg #[.int .i64 kind, .int .i64 (i : Int), .int .i64 fd, .int .i64 off, .int .i64 num, .string p1, .string p2, .string dat], .agg #[.int .i64 sa, .int .i64 sk]] w fun e w' => e = .returned (.tuple #[.agg #[.int .i64 0, .int .i64 0], .int .i64 1701]) ∧ Kept [] w w' := by
  obtain ⟨U, X, HU, HK, HB⟩ := three w #[.int .i64 kind, .int .i64 (i : Int), .int .i64 fd, .int .i64 off, .int .i64 num, .string p1, .string p2, .string dat] #[.int .i64 sa, .int .i64 sk] #[.int .i64 0, .int .i64 0] 33 35 35
  have HL : Hid (Re H U q gc gl C) := h.kept0 HK.out.1
  obtain ⟨n, hN⟩ : ∃ n, C.length = n := ⟨_, rfl⟩
  have HN0 : Hid (C.length = n) := hN
  have hn8 : n ≤ 8 := by rw [← hN]; exact h.chi
  have HS1 : Hid (U.cell? ⟨X, 0, none⟩ = some (.int .i64 kind) ∧ U.cell? ⟨X, 1, none⟩ = some (.int .i64 (i : Int)) ∧ U.cell? ⟨q, 0, none⟩ = some (.slice (some ⟨gc, 0, none⟩) n n) ∧ U.cell? ⟨X + 1, 0, none⟩ = some (.int .i64 sa) ∧ U.cell? ⟨X + 1, 1, none⟩ = some (.int .i64 sk)) := ⟨cellB HB.out.1, cellB HB.out.1, by rw [← hN]; exact HL.out.box.1, cellB HB.out.2.1, cellB HB.out.2.1⟩
  have HXw : Hid (w.heap.size = X) := HU.out.2
  have a1 : ¬ kind < 0 := by intro h1; simp [kindB] at hk; omega
  have a2 : ¬ 16 < kind := by intro h1; simp [kindB] at hk; omega
  have d1 : decide (kind < 0) = false := decide_eq_false a1
  have d2 : decide (16 < kind) = false := decide_eq_false a2
  have a3 : ¬ (i : Int) < 0 := by omega
  have d3 : decide ((i : Int) < 0) = false := decide_eq_false a3
  have hin : i < n := by omega
  have a4 : ¬ (n : Int) ≤ (i : Int) := by omega
  have d4 : decide ((n : Int) ≤ (i : Int)) = false := decide_eq_false a4
  have d5 : decide (n ≤ i) = false := decide_eq_false (by omega)
  have z0 : (0 : Int) ≤ (i : Int) := by omega
  have z1 : (i : Int) < (n : Int) := by omega
  have hm3 := hm
  obtain ⟨av, cv, hv, hcl, hcm, -⟩ := (h.each i hi).slice
  clear hk hm hN
  go_enter Try.func12, Try.ntmps12
  go_upto_region 1 with fail
  rw [HU.out.1, HU.out.2]
  clear HU
  refine wp_region_held_drew (S := fun w' => w'.cell? ⟨X, 0, none⟩ = some (.int .i64 kind) ∧ w'.cell? ⟨X, 1, none⟩ = some (.int .i64 (i : Int)) ∧ w'.cell? ⟨q, 0, none⟩ = some (.slice (some ⟨gc, 0, none⟩) n n) ∧ w'.cell? ⟨X + 1, 0, none⟩ = some (.int .i64 sa) ∧ w'.cell? ⟨X + 1, 1, none⟩ = some (.int .i64 sk)) (by kernel_rfl) ?_ (fun hHeld => ?_)
  · exact HS1.out
  obtain ⟨u0, hu0⟩ : ∃ u, U.drew = u := ⟨_, rfl⟩
  have HKu : Hid (Kept [] U u0) := by rw [← hu0]; exact (Kept.refl [] U).drew
  rw [hu0] at hHeld ⊢
  clear hu0
  refine wpAnyH_take (i := 0) (v := ?vf0) rfl (by kernel_rfl) (by kernel_rfl) (by kernel_rfl) (fun _ _ _ h => h) (Or.inl ⟨by rfl, ?hyf0⟩) (by assumption) ?_
  case hyf0 =>
    intro w hSw
    (try dsimp only at hSw)
    go_simp
    try with_reducible rfl
  try simp only [Act.put, List.setIfInBounds_toArray, List.set_cons_zero, List.set_cons_succ, List.getElem_toArray, List.getElem_cons_zero, List.getElem_cons_succ]
  refine wpAnyH_take (i := 1) (v := ?vf1) rfl (by kernel_rfl) (by kernel_rfl) (by kernel_rfl) (fun _ _ _ h => h) (Or.inl ⟨by rfl, ?hyf1⟩) (by assumption) ?_
  case hyf1 =>
    intro w hSw
    (try dsimp only at hSw)
    go_simp
    try with_reducible rfl
  try simp only [Act.put, List.setIfInBounds_toArray, List.set_cons_zero, List.set_cons_succ, List.getElem_toArray, List.getElem_cons_zero, List.getElem_cons_succ]
  refine wpAnyH_take (i := 2) (v := ?vf2) rfl (by kernel_rfl) (by kernel_rfl) (by kernel_rfl) (fun _ _ _ h => h) (Or.inl ⟨by rfl, ?hyf2⟩) (by assumption) ?_
  case hyf2 =>
    intro w hSw
    (try dsimp only at hSw)
    go_simp
    try with_reducible rfl
  try simp only [Act.put, List.setIfInBounds_toArray, List.set_cons_zero, List.set_cons_succ, List.getElem_toArray, List.getElem_cons_zero, List.getElem_cons_succ]
  refine wpAnyH_take (i := 3) (v := ?vf3) rfl (by kernel_rfl) (by kernel_rfl) (by kernel_rfl) (fun _ _ _ h => h) (Or.inl ⟨by rfl, ?hyf3⟩) (by assumption) ?_
  case hyf3 =>
    intro w hSw
    (try dsimp only at hSw)
    go_simp
    try with_reducible rfl
  try simp only [Act.put, List.setIfInBounds_toArray, List.set_cons_zero, List.set_cons_succ, List.getElem_toArray, List.getElem_cons_zero, List.getElem_cons_succ]
  refine wpAnyH_take (i := 4) (v := ?vf4) rfl (by kernel_rfl) (by kernel_rfl) (by kernel_rfl) (fun _ _ _ h => h) (Or.inl ⟨by rfl, ?hyf4⟩) (by assumption) ?_
  case hyf4 =>
    intro w hSw
    (try dsimp only at hSw)
    go_simp
    try with_reducible rfl
  try simp only [Act.put, List.setIfInBounds_toArray, List.set_cons_zero, List.set_cons_succ, List.getElem_toArray, List.getElem_cons_zero, List.getElem_cons_succ]
  refine wpAnyH_take (i := 5) (v := ?vf5) rfl (by kernel_rfl) (by kernel_rfl) (by kernel_rfl) (fun _ _ _ h => h) (Or.inl ⟨by rfl, ?hyf5⟩) (by assumption) ?_
  case hyf5 =>
    intro w hSw
    (try dsimp only at hSw)
    go_simp
    try with_reducible rfl
  try simp only [Act.put, List.setIfInBounds_toArray, List.set_cons_zero, List.set_cons_succ, List.getElem_toArray, List.getElem_cons_zero, List.getElem_cons_succ]
  refine wpAnyH_take (i := 6) (v := ?vf6) rfl (by kernel_rfl) (by kernel_rfl) (by kernel_rfl) (fun _ _ _ h => h) (Or.inl ⟨by rfl, ?hyf6⟩) (by assumption) ?_
  case hyf6 =>
    intro w hSw
    (try dsimp only at hSw)
    go_simp
    try with_reducible rfl
  try simp only [Act.put, List.setIfInBounds_toArray, List.set_cons_zero, List.set_cons_succ, List.getElem_toArray, List.getElem_cons_zero, List.getElem_cons_succ]
  refine wpAnyH_take (i := 7) (v := ?vf7) rfl (by kernel_rfl) (by kernel_rfl) (by kernel_rfl) (fun _ _ _ h => h) (Or.inl ⟨by rfl, ?hyf7⟩) (by assumption) ?_
  case hyf7 =>
    intro w hSw
    (try dsimp only at hSw)
    go_simp
    try with_reducible rfl
  try simp only [Act.put, List.setIfInBounds_toArray, List.set_cons_zero, List.set_cons_succ, List.getElem_toArray, List.getElem_cons_zero, List.getElem_cons_succ]
  refine wpAnyH_take (i := 8) (v := ?vf8) rfl (by kernel_rfl) (by kernel_rfl) (by kernel_rfl) (fun _ _ _ h => h) (Or.inl ⟨by rfl, ?hyf8⟩) (by assumption) ?_
  case hyf8 =>
    intro w hSw
    (try dsimp only at hSw)
    go_simp
    try with_reducible rfl
  try simp only [Act.put, List.setIfInBounds_toArray, List.set_cons_zero, List.set_cons_succ, List.getElem_toArray, List.getElem_cons_zero, List.getElem_cons_succ]
  refine wpAnyH_take (i := 9) (v := ?vf9) rfl (by kernel_rfl) (by kernel_rfl) (by kernel_rfl) (fun _ _ _ h => h) (Or.inl ⟨by rfl, ?hyf9⟩) (by assumption) ?_
  case hyf9 =>
    intro w hSw
    (try dsimp only at hSw)
    go_simp
    try with_reducible rfl
  try simp only [Act.put, List.setIfInBounds_toArray, List.set_cons_zero, List.set_cons_succ, List.getElem_toArray, List.getElem_cons_zero, List.getElem_cons_succ]
  refine wpAnyH_take (i := 10) (v := ?vf10) rfl (by kernel_rfl) (by kernel_rfl) (by kernel_rfl) (fun _ _ _ h => h) (Or.inl ⟨by rfl, ?hyf10⟩) (by assumption) ?_
  case hyf10 =>
    intro w hSw
    (try dsimp only at hSw)
    go_simp
    try with_reducible rfl
  try simp only [Act.put, List.setIfInBounds_toArray, List.set_cons_zero, List.set_cons_succ, List.getElem_toArray, List.getElem_cons_zero, List.getElem_cons_succ]
  refine wpAnyH_take (i := 11) (v := ?vf11) rfl (by kernel_rfl) (by kernel_rfl) (by kernel_rfl) (fun _ _ _ h => h) (Or.inl ⟨by rfl, ?hyf11⟩) (by assumption) ?_
  case hyf11 =>
    intro w hSw
    (try dsimp only at hSw)
    go_simp
    try with_reducible rfl
  try simp only [Act.put, List.setIfInBounds_toArray, List.set_cons_zero, List.set_cons_succ, List.getElem_toArray, List.getElem_cons_zero, List.getElem_cons_succ]
  refine wpAnyH_take (i := 12) (v := ?vf12) rfl (by kernel_rfl) (by kernel_rfl) (by kernel_rfl) (fun _ _ _ h => h) (Or.inl ⟨by rfl, ?hyf12⟩) (by assumption) ?_
  case hyf12 =>
    intro w hSw
    (try dsimp only at hSw)
    go_simp
    try with_reducible rfl
  try simp only [Act.put, List.setIfInBounds_toArray, List.set_cons_zero, List.set_cons_succ, List.getElem_toArray, List.getElem_cons_zero, List.getElem_cons_succ]
  refine wpAnyH_take (i := 13) (v := ?vf13) rfl (by kernel_rfl) (by kernel_rfl) (by kernel_rfl) (fun _ _ _ h => h) (Or.inl ⟨by rfl, ?hyf13⟩) (by assumption) ?_
  case hyf13 =>
    intro w hSw
    (try dsimp only at hSw)
    go_simp
    try with_reducible rfl
  try simp only [Act.put, List.setIfInBounds_toArray, List.set_cons_zero, List.set_cons_succ, List.getElem_toArray, List.getElem_cons_zero, List.getElem_cons_succ]
  refine wpAnyH_take (i := 14) (v := ?vf14) rfl (by kernel_rfl) (by kernel_rfl) (by kernel_rfl) (fun _ _ _ h => h) (Or.inl ⟨by rfl, ?hyf14⟩) (by assumption) ?_
  case hyf14 =>
    intro w hSw
    (try dsimp only at hSw)
    go_simp
    try with_reducible rfl
  try simp only [Act.put, List.setIfInBounds_toArray, List.set_cons_zero, List.set_cons_succ, List.getElem_toArray, List.getElem_cons_zero, List.getElem_cons_succ]
  refine wpAnyH_take (i := 15) (v := ?vf15) rfl (by kernel_rfl) (by kernel_rfl) (by kernel_rfl) (fun _ _ _ h => h) (Or.inl ⟨by rfl, ?hyf15⟩) (by assumption) ?_
  case hyf15 =>
    intro w hSw
    (try dsimp only at hSw)
    go_simp
    try with_reducible rfl
  try simp only [Act.put, List.setIfInBounds_toArray, List.set_cons_zero, List.set_cons_succ, List.getElem_toArray, List.getElem_cons_zero, List.getElem_cons_succ]
  refine wpAnyH_take (i := 16) (v := ?vf16) rfl (by kernel_rfl) (by kernel_rfl) (by kernel_rfl) (fun _ _ _ h => h) (Or.inl ⟨by rfl, ?hyf16⟩) (by assumption) ?_
  case hyf16 =>
    intro w hSw
    (try dsimp only at hSw)
    go_simp
    try with_reducible rfl
  try simp only [Act.put, List.setIfInBounds_toArray, List.set_cons_zero, List.set_cons_succ, List.getElem_toArray, List.getElem_cons_zero, List.getElem_cons_succ]
  refine wpAnyH_take (i := 17) (v := ?vf17) rfl (by kernel_rfl) (by kernel_rfl) (by kernel_rfl) (fun _ _ _ h => h) (Or.inl ⟨by rfl, ?hyf17⟩) (by assumption) ?_
  case hyf17 =>
    intro w hSw
    (try dsimp only at hSw)
    go_simp
    try with_reducible rfl
  try simp only [Act.put, List.setIfInBounds_toArray, List.set_cons_zero, List.set_cons_succ, List.getElem_toArray, List.getElem_cons_zero, List.getElem_cons_succ]
  refine wpAnyH_take (i := 18) (v := ?vf18) rfl (by kernel_rfl) (by kernel_rfl) (by kernel_rfl) (fun _ _ _ h => h) (Or.inl ⟨by rfl, ?hyf18⟩) (by assumption) ?_
  case hyf18 =>
    intro w hSw
    (try dsimp only at hSw)
    go_simp
    try with_reducible rfl
  try simp only [Act.put, List.setIfInBounds_toArray, List.set_cons_zero, List.set_cons_succ, List.getElem_toArray, List.getElem_cons_zero, List.getElem_cons_succ]
  refine wpAnyH_take (i := 19) (v := ?vf19) rfl (by kernel_rfl) (by kernel_rfl) (by kernel_rfl) (fun _ _ _ h => h) (Or.inl ⟨by rfl, ?hyf19⟩) (by assumption) ?_
  case hyf19 =>
    intro w hSw
    (try dsimp only at hSw)
    go_simp
    try with_reducible rfl
  try simp only [Act.put, List.setIfInBounds_toArray, List.set_cons_zero, List.set_cons_succ, List.getElem_toArray, List.getElem_cons_zero, List.getElem_cons_succ]
  refine wpAnyH_take (i := 20) (v := ?vf20) rfl (by kernel_rfl) (by kernel_rfl) (by kernel_rfl) (fun _ _ _ h => h) (Or.inl ⟨by rfl, ?hyf20⟩) (by assumption) ?_
  case hyf20 =>
    intro w hSw
    (try dsimp only at hSw)
    go_simp
    try with_reducible rfl
  try simp only [Act.put, List.setIfInBounds_toArray, List.set_cons_zero, List.set_cons_succ, List.getElem_toArray, List.getElem_cons_zero, List.getElem_cons_succ]
  refine wpAnyH_take (i := 21) (v := ?vf21) rfl (by kernel_rfl) (by kernel_rfl) (by kernel_rfl) (fun _ _ _ h => h) (Or.inl ⟨by rfl, ?hyf21⟩) (by assumption) ?_
  case hyf21 =>
    intro w hSw
    (try dsimp only at hSw)
    go_simp
    try with_reducible rfl
  try simp only [Act.put, List.setIfInBounds_toArray, List.set_cons_zero, List.set_cons_succ, List.getElem_toArray, List.getElem_cons_zero, List.getElem_cons_succ]
  refine wpAnyH_take (i := 22) (v := ?vf22) rfl (by kernel_rfl) (by kernel_rfl) (by kernel_rfl) (fun _ _ _ h => h) (Or.inl ⟨by rfl, ?hyf22⟩) (by assumption) ?_
  case hyf22 =>
    intro w hSw
    (try dsimp only at hSw)
    go_simp
    try with_reducible rfl
  try simp only [Act.put, List.setIfInBounds_toArray, List.set_cons_zero, List.set_cons_succ, List.getElem_toArray, List.getElem_cons_zero, List.getElem_cons_succ]
  refine wpAnyH_take (i := 23) (v := ?vf23) rfl (by kernel_rfl) (by kernel_rfl) (by kernel_rfl) (fun _ _ _ h => h) (Or.inl ⟨by rfl, ?hyf23⟩) (by assumption) ?_
  case hyf23 =>
    intro w hSw
    (try dsimp only at hSw)
    go_simp
    try with_reducible rfl
  try simp only [Act.put, List.setIfInBounds_toArray, List.set_cons_zero, List.set_cons_succ, List.getElem_toArray, List.getElem_cons_zero, List.getElem_cons_succ]
  refine wpAnyH_take (i := 24) (v := ?vf24) rfl (by kernel_rfl) (by kernel_rfl) (by kernel_rfl) (fun _ _ _ h => h) (Or.inl ⟨by rfl, ?hyf24⟩) (by assumption) ?_
  case hyf24 =>
    intro w hSw
    (try dsimp only at hSw)
    go_simp
    try with_reducible rfl
  try simp only [Act.put, List.setIfInBounds_toArray, List.set_cons_zero, List.set_cons_succ, List.getElem_toArray, List.getElem_cons_zero, List.getElem_cons_succ]
  refine wpAnyH_ready (rs := [25]) (by kernel_rfl) (by simp) ?_
  refine AllReadyH.cons rfl (fun K hK => ?_) AllReadyH.nil
  go_simp
  refine (r_may sa sk _).mono ?_
  rintro e w3 ⟨rfl, k3⟩
  rw [hm3]
  have HS3 : Hid (_) := oek5 hHeld k3
  have HK3 : Hid (Kept [] U w3) := HKu.out.trans k3 (by simp)
  clear k3
  go_wp2_with fail
  refine hK.out _ _ ?_ (fun hHeld => ?_)
  · exact HS3.out
  clear hK K
  try simp only [Act.put, List.setIfInBounds_toArray, List.set_cons_zero, List.set_cons_succ, List.getElem_toArray, List.getElem_cons_zero, List.getElem_cons_succ]
  refine wpAnyH_take (i := 26) (v := ?vf26) rfl (by kernel_rfl) (by kernel_rfl) (by kernel_rfl) (fun _ _ _ h => h) (Or.inl ⟨by rfl, ?hyf26⟩) (by assumption) ?_
  case hyf26 =>
    intro w hSw
    (try dsimp only at hSw)
    go_simp
    try with_reducible rfl
  try simp only [Act.put, List.setIfInBounds_toArray, List.set_cons_zero, List.set_cons_succ, List.getElem_toArray, List.getElem_cons_zero, List.getElem_cons_succ]
  refine wpAnyH_take (i := 27) (v := ?vf27) rfl (by kernel_rfl) (by kernel_rfl) (by kernel_rfl) (fun _ _ _ h => h) (Or.inl ⟨by rfl, ?hyf27⟩) (by assumption) ?_
  case hyf27 =>
    intro w hSw
    (try dsimp only at hSw)
    go_simp
    try with_reducible rfl
  try simp only [Act.put, List.setIfInBounds_toArray, List.set_cons_zero, List.set_cons_succ, List.getElem_toArray, List.getElem_cons_zero, List.getElem_cons_succ]
  refine wpAnyH_done (by kernel_rfl) ?_ _
  clear hHeld HS3
  have HL3 : Hid (Re H w3 q gc gl C) := HL.out.kept0 HK3.out
  have HB3 : Hid (_ ∧ _ ∧ _) := ⟨(HK3.out.block _ (lt_of_heap HB.out.1) (by simp)).trans HB.out.1, (HK3.out.block _ (lt_of_heap HB.out.2.1) (by simp)).trans HB.out.2.1, (HK3.out.block _ (lt_of_heap HB.out.2.2) (by simp)).trans HB.out.2.2⟩
  have b0 : w3.cell? ⟨q, 0, none⟩ = some (.slice (some ⟨gc, 0, none⟩) n n) := by rw [← HN0.out]; exact HL3.out.box.1
  have x1 : w3.cell? ⟨X, 1, none⟩ = some (.int .i64 (i : Int)) := cellB HB3.out.1
  have c0 := HL3.out.row hi
  rw [hv] at c0
  obtain ⟨m, hmm⟩ : ∃ m, (C[i]).R.length = m := ⟨_, rfl⟩
  rw [hmm] at c0 hcl hl
  have HV : Hid ((C[i]).v = .slice av m cv) := by rw [← hmm]; exact hv
  have HN : Hid ((C[i]).R.length = m) := hmm
  have hcv : cv ≤ 9223372036854775807 := by unfold maxLen at hcm; omega
  have hn63 : m ≤ 9223372036854775807 := by omega
  clear hv hmm hcm
  go_upto_region 3 with fail
  have HKU : Hid (Kept [] U w3) := HK3.out
  subst hl
  go_quiet (fail)
  obtain ⟨w4, hw4⟩ : ∃ w4, w3.drewN nq = w4 := ⟨_, rfl⟩
  rw [hw4]
  have HK4 : Hid (Kept [] w3 w4) := by rw [← hw4]; exact (Kept.refl [] w3).drewN _
  clear hw4 b0 x1 c0
  have HB2 : Hid (_) := (HK4.out.block _ (lt_of_heap HB3.out.2.2) (by simp)).trans HB3.out.2.2
  have HK9 : Hid (Kept [] w w4) := (HK.out.1.trans HKU.out (by simp)).trans HK4.out (by simp)
  have g0 : w4.cell? ⟨X + 1 + 1, 0, none⟩ = some (.int .i64 0) := cellB HB2.out
  have g1 : w4.cell? ⟨X + 1 + 1, 1, none⟩ = some (.int .i64 0) := cellB HB2.out
  have z0 := frozen_of HB2.out 0
  have z1 := frozen_of HB2.out 1
  go_wp2_with fail
  (try simp only [Exit.inBlock, Exit.then])
  refine bodyPost_ret (results_ct rfl _ _ (X + 1 + 1) 35 #[.int .i64 0, .int .i64 0] (0, 0) _ (.int .i64 1701) rfl rfl (block_set (block_set HB2.out 0 _) 1 _) Try.underlying35 rfl (by kernel_rfl)) rfl ?_
  exact ⟨rfl, (HK9.out.setCell (Or.inr (by have := HK.out.2; show _ ≤ X + 1 + 1; omega)) _).setCell (Or.inr (by have := HK.out.2; show _ ≤ X + 1 + 1; omega)) _⟩

theorem s7_of {w w' : World} {q X Y : Nat} {v0 v1 v2 v3 v4 v5 v6 v7 v8 v9 v10 v11 : Value} {F : List Nat} (h : w.heap[q]? = some (.cells #[v0, v1] 50 (0, 0)) ∧ w.heap[X]? = some (.cells #[v2, v3, v4, v5, v6, v7, v8, v9] 33 (0, 0)) ∧ w.heap[Y]? = some (.cells #[v10, v11] 35 (0, 0))) (k : Kept F w w') (hq : q ∉ F) (hX : X ∉ F) (hY : Y ∉ F) : w'.cell? ⟨q, 0, none⟩ = some v0 ∧ w'.cell? ⟨X, 0, none⟩ = some v2 ∧ w'.cell? ⟨X, 1, none⟩ = some v3 ∧ w'.cell? ⟨X, 2, none⟩ = some v4 ∧ w'.cell? ⟨X, 3, none⟩ = some v5 ∧ w'.cell? ⟨X, 4, none⟩ = some v6 ∧ w'.cell? ⟨X, 5, none⟩ = some v7 ∧ w'.cell? ⟨X, 6, none⟩ = some v8 ∧ w'.cell? ⟨X, 7, none⟩ = some v9 ∧ w'.cell? ⟨Y, 0, none⟩ = some v10 ∧ w'.cell? ⟨Y, 1, none⟩ = some v11 := by
  have hq2 := (k.block q (lt_of_heap h.1) hq).trans h.1
  have hX2 := (k.block X (lt_of_heap h.2.1) hX).trans h.2.1
  have hY2 := (k.block Y (lt_of_heap h.2.2) hY).trans h.2.2
  exact ⟨cellB hq2, cellB hX2, cellB hX2, cellB hX2, cellB hX2, cellB hX2, cellB hX2, cellB hX2, cellB hX2, cellB hY2, cellB hY2⟩

set_option maxRecDepth 100000 in
set_option maxHeartbeats 8000000 in
theorem r_add {H : Nat} {w : World} {q gc gl : Nat} {C : List Co} (h : Re H w q gc gl C) (kind : Int) {i : Nat} (fd off num : Int) (p1 p2 dat : ByteArray) (sa sk : Int) (hH : H ≤ w.heap.size) (hk : kindB kind = true) (hi : i < C.length) (hm : mayS sa sk = true) (hl : (C[i]).R.length < 256) (hsm : p1.size ≤ 140737488351232 ∧ p2.size ≤ 140737488351232 ∧ dat.size ≤ 140737488351232) :
    Calls Try.prog 12 #[.pointer (some ⟨q, 0, none⟩), .agg #[.int .i64 kind, .int .i64 (i : Int), .int .i64 fd, .int .i64 off, .int .i64 num, .string p1, .string p2, .string dat], .agg #[.int .i64 sa, .int .i64 sk]] w fun e w' => e = .returned (.tuple #[.agg #[.int .i64 (nextS (C[i]).a (C[i]).k sa sk), .int .i64 (C[i]).k], .int .i64 0]) ∧ ∃ v, Re H w' q gc gl (C.set i ⟨v, (C[i]).R ++ [addR C[i] kind i fd off num p1 p2 dat sa sk], nextS (C[i]).a (C[i]).k sa sk, (C[i]).k⟩) ∧ Kept (rb q gc gl C) w w' ∧ ∀ x ∈ rb q gc gl (C.set i ⟨v, (C[i]).R ++ [addR C[i] kind i fd off num p1 p2 dat sa sk], nextS (C[i]).a (C[i]).k sa sk, (C[i]).k⟩), x ∈ rb q gc gl C ∨ w.heap.size ≤ x := by
  obtain ⟨U, X, HU, HK, HB⟩ := three w #[.int .i64 kind, .int .i64 (i : Int), .int .i64 fd, .int .i64 off, .int .i64 num, .string p1, .string p2, .string dat] #[.int .i64 sa, .int .i64 sk] #[.int .i64 0, .int .i64 0] 33 35 35
  have HL : Hid (Re H U q gc gl C) := h.kept0 HK.out.1
  obtain ⟨n, hN⟩ : ∃ n, C.length = n := ⟨_, rfl⟩
  have HN0 : Hid (C.length = n) := hN
  have hn8 : n ≤ 8 := by rw [← hN]; exact h.chi
  have HS1 : Hid (U.cell? ⟨X, 0, none⟩ = some (.int .i64 kind) ∧ U.cell? ⟨X, 1, none⟩ = some (.int .i64 (i : Int)) ∧ U.cell? ⟨q, 0, none⟩ = some (.slice (some ⟨gc, 0, none⟩) n n) ∧ U.cell? ⟨X + 1, 0, none⟩ = some (.int .i64 sa) ∧ U.cell? ⟨X + 1, 1, none⟩ = some (.int .i64 sk)) := ⟨cellB HB.out.1, cellB HB.out.1, by rw [← hN]; exact HL.out.box.1, cellB HB.out.2.1, cellB HB.out.2.1⟩
  have HXw : Hid (w.heap.size = X) := HU.out.2
  have a1 : ¬ kind < 0 := by intro h1; simp [kindB] at hk; omega
  have a2 : ¬ 16 < kind := by intro h1; simp [kindB] at hk; omega
  have d1 : decide (kind < 0) = false := decide_eq_false a1
  have d2 : decide (16 < kind) = false := decide_eq_false a2
  have a3 : ¬ (i : Int) < 0 := by omega
  have d3 : decide ((i : Int) < 0) = false := decide_eq_false a3
  have hin : i < n := by omega
  have a4 : ¬ (n : Int) ≤ (i : Int) := by omega
  have d4 : decide ((n : Int) ≤ (i : Int)) = false := decide_eq_false a4
  have d5 : decide (n ≤ i) = false := decide_eq_false (by omega)
  have z0 : (0 : Int) ≤ (i : Int) := by omega
  have z1 : (i : Int) < (n : Int) := by omega
  have hm3 := hm
  obtain ⟨av, cv, hv, hcl, hcm, -⟩ := (h.each i hi).slice
  clear hk hm hN
  go_enter Try.func12, Try.ntmps12
  go_upto_region 1 with fail
  rw [HU.out.1, HU.out.2]
  clear HU
  refine wp_region_held_drew (S := fun w' => w'.cell? ⟨X, 0, none⟩ = some (.int .i64 kind) ∧ w'.cell? ⟨X, 1, none⟩ = some (.int .i64 (i : Int)) ∧ w'.cell? ⟨q, 0, none⟩ = some (.slice (some ⟨gc, 0, none⟩) n n) ∧ w'.cell? ⟨X + 1, 0, none⟩ = some (.int .i64 sa) ∧ w'.cell? ⟨X + 1, 1, none⟩ = some (.int .i64 sk)) (by kernel_rfl) ?_ (fun hHeld => ?_)
  · exact HS1.out
  obtain ⟨u0, hu0⟩ : ∃ u, U.drew = u := ⟨_, rfl⟩
  have HKu : Hid (Kept [] U u0) := by rw [← hu0]; exact (Kept.refl [] U).drew
  rw [hu0] at hHeld ⊢
  clear hu0
  refine wpAnyH_take (i := 0) (v := ?vf0) rfl (by kernel_rfl) (by kernel_rfl) (by kernel_rfl) (fun _ _ _ h => h) (Or.inl ⟨by rfl, ?hyf0⟩) (by assumption) ?_
  case hyf0 =>
    intro w hSw
    (try dsimp only at hSw)
    go_simp
    try with_reducible rfl
  try simp only [Act.put, List.setIfInBounds_toArray, List.set_cons_zero, List.set_cons_succ, List.getElem_toArray, List.getElem_cons_zero, List.getElem_cons_succ]
  refine wpAnyH_take (i := 1) (v := ?vf1) rfl (by kernel_rfl) (by kernel_rfl) (by kernel_rfl) (fun _ _ _ h => h) (Or.inl ⟨by rfl, ?hyf1⟩) (by assumption) ?_
  case hyf1 =>
    intro w hSw
    (try dsimp only at hSw)
    go_simp
    try with_reducible rfl
  try simp only [Act.put, List.setIfInBounds_toArray, List.set_cons_zero, List.set_cons_succ, List.getElem_toArray, List.getElem_cons_zero, List.getElem_cons_succ]
  refine wpAnyH_take (i := 2) (v := ?vf2) rfl (by kernel_rfl) (by kernel_rfl) (by kernel_rfl) (fun _ _ _ h => h) (Or.inl ⟨by rfl, ?hyf2⟩) (by assumption) ?_
  case hyf2 =>
    intro w hSw
    (try dsimp only at hSw)
    go_simp
    try with_reducible rfl
  try simp only [Act.put, List.setIfInBounds_toArray, List.set_cons_zero, List.set_cons_succ, List.getElem_toArray, List.getElem_cons_zero, List.getElem_cons_succ]
  refine wpAnyH_take (i := 3) (v := ?vf3) rfl (by kernel_rfl) (by kernel_rfl) (by kernel_rfl) (fun _ _ _ h => h) (Or.inl ⟨by rfl, ?hyf3⟩) (by assumption) ?_
  case hyf3 =>
    intro w hSw
    (try dsimp only at hSw)
    go_simp
    try with_reducible rfl
  try simp only [Act.put, List.setIfInBounds_toArray, List.set_cons_zero, List.set_cons_succ, List.getElem_toArray, List.getElem_cons_zero, List.getElem_cons_succ]
  refine wpAnyH_take (i := 4) (v := ?vf4) rfl (by kernel_rfl) (by kernel_rfl) (by kernel_rfl) (fun _ _ _ h => h) (Or.inl ⟨by rfl, ?hyf4⟩) (by assumption) ?_
  case hyf4 =>
    intro w hSw
    (try dsimp only at hSw)
    go_simp
    try with_reducible rfl
  try simp only [Act.put, List.setIfInBounds_toArray, List.set_cons_zero, List.set_cons_succ, List.getElem_toArray, List.getElem_cons_zero, List.getElem_cons_succ]
  refine wpAnyH_take (i := 5) (v := ?vf5) rfl (by kernel_rfl) (by kernel_rfl) (by kernel_rfl) (fun _ _ _ h => h) (Or.inl ⟨by rfl, ?hyf5⟩) (by assumption) ?_
  case hyf5 =>
    intro w hSw
    (try dsimp only at hSw)
    go_simp
    try with_reducible rfl
  try simp only [Act.put, List.setIfInBounds_toArray, List.set_cons_zero, List.set_cons_succ, List.getElem_toArray, List.getElem_cons_zero, List.getElem_cons_succ]
  refine wpAnyH_take (i := 6) (v := ?vf6) rfl (by kernel_rfl) (by kernel_rfl) (by kernel_rfl) (fun _ _ _ h => h) (Or.inl ⟨by rfl, ?hyf6⟩) (by assumption) ?_
  case hyf6 =>
    intro w hSw
    (try dsimp only at hSw)
    go_simp
    try with_reducible rfl
  try simp only [Act.put, List.setIfInBounds_toArray, List.set_cons_zero, List.set_cons_succ, List.getElem_toArray, List.getElem_cons_zero, List.getElem_cons_succ]
  refine wpAnyH_take (i := 7) (v := ?vf7) rfl (by kernel_rfl) (by kernel_rfl) (by kernel_rfl) (fun _ _ _ h => h) (Or.inl ⟨by rfl, ?hyf7⟩) (by assumption) ?_
  case hyf7 =>
    intro w hSw
    (try dsimp only at hSw)
    go_simp
    try with_reducible rfl
  try simp only [Act.put, List.setIfInBounds_toArray, List.set_cons_zero, List.set_cons_succ, List.getElem_toArray, List.getElem_cons_zero, List.getElem_cons_succ]
  refine wpAnyH_take (i := 8) (v := ?vf8) rfl (by kernel_rfl) (by kernel_rfl) (by kernel_rfl) (fun _ _ _ h => h) (Or.inl ⟨by rfl, ?hyf8⟩) (by assumption) ?_
  case hyf8 =>
    intro w hSw
    (try dsimp only at hSw)
    go_simp
    try with_reducible rfl
  try simp only [Act.put, List.setIfInBounds_toArray, List.set_cons_zero, List.set_cons_succ, List.getElem_toArray, List.getElem_cons_zero, List.getElem_cons_succ]
  refine wpAnyH_take (i := 9) (v := ?vf9) rfl (by kernel_rfl) (by kernel_rfl) (by kernel_rfl) (fun _ _ _ h => h) (Or.inl ⟨by rfl, ?hyf9⟩) (by assumption) ?_
  case hyf9 =>
    intro w hSw
    (try dsimp only at hSw)
    go_simp
    try with_reducible rfl
  try simp only [Act.put, List.setIfInBounds_toArray, List.set_cons_zero, List.set_cons_succ, List.getElem_toArray, List.getElem_cons_zero, List.getElem_cons_succ]
  refine wpAnyH_take (i := 10) (v := ?vf10) rfl (by kernel_rfl) (by kernel_rfl) (by kernel_rfl) (fun _ _ _ h => h) (Or.inl ⟨by rfl, ?hyf10⟩) (by assumption) ?_
  case hyf10 =>
    intro w hSw
    (try dsimp only at hSw)
    go_simp
    try with_reducible rfl
  try simp only [Act.put, List.setIfInBounds_toArray, List.set_cons_zero, List.set_cons_succ, List.getElem_toArray, List.getElem_cons_zero, List.getElem_cons_succ]
  refine wpAnyH_take (i := 11) (v := ?vf11) rfl (by kernel_rfl) (by kernel_rfl) (by kernel_rfl) (fun _ _ _ h => h) (Or.inl ⟨by rfl, ?hyf11⟩) (by assumption) ?_
  case hyf11 =>
    intro w hSw
    (try dsimp only at hSw)
    go_simp
    try with_reducible rfl
  try simp only [Act.put, List.setIfInBounds_toArray, List.set_cons_zero, List.set_cons_succ, List.getElem_toArray, List.getElem_cons_zero, List.getElem_cons_succ]
  refine wpAnyH_take (i := 12) (v := ?vf12) rfl (by kernel_rfl) (by kernel_rfl) (by kernel_rfl) (fun _ _ _ h => h) (Or.inl ⟨by rfl, ?hyf12⟩) (by assumption) ?_
  case hyf12 =>
    intro w hSw
    (try dsimp only at hSw)
    go_simp
    try with_reducible rfl
  try simp only [Act.put, List.setIfInBounds_toArray, List.set_cons_zero, List.set_cons_succ, List.getElem_toArray, List.getElem_cons_zero, List.getElem_cons_succ]
  refine wpAnyH_take (i := 13) (v := ?vf13) rfl (by kernel_rfl) (by kernel_rfl) (by kernel_rfl) (fun _ _ _ h => h) (Or.inl ⟨by rfl, ?hyf13⟩) (by assumption) ?_
  case hyf13 =>
    intro w hSw
    (try dsimp only at hSw)
    go_simp
    try with_reducible rfl
  try simp only [Act.put, List.setIfInBounds_toArray, List.set_cons_zero, List.set_cons_succ, List.getElem_toArray, List.getElem_cons_zero, List.getElem_cons_succ]
  refine wpAnyH_take (i := 14) (v := ?vf14) rfl (by kernel_rfl) (by kernel_rfl) (by kernel_rfl) (fun _ _ _ h => h) (Or.inl ⟨by rfl, ?hyf14⟩) (by assumption) ?_
  case hyf14 =>
    intro w hSw
    (try dsimp only at hSw)
    go_simp
    try with_reducible rfl
  try simp only [Act.put, List.setIfInBounds_toArray, List.set_cons_zero, List.set_cons_succ, List.getElem_toArray, List.getElem_cons_zero, List.getElem_cons_succ]
  refine wpAnyH_take (i := 15) (v := ?vf15) rfl (by kernel_rfl) (by kernel_rfl) (by kernel_rfl) (fun _ _ _ h => h) (Or.inl ⟨by rfl, ?hyf15⟩) (by assumption) ?_
  case hyf15 =>
    intro w hSw
    (try dsimp only at hSw)
    go_simp
    try with_reducible rfl
  try simp only [Act.put, List.setIfInBounds_toArray, List.set_cons_zero, List.set_cons_succ, List.getElem_toArray, List.getElem_cons_zero, List.getElem_cons_succ]
  refine wpAnyH_take (i := 16) (v := ?vf16) rfl (by kernel_rfl) (by kernel_rfl) (by kernel_rfl) (fun _ _ _ h => h) (Or.inl ⟨by rfl, ?hyf16⟩) (by assumption) ?_
  case hyf16 =>
    intro w hSw
    (try dsimp only at hSw)
    go_simp
    try with_reducible rfl
  try simp only [Act.put, List.setIfInBounds_toArray, List.set_cons_zero, List.set_cons_succ, List.getElem_toArray, List.getElem_cons_zero, List.getElem_cons_succ]
  refine wpAnyH_take (i := 17) (v := ?vf17) rfl (by kernel_rfl) (by kernel_rfl) (by kernel_rfl) (fun _ _ _ h => h) (Or.inl ⟨by rfl, ?hyf17⟩) (by assumption) ?_
  case hyf17 =>
    intro w hSw
    (try dsimp only at hSw)
    go_simp
    try with_reducible rfl
  try simp only [Act.put, List.setIfInBounds_toArray, List.set_cons_zero, List.set_cons_succ, List.getElem_toArray, List.getElem_cons_zero, List.getElem_cons_succ]
  refine wpAnyH_take (i := 18) (v := ?vf18) rfl (by kernel_rfl) (by kernel_rfl) (by kernel_rfl) (fun _ _ _ h => h) (Or.inl ⟨by rfl, ?hyf18⟩) (by assumption) ?_
  case hyf18 =>
    intro w hSw
    (try dsimp only at hSw)
    go_simp
    try with_reducible rfl
  try simp only [Act.put, List.setIfInBounds_toArray, List.set_cons_zero, List.set_cons_succ, List.getElem_toArray, List.getElem_cons_zero, List.getElem_cons_succ]
  refine wpAnyH_take (i := 19) (v := ?vf19) rfl (by kernel_rfl) (by kernel_rfl) (by kernel_rfl) (fun _ _ _ h => h) (Or.inl ⟨by rfl, ?hyf19⟩) (by assumption) ?_
  case hyf19 =>
    intro w hSw
    (try dsimp only at hSw)
    go_simp
    try with_reducible rfl
  try simp only [Act.put, List.setIfInBounds_toArray, List.set_cons_zero, List.set_cons_succ, List.getElem_toArray, List.getElem_cons_zero, List.getElem_cons_succ]
  refine wpAnyH_take (i := 20) (v := ?vf20) rfl (by kernel_rfl) (by kernel_rfl) (by kernel_rfl) (fun _ _ _ h => h) (Or.inl ⟨by rfl, ?hyf20⟩) (by assumption) ?_
  case hyf20 =>
    intro w hSw
    (try dsimp only at hSw)
    go_simp
    try with_reducible rfl
  try simp only [Act.put, List.setIfInBounds_toArray, List.set_cons_zero, List.set_cons_succ, List.getElem_toArray, List.getElem_cons_zero, List.getElem_cons_succ]
  refine wpAnyH_take (i := 21) (v := ?vf21) rfl (by kernel_rfl) (by kernel_rfl) (by kernel_rfl) (fun _ _ _ h => h) (Or.inl ⟨by rfl, ?hyf21⟩) (by assumption) ?_
  case hyf21 =>
    intro w hSw
    (try dsimp only at hSw)
    go_simp
    try with_reducible rfl
  try simp only [Act.put, List.setIfInBounds_toArray, List.set_cons_zero, List.set_cons_succ, List.getElem_toArray, List.getElem_cons_zero, List.getElem_cons_succ]
  refine wpAnyH_take (i := 22) (v := ?vf22) rfl (by kernel_rfl) (by kernel_rfl) (by kernel_rfl) (fun _ _ _ h => h) (Or.inl ⟨by rfl, ?hyf22⟩) (by assumption) ?_
  case hyf22 =>
    intro w hSw
    (try dsimp only at hSw)
    go_simp
    try with_reducible rfl
  try simp only [Act.put, List.setIfInBounds_toArray, List.set_cons_zero, List.set_cons_succ, List.getElem_toArray, List.getElem_cons_zero, List.getElem_cons_succ]
  refine wpAnyH_take (i := 23) (v := ?vf23) rfl (by kernel_rfl) (by kernel_rfl) (by kernel_rfl) (fun _ _ _ h => h) (Or.inl ⟨by rfl, ?hyf23⟩) (by assumption) ?_
  case hyf23 =>
    intro w hSw
    (try dsimp only at hSw)
    go_simp
    try with_reducible rfl
  try simp only [Act.put, List.setIfInBounds_toArray, List.set_cons_zero, List.set_cons_succ, List.getElem_toArray, List.getElem_cons_zero, List.getElem_cons_succ]
  refine wpAnyH_take (i := 24) (v := ?vf24) rfl (by kernel_rfl) (by kernel_rfl) (by kernel_rfl) (fun _ _ _ h => h) (Or.inl ⟨by rfl, ?hyf24⟩) (by assumption) ?_
  case hyf24 =>
    intro w hSw
    (try dsimp only at hSw)
    go_simp
    try with_reducible rfl
  try simp only [Act.put, List.setIfInBounds_toArray, List.set_cons_zero, List.set_cons_succ, List.getElem_toArray, List.getElem_cons_zero, List.getElem_cons_succ]
  refine wpAnyH_ready (rs := [25]) (by kernel_rfl) (by simp) ?_
  refine AllReadyH.cons rfl (fun K hK => ?_) AllReadyH.nil
  go_simp
  refine (r_may sa sk _).mono ?_
  rintro e w3 ⟨rfl, k3⟩
  rw [hm3]
  have HS3 : Hid (_) := oek5 hHeld k3
  have HK3 : Hid (Kept [] U w3) := HKu.out.trans k3 (by simp)
  clear k3
  go_wp2_with fail
  refine hK.out _ _ ?_ (fun hHeld => ?_)
  · exact HS3.out
  clear hK K
  try simp only [Act.put, List.setIfInBounds_toArray, List.set_cons_zero, List.set_cons_succ, List.getElem_toArray, List.getElem_cons_zero, List.getElem_cons_succ]
  refine wpAnyH_take (i := 26) (v := ?vf26) rfl (by kernel_rfl) (by kernel_rfl) (by kernel_rfl) (fun _ _ _ h => h) (Or.inl ⟨by rfl, ?hyf26⟩) (by assumption) ?_
  case hyf26 =>
    intro w hSw
    (try dsimp only at hSw)
    go_simp
    try with_reducible rfl
  try simp only [Act.put, List.setIfInBounds_toArray, List.set_cons_zero, List.set_cons_succ, List.getElem_toArray, List.getElem_cons_zero, List.getElem_cons_succ]
  refine wpAnyH_take (i := 27) (v := ?vf27) rfl (by kernel_rfl) (by kernel_rfl) (by kernel_rfl) (fun _ _ _ h => h) (Or.inl ⟨by rfl, ?hyf27⟩) (by assumption) ?_
  case hyf27 =>
    intro w hSw
    (try dsimp only at hSw)
    go_simp
    try with_reducible rfl
  try simp only [Act.put, List.setIfInBounds_toArray, List.set_cons_zero, List.set_cons_succ, List.getElem_toArray, List.getElem_cons_zero, List.getElem_cons_succ]
  refine wpAnyH_done (by kernel_rfl) ?_ _
  clear hHeld HS3
  have HL3 : Hid (Re H w3 q gc gl C) := HL.out.kept0 HK3.out
  have HB3 : Hid (_ ∧ _ ∧ _) := ⟨(HK3.out.block _ (lt_of_heap HB.out.1) (by simp)).trans HB.out.1, (HK3.out.block _ (lt_of_heap HB.out.2.1) (by simp)).trans HB.out.2.1, (HK3.out.block _ (lt_of_heap HB.out.2.2) (by simp)).trans HB.out.2.2⟩
  have b0 : w3.cell? ⟨q, 0, none⟩ = some (.slice (some ⟨gc, 0, none⟩) n n) := by rw [← HN0.out]; exact HL3.out.box.1
  have x1 : w3.cell? ⟨X, 1, none⟩ = some (.int .i64 (i : Int)) := cellB HB3.out.1
  have c0 := HL3.out.row hi
  rw [hv] at c0
  obtain ⟨m, hmm⟩ : ∃ m, (C[i]).R.length = m := ⟨_, rfl⟩
  rw [hmm] at c0 hcl hl
  have HV : Hid ((C[i]).v = .slice av m cv) := by rw [← hmm]; exact hv
  have HN : Hid ((C[i]).R.length = m) := hmm
  have hcv : cv ≤ 9223372036854775807 := by unfold maxLen at hcm; omega
  have hn63 : m ≤ 9223372036854775807 := by omega
  clear hv hmm hcm
  go_upto_region 3 with fail
  have hl2 : ¬ (256 : Int) ≤ (m : Int) := by omega
  have HXb : Hid (∀ x ∈ rb q gc gl C, X ≤ x → False) := fun x hx hX => by
    have h1 := (h.lt x hx).2
    have h2 := HXw.out
    omega
  have HSm0 : Hid (_) := hsm
  have HH : Hid (_) := hH
  have HSR0 : Hid (_) := h.small i hi
  obtain ⟨R, hR⟩ : ∃ R, (C[i]).R = R := ⟨_, rfl⟩
  obtain ⟨a, ha⟩ : ∃ a, (C[i]).a = a := ⟨_, rfl⟩
  obtain ⟨k, hkk⟩ : ∃ k, (C[i]).k = k := ⟨_, rfl⟩
  have HA : Hid ((C[i]).a = a ∧ (C[i]).k = k) := ⟨ha, hkk⟩
  have HRe : Hid ((C[i]).R = R) := hR
  clear h hsm hH hR ha hkk
  go_quiet (fail)
  obtain ⟨w4, hw4⟩ : ∃ w4, w3.drewN nq = w4 := ⟨_, rfl⟩
  rw [hw4]
  have HK4 : Hid (Kept [] w3 w4) := by rw [← hw4]; exact (Kept.refl [] w3).drewN _
  clear hw4 b0 x1 c0
  have HL4 : Hid (Re H w4 q gc gl C) := HL3.out.kept0 HK4.out
  have HB4 : Hid (_ ∧ _ ∧ _) := ⟨(HK4.out.block _ (lt_of_heap HB3.out.1) (by simp)).trans HB3.out.1, (HK4.out.block _ (lt_of_heap HB3.out.2.1) (by simp)).trans HB3.out.2.1, (HK4.out.block _ (lt_of_heap HB3.out.2.2) (by simp)).trans HB3.out.2.2⟩
  have HKU : Hid (Kept [] U w4) := HK3.out.trans HK4.out (by simp)
  clear HL3 HB3 HK3 HK4
  have HS5 : Hid (w4.cell? ⟨q, 1, none⟩ = some (.slice (some ⟨gl, 0, none⟩) n n) ∧ w4.cell? ⟨X, 1, none⟩ = some (.int .i64 (i : Int)) ∧ w4.cell? ⟨gl, i * 2, none⟩ = some (.int .i64 a) ∧ w4.cell? ⟨gl, i * 2 + 1, none⟩ = some (.int .i64 k) ∧ w4.cell? ⟨X + 1, 0, none⟩ = some (.int .i64 sa) ∧ w4.cell? ⟨X + 1, 1, none⟩ = some (.int .i64 sk)) := by
    obtain ⟨y1, y2⟩ := HL4.out.last hi
    rw [HA.out.1] at y1; rw [HA.out.2] at y2
    exact ⟨by rw [← HN0.out]; exact HL4.out.box.2, cellB HB4.out.1, y1, y2, cellB HB4.out.2.1, cellB HB4.out.2.1⟩
  obtain ⟨nx, hnx⟩ : ∃ nx, nextS a k sa sk = nx := ⟨_, rfl⟩
  have HNx : Hid (nextS a k sa sk = nx) := hnx
  clear hnx
  go_upto_region 5 with fail
  clear hl2
  go_cut [8] from 49 to 58 (fun v wx => ∃ Y : Nat, v = .pointer (some ⟨Y, 0, none⟩) ∧ Hid (wx.heap[Y]? = some (.cells #[.int .i64 nx, .int .i64 k] 35 (0, 0)) ∧ Kept [] w4 wx ∧ w4.heap.size ≤ Y))
  case first =>
    refine wp_region_held_drew (S := fun w' => w'.cell? ⟨q, 1, none⟩ = some (.slice (some ⟨gl, 0, none⟩) n n) ∧ w'.cell? ⟨X, 1, none⟩ = some (.int .i64 (i : Int)) ∧ w'.cell? ⟨gl, i * 2, none⟩ = some (.int .i64 a) ∧ w'.cell? ⟨gl, i * 2 + 1, none⟩ = some (.int .i64 k) ∧ w'.cell? ⟨X + 1, 0, none⟩ = some (.int .i64 sa) ∧ w'.cell? ⟨X + 1, 1, none⟩ = some (.int .i64 sk)) (by kernel_rfl) ?_ (fun hHeld => ?_)
    · exact HS5.out
    obtain ⟨u0, hu0⟩ : ∃ u, w4.drew = u := ⟨_, rfl⟩
    have HKu : Hid (Kept [] w4 u0) := by rw [← hu0]; exact (Kept.refl [] w4).drew
    rw [hu0] at hHeld ⊢
    clear hu0
    refine wpAnyH_take (i := 0) (v := ?vn0) rfl (by kernel_rfl) (by kernel_rfl) (by kernel_rfl) (fun _ _ _ h => h) (Or.inl ⟨by rfl, ?hyn0⟩) (by assumption) ?_
    case hyn0 =>
      intro w hSw
      (try dsimp only at hSw)
      go_simp
      try with_reducible rfl
    try simp only [Act.put, List.setIfInBounds_toArray, List.set_cons_zero, List.set_cons_succ, List.getElem_toArray, List.getElem_cons_zero, List.getElem_cons_succ]
    refine wpAnyH_take (i := 1) (v := ?vn1) rfl (by kernel_rfl) (by kernel_rfl) (by kernel_rfl) (fun _ _ _ h => h) (Or.inl ⟨by rfl, ?hyn1⟩) (by assumption) ?_
    case hyn1 =>
      intro w hSw
      (try dsimp only at hSw)
      go_simp
      try with_reducible rfl
    try simp only [Act.put, List.setIfInBounds_toArray, List.set_cons_zero, List.set_cons_succ, List.getElem_toArray, List.getElem_cons_zero, List.getElem_cons_succ]
    refine wpAnyH_take (i := 2) (v := ?vn2) rfl (by kernel_rfl) (by kernel_rfl) (by kernel_rfl) (fun _ _ _ h => h) (Or.inl ⟨by rfl, ?hyn2⟩) (by assumption) ?_
    case hyn2 =>
      intro w hSw
      (try dsimp only at hSw)
      go_simp
      try with_reducible rfl
    try simp only [Act.put, List.setIfInBounds_toArray, List.set_cons_zero, List.set_cons_succ, List.getElem_toArray, List.getElem_cons_zero, List.getElem_cons_succ]
    refine wpAnyH_take (i := 3) (v := ?vn3) rfl (by kernel_rfl) (by kernel_rfl) (by kernel_rfl) (fun _ _ _ h => h) (Or.inl ⟨by rfl, ?hyn3⟩) (by assumption) ?_
    case hyn3 =>
      intro w hSw
      (try dsimp only at hSw)
      go_simp
      try with_reducible rfl
    try simp only [Act.put, List.setIfInBounds_toArray, List.set_cons_zero, List.set_cons_succ, List.getElem_toArray, List.getElem_cons_zero, List.getElem_cons_succ]
    refine wpAnyH_take (i := 4) (v := ?vn4) rfl (by kernel_rfl) (by kernel_rfl) (by kernel_rfl) (fun _ _ _ h => h) (Or.inl ⟨by rfl, ?hyn4⟩) (by assumption) ?_
    case hyn4 =>
      intro w hSw
      (try dsimp only at hSw)
      go_simp
      try with_reducible rfl
    try simp only [Act.put, List.setIfInBounds_toArray, List.set_cons_zero, List.set_cons_succ, List.getElem_toArray, List.getElem_cons_zero, List.getElem_cons_succ]
    refine wpAnyH_take (i := 5) (v := ?vn5) rfl (by kernel_rfl) (by kernel_rfl) (by kernel_rfl) (fun _ _ _ h => h) (Or.inl ⟨by rfl, ?hyn5⟩) (by assumption) ?_
    case hyn5 =>
      intro w hSw
      (try dsimp only at hSw)
      go_simp
      try with_reducible rfl
    try simp only [Act.put, List.setIfInBounds_toArray, List.set_cons_zero, List.set_cons_succ, List.getElem_toArray, List.getElem_cons_zero, List.getElem_cons_succ]
    refine wpAnyH_take (i := 6) (v := ?vn6) rfl (by kernel_rfl) (by kernel_rfl) (by kernel_rfl) (fun _ _ _ h => h) (Or.inl ⟨by rfl, ?hyn6⟩) (by assumption) ?_
    case hyn6 =>
      intro w hSw
      (try dsimp only at hSw)
      go_simp
      try with_reducible rfl
    try simp only [Act.put, List.setIfInBounds_toArray, List.set_cons_zero, List.set_cons_succ, List.getElem_toArray, List.getElem_cons_zero, List.getElem_cons_succ]
    refine wpAnyH_take (i := 7) (v := ?vn7) rfl (by kernel_rfl) (by kernel_rfl) (by kernel_rfl) (fun _ _ _ h => h) (Or.inl ⟨by rfl, ?hyn7⟩) (by assumption) ?_
    case hyn7 =>
      intro w hSw
      (try dsimp only at hSw)
      go_simp
      try with_reducible rfl
    try simp only [Act.put, List.setIfInBounds_toArray, List.set_cons_zero, List.set_cons_succ, List.getElem_toArray, List.getElem_cons_zero, List.getElem_cons_succ]
    refine wpAnyH_take (i := 8) (v := ?vn8) rfl (by kernel_rfl) (by kernel_rfl) (by kernel_rfl) (fun _ _ _ h => h) (Or.inl ⟨by rfl, ?hyn8⟩) (by assumption) ?_
    case hyn8 =>
      intro w hSw
      (try dsimp only at hSw)
      go_simp
      try with_reducible rfl
    try simp only [Act.put, List.setIfInBounds_toArray, List.set_cons_zero, List.set_cons_succ, List.getElem_toArray, List.getElem_cons_zero, List.getElem_cons_succ]
    refine wpAnyH_ready (rs := [9, 10]) (by kernel_rfl) (by simp) ?_
    refine AllReadyH.cons rfl (fun K hK => ?_) (AllReadyH.cons rfl (fun K hK => ?_) AllReadyH.nil)
    · go_simp
      refine (r_next a k sa sk _).mono ?_
      rintro e u1 ⟨rfl, k5⟩
      have HKu : Hid (Kept [] w4 u1) := HKu.out.trans k5 (by simp)
      have HS7 : Hid (_) := oek6 hHeld k5
      clear k5
      go_wp2_with fail
      refine hK.out _ _ ?_ (fun hHeld => ?_)
      · exact HS7.out
      clear HS7
      clear hK K
      try simp only [Act.put, List.setIfInBounds_toArray, List.set_cons_zero, List.set_cons_succ, List.getElem_toArray, List.getElem_cons_zero, List.getElem_cons_succ]
      refine wpAnyH_ready (rs := [10]) (by kernel_rfl) (by simp) ?_
      refine AllReadyH.cons rfl (fun K hK => ?_) AllReadyH.nil
      go_simp
      obtain ⟨u2, Y, HY, HKY, HBY⟩ := box1 u1 #[.int .i64 0, .int .i64 0] 35
      rw [HY.out.1, HY.out.2]
      clear HY
      have HY4 : Hid (w4.heap.size ≤ Y) := Nat.le_trans HKu.out.size HKY.out.2
      have HKu : Hid (Kept [] w4 u2) := HKu.out.trans HKY.out.1 (by simp)
      have HS8 : Hid (_) := oek6 hHeld HKY.out.1
      refine hK.out _ _ ?_ (fun hHeld => ?_)
      · exact HS8.out
      clear HS8 HKY
      clear hK K
      try simp only [Act.put, List.setIfInBounds_toArray, List.set_cons_zero, List.set_cons_succ, List.getElem_toArray, List.getElem_cons_zero, List.getElem_cons_succ]
      have g0 : u2.cell? ⟨Y, 0, none⟩ = some (.int .i64 0) := cellB HBY.out
      have g1 : u2.cell? ⟨Y, 1, none⟩ = some (.int .i64 0) := cellB HBY.out
      have f0 := frozen_of HBY.out 0
      have f1 := frozen_of HBY.out 1
      rw [HNx.out]
      obtain ⟨W5, hW5⟩ : ∃ W5, (u2.setCell ⟨Y, 0, none⟩ (.int .i64 nx)).setCell ⟨Y, 1, none⟩ (.int .i64 k) = W5 := ⟨_, rfl⟩
      have HK5 : Hid (Kept [] w4 W5) := by rw [← hW5]; exact (HKu.out.setCell (Or.inr HY4.out) _).setCell (Or.inr HY4.out) _
      have HB5 : Hid (W5.heap[Y]? = some (.cells #[.int .i64 nx, .int .i64 k] 35 (0, 0))) := by rw [← hW5]; exact (block_set (block_set HBY.out 0 _) 1 _).trans rfl
      refine wpAnyH_ready (rs := [11]) (by kernel_rfl) (by simp) ?_
      refine AllReadyH.cons rfl (fun K hK => ?_) AllReadyH.nil
      go_simp
      try rw [hW5]
      refine hK.out _ _ ?_ (fun hHeld => ?_)
      · exact oek6 HS5.out HK5.out
      clear hK K
      try simp only [Act.put, List.setIfInBounds_toArray, List.set_cons_zero, List.set_cons_succ, List.getElem_toArray, List.getElem_cons_zero, List.getElem_cons_succ]
      clear hW5 g0 g1 f0 f1
      refine wpAnyH_done (by kernel_rfl) ?_ _
      go_wp2_with fail
      go_meet
      case rel => exact ⟨Y, rfl, HB5.out, HK5.out, HY4.out⟩
    · go_simp
      obtain ⟨u1, Y, HY, HKY, HBY⟩ := box1 u0 #[.int .i64 0, .int .i64 0] 35
      rw [HY.out.1, HY.out.2]
      clear HY
      have HY4 : Hid (w4.heap.size ≤ Y) := Nat.le_trans HKu.out.size HKY.out.2
      have HKu : Hid (Kept [] w4 u1) := HKu.out.trans HKY.out.1 (by simp)
      have HS8 : Hid (_) := oek6 hHeld HKY.out.1
      refine hK.out _ _ ?_ (fun hHeld => ?_)
      · exact HS8.out
      clear HS8 HKY
      clear hK K
      try simp only [Act.put, List.setIfInBounds_toArray, List.set_cons_zero, List.set_cons_succ, List.getElem_toArray, List.getElem_cons_zero, List.getElem_cons_succ]
      refine wpAnyH_ready (rs := [9]) (by kernel_rfl) (by simp) ?_
      refine AllReadyH.cons rfl (fun K hK => ?_) AllReadyH.nil
      go_simp
      refine (r_next a k sa sk _).mono ?_
      rintro e u2 ⟨rfl, k5⟩
      have HKu : Hid (Kept [] w4 u2) := HKu.out.trans k5 (by simp)
      have HS7 : Hid (_) := oek6 hHeld k5
      have HBY : Hid (_) := (k5.block _ (lt_of_heap HBY.out) (by simp)).trans HBY.out
      clear k5
      go_wp2_with fail
      refine hK.out _ _ ?_ (fun hHeld => ?_)
      · exact HS7.out
      clear HS7
      clear hK K
      try simp only [Act.put, List.setIfInBounds_toArray, List.set_cons_zero, List.set_cons_succ, List.getElem_toArray, List.getElem_cons_zero, List.getElem_cons_succ]
      have g0 : u2.cell? ⟨Y, 0, none⟩ = some (.int .i64 0) := cellB HBY.out
      have g1 : u2.cell? ⟨Y, 1, none⟩ = some (.int .i64 0) := cellB HBY.out
      have f0 := frozen_of HBY.out 0
      have f1 := frozen_of HBY.out 1
      rw [HNx.out]
      obtain ⟨W5, hW5⟩ : ∃ W5, (u2.setCell ⟨Y, 0, none⟩ (.int .i64 nx)).setCell ⟨Y, 1, none⟩ (.int .i64 k) = W5 := ⟨_, rfl⟩
      have HK5 : Hid (Kept [] w4 W5) := by rw [← hW5]; exact (HKu.out.setCell (Or.inr HY4.out) _).setCell (Or.inr HY4.out) _
      have HB5 : Hid (W5.heap[Y]? = some (.cells #[.int .i64 nx, .int .i64 k] 35 (0, 0))) := by rw [← hW5]; exact (block_set (block_set HBY.out 0 _) 1 _).trans rfl
      refine wpAnyH_ready (rs := [11]) (by kernel_rfl) (by simp) ?_
      refine AllReadyH.cons rfl (fun K hK => ?_) AllReadyH.nil
      go_simp
      try rw [hW5]
      refine hK.out _ _ ?_ (fun hHeld => ?_)
      · exact oek6 HS5.out HK5.out
      clear hK K
      try simp only [Act.put, List.setIfInBounds_toArray, List.set_cons_zero, List.set_cons_succ, List.getElem_toArray, List.getElem_cons_zero, List.getElem_cons_succ]
      clear hW5 g0 g1 f0 f1
      refine wpAnyH_done (by kernel_rfl) ?_ _
      go_wp2_with fail
      go_meet
      case rel => exact ⟨Y, rfl, HB5.out, HK5.out, HY4.out⟩
  case rest =>
    obtain ⟨Y, rfl, HY⟩ := hcut
    have HK5 : Hid (Kept [] w4 wc) := HY.out.2.1
    have HS6 : Hid (wc.cell? ⟨q, 1, none⟩ = some (.slice (some ⟨gl, 0, none⟩) n n) ∧ wc.cell? ⟨X, 1, none⟩ = some (.int .i64 (i : Int)) ∧ wc.cell? ⟨Y, 0, none⟩ = some (.int .i64 nx) ∧ wc.cell? ⟨Y, 1, none⟩ = some (.int .i64 k)) := ⟨HK5.out.cell HS5.out.1 (by simp), HK5.out.cell HS5.out.2.1 (by simp), cellB HY.out.1, cellB HY.out.1⟩
    have HXY : Hid (X + 1 + 1 < Y) := Nat.lt_of_lt_of_le (lt_of_heap HB4.out.2.2) HY.out.2.2
    have HGX : Hid (gl ≠ q ∧ gl ≠ X ∧ gl ≠ Y) := by
      have h1 : X ≤ gl → False := HXb.out gl (mem_rb.2 (Or.inr (Or.inr (Or.inl rfl))))
      have h2 := HXY.out
      exact ⟨fun e => HL4.out.n2 e.symm, fun e => h1 (by omega), fun e => h1 (by omega)⟩
    have HGY : Hid (q ≠ gc ∧ X ≠ gc ∧ Y ≠ gc ∧ gl ≠ gc) := by
      have h1 : X ≤ gc → False := HXb.out gc (mem_rb.2 (Or.inr (Or.inl rfl)))
      have h2 := HXY.out
      exact ⟨HL4.out.n1, fun e => h1 (by omega), fun e => h1 (by omega), fun e => HL4.out.n3 e.symm⟩
    have HGZ : Hid (X + 1 + 1 ≠ gc ∧ X + 1 + 1 ≠ gl) := by
      have h1 : X ≤ gc → False := HXb.out gc (mem_rb.2 (Or.inr (Or.inl rfl)))
      have h2 : X ≤ gl → False := HXb.out gl (mem_rb.2 (Or.inr (Or.inr (Or.inl rfl))))
      exact ⟨fun e => h1 (by omega), fun e => h2 (by omega)⟩
    go_upto_region 6 with fail
    refine wp_region_held_drew (S := fun w' => w'.cell? ⟨q, 1, none⟩ = some (.slice (some ⟨gl, 0, none⟩) n n) ∧ w'.cell? ⟨X, 1, none⟩ = some (.int .i64 (i : Int)) ∧ w'.cell? ⟨Y, 0, none⟩ = some (.int .i64 nx) ∧ w'.cell? ⟨Y, 1, none⟩ = some (.int .i64 k)) (by kernel_rfl) ?_ (fun hHeld => ?_)
    · exact HS6.out
    obtain ⟨u0, hu0⟩ : ∃ u, wc.drew = u := ⟨_, rfl⟩
    have HKu : Hid (Kept [] wc u0) := by rw [← hu0]; exact (Kept.refl [] wc).drew
    rw [hu0] at hHeld ⊢
    clear hu0
    refine wpAnyH_take (i := 0) (v := ?vo0) rfl (by kernel_rfl) (by kernel_rfl) (by kernel_rfl) (fun _ _ _ h => h) (Or.inl ⟨by rfl, ?hyo0⟩) (by assumption) ?_
    case hyo0 =>
      intro w hSw
      (try dsimp only at hSw)
      go_simp
      try with_reducible rfl
    try simp only [Act.put, List.setIfInBounds_toArray, List.set_cons_zero, List.set_cons_succ, List.getElem_toArray, List.getElem_cons_zero, List.getElem_cons_succ]
    refine wpAnyH_take (i := 1) (v := ?vo1) rfl (by kernel_rfl) (by kernel_rfl) (by kernel_rfl) (fun _ _ _ h => h) (Or.inl ⟨by rfl, ?hyo1⟩) (by assumption) ?_
    case hyo1 =>
      intro w hSw
      (try dsimp only at hSw)
      go_simp
      try with_reducible rfl
    try simp only [Act.put, List.setIfInBounds_toArray, List.set_cons_zero, List.set_cons_succ, List.getElem_toArray, List.getElem_cons_zero, List.getElem_cons_succ]
    refine wpAnyH_take (i := 2) (v := ?vo2) rfl (by kernel_rfl) (by kernel_rfl) (by kernel_rfl) (fun _ _ _ h => h) (Or.inl ⟨by rfl, ?hyo2⟩) (by assumption) ?_
    case hyo2 =>
      intro w hSw
      (try dsimp only at hSw)
      go_simp
      try with_reducible rfl
    try simp only [Act.put, List.setIfInBounds_toArray, List.set_cons_zero, List.set_cons_succ, List.getElem_toArray, List.getElem_cons_zero, List.getElem_cons_succ]
    refine wpAnyH_take (i := 3) (v := ?vo3) rfl (by kernel_rfl) (by kernel_rfl) (by kernel_rfl) (fun _ _ _ h => h) (Or.inl ⟨by rfl, ?hyo3⟩) (by assumption) ?_
    case hyo3 =>
      intro w hSw
      (try dsimp only at hSw)
      go_simp
      try with_reducible rfl
    try simp only [Act.put, List.setIfInBounds_toArray, List.set_cons_zero, List.set_cons_succ, List.getElem_toArray, List.getElem_cons_zero, List.getElem_cons_succ]
    refine wpAnyH_take (i := 4) (v := ?vo4) rfl (by kernel_rfl) (by kernel_rfl) (by kernel_rfl) (fun _ _ _ h => h) (Or.inl ⟨by rfl, ?hyo4⟩) (by assumption) ?_
    case hyo4 =>
      intro w hSw
      (try dsimp only at hSw)
      go_simp
      try with_reducible rfl
    try simp only [Act.put, List.setIfInBounds_toArray, List.set_cons_zero, List.set_cons_succ, List.getElem_toArray, List.getElem_cons_zero, List.getElem_cons_succ]
    refine wpAnyH_take (i := 5) (v := ?vo5) rfl (by kernel_rfl) (by kernel_rfl) (by kernel_rfl) (fun _ _ _ h => h) (Or.inl ⟨by rfl, ?hyo5⟩) (by assumption) ?_
    case hyo5 =>
      intro w hSw
      (try dsimp only at hSw)
      go_simp
      try with_reducible rfl
    try simp only [Act.put, List.setIfInBounds_toArray, List.set_cons_zero, List.set_cons_succ, List.getElem_toArray, List.getElem_cons_zero, List.getElem_cons_succ]
    refine wpAnyH_take (i := 6) (v := ?vo6) rfl (by kernel_rfl) (by kernel_rfl) (by kernel_rfl) (fun _ _ _ h => h) (Or.inl ⟨by rfl, ?hyo6⟩) (by assumption) ?_
    case hyo6 =>
      intro w hSw
      (try dsimp only at hSw)
      go_simp
      try with_reducible rfl
    try simp only [Act.put, List.setIfInBounds_toArray, List.set_cons_zero, List.set_cons_succ, List.getElem_toArray, List.getElem_cons_zero, List.getElem_cons_succ]
    refine wpAnyH_take (i := 7) (v := ?vo7) rfl (by kernel_rfl) (by kernel_rfl) (by kernel_rfl) (fun _ _ _ h => h) (Or.inl ⟨by rfl, ?hyo7⟩) (by assumption) ?_
    case hyo7 =>
      intro w hSw
      (try dsimp only at hSw)
      go_simp
      try with_reducible rfl
    try simp only [Act.put, List.setIfInBounds_toArray, List.set_cons_zero, List.set_cons_succ, List.getElem_toArray, List.getElem_cons_zero, List.getElem_cons_succ]
    have HL5 : Hid (Re H u0 q gc gl C) := HL4.out.kept0 (HK5.out.trans HKu.out (by simp))
    have e1 : u0.cell? ⟨gl, i * 2, none⟩ = some (.int .i64 a) := by have := (HL5.out.last hi).1; rw [HA.out.1] at this; exact this
    have e2 : u0.cell? ⟨gl, i * 2 + 1, none⟩ = some (.int .i64 k) := by have := (HL5.out.last hi).2; rw [HA.out.2] at this; exact this
    have f1 := frozen_of HL5.out.las (i * 2)
    have f2 := frozen_of HL5.out.las (i * 2 + 1)
    have HS7 : Hid (_) := oek4 HS6.out HKu.out
    refine wpAnyH_ready (rs := [8]) (by kernel_rfl) (by simp) ?_
    refine AllReadyH.cons rfl (fun K hK => ?_) AllReadyH.nil
    go_simp
    refine hK.out _ _ ?_ (fun hHeld => ?_)
    · exact ⟨cell_far (cell_far HS7.out.1 HGX.out.1) HGX.out.1, cell_far (cell_far HS7.out.2.1 HGX.out.2.1) HGX.out.2.1, cell_far (cell_far HS7.out.2.2.1 HGX.out.2.2) HGX.out.2.2, cell_far (cell_far HS7.out.2.2.2 HGX.out.2.2) HGX.out.2.2⟩
    clear hK K
    try simp only [Act.put, List.setIfInBounds_toArray, List.set_cons_zero, List.set_cons_succ, List.getElem_toArray, List.getElem_cons_zero, List.getElem_cons_succ]
    clear e1 e2 f1 f2 HS7
    refine wpAnyH_done (by kernel_rfl) ?_ _
    obtain ⟨W6, hW6⟩ : ∃ W6, (u0.setCell ⟨gl, i * 2, none⟩ (.int .i64 nx)).setCell ⟨gl, i * 2 + 1, none⟩ (.int .i64 k) = W6 := ⟨_, rfl⟩
    rw [hW6]
    obtain ⟨C1, hC1⟩ : ∃ C1, C1 = C.set i ⟨.slice av m cv, R, nx, k⟩ := ⟨_, rfl⟩
    have HC1 : Hid (C1 = C.set i ⟨.slice av m cv, R, nx, k⟩) := hC1
    have hi6 : i < C1.length := by rw [hC1]; simpa using hi
    have HK56 : Hid (Kept [gl] u0 W6) := by rw [← hW6]; exact ((Kept.refl _ _).setCell (Or.inl (by simp)) _).setCell (Or.inl (by simp)) _
    have HP6 : Hid (_ ∧ _) := HL5.out.put hi ⟨.slice av m cv, R, nx, k⟩ (w1 := u0) (w2 := W6) (Kept.refl _ _) (by have := HL5.out.each i hi; rw [HV.out, HRe.out] at this; exact this) (fun x hx => Or.inl (by rw [HV.out]; exact hx)) (by rw [← HRe.out]; exact HL5.out.len i hi) (by rw [← HRe.out]; exact HL5.out.small i hi) (HK56.out.mono (by simp)) (by
        rw [HK56.out.block gc (lt_of_heap HL5.out.cors) (by simp; exact HL5.out.n3), HL5.out.cors, List.map_set]
        dsimp only
        rw [list_set_self (C.map Co.v) i (.slice av m cv) (by simp [hi, HV.out])]) (by
        rw [← hW6, block_set (block_set HL5.out.las _ _) _ _, laC_set _ _ _ hi]
        simp)
    rw [← hC1] at HP6
    have HL6 : Hid (Re H W6 q gc gl C1) := HP6.out.1
    have HBl : Hid (∀ x ∈ rb q gc gl C1, x ∈ rb q gc gl C) := fun x hx => by
      have hvb : ∀ j (hj : j < C1.length), ∃ hj' : j < C.length, (C1[j]).v = (C[j]).v := fun j hj => by
        subst hC1
        have hj' : j < C.length := by simpa using hj
        refine ⟨hj', ?_⟩
        by_cases e : i = j
        · subst e; simp [HV.out]
        · rw [List.getElem_set_ne e]
      rcases mem_rb.1 hx with h1 | h1 | h1 | ⟨j, hj, hb⟩
      · exact mem_rb.2 (Or.inl h1)
      · exact mem_rb.2 (Or.inr (Or.inl h1))
      · exact mem_rb.2 (Or.inr (Or.inr (Or.inl h1)))
      · obtain ⟨hj', e⟩ := hvb j hj
        exact mem_rb.2 (Or.inr (Or.inr (Or.inr ⟨j, hj', by rw [← e]; exact hb⟩)))
    have HV6 : Hid ((C1[i]).v = .slice av m cv) := by show _ = _; subst hC1; simp
    have HA6 : Hid ((C1[i]).a = nx ∧ (C1[i]).k = k) := by show _ ∧ _; subst hC1; simp
    have HN6 : Hid (R.length = m) := by show _ = _; rw [← HRe.out]; exact HN.out
    have HR6 : Hid (Rr W6 H (.slice av m cv) R) := by show Rr W6 H _ R; have := HL6.out.each i hi6; subst hC1; simpa using this
    have HSR : Hid (∀ r ∈ R, r.small) := by rw [← HRe.out]; exact HSR0.out
    have HSm : Hid (Rec.small ⟨nx, k, kind, i, fd, off, num, p1, p2, dat⟩) := HSm0.out
    have HK46 : Hid (Kept [gl] w4 W6) := ((HK5.out.trans HKu.out (by simp)).mono (by simp)).trans HK56.out (fun x hx => Or.inl hx)
    have HN1 : Hid (C1.length = n) := by show _ = _; rw [hC1]; simpa using HN0.out
    have HBk : Hid (W6.heap[q]? = some (.cells #[.slice (some ⟨gc, 0, none⟩) n n, .slice (some ⟨gl, 0, none⟩) n n] 50 (0, 0)) ∧ W6.heap[X]? = some (.cells #[.int .i64 kind, .int .i64 (i : Int), .int .i64 fd, .int .i64 off, .int .i64 num, .string p1, .string p2, .string dat] 33 (0, 0)) ∧ W6.heap[Y]? = some (.cells #[.int .i64 nx, .int .i64 k] 35 (0, 0))) := by
      refine ⟨by have := HL6.out.main; rw [HN1.out] at this; exact this, ?_, ?_⟩
      · exact (HK46.out.block _ (lt_of_heap HB4.out.1) (by simp; exact fun e => HGX.out.2.1 e.symm)).trans HB4.out.1
      · exact (HK56.out.block _ (Nat.lt_of_lt_of_le (lt_of_heap HY.out.1) HKu.out.size) (by simp; exact fun e => HGX.out.2.2 e.symm)).trans ((HKu.out.block _ (lt_of_heap HY.out.1) (by simp)).trans HY.out.1)
    have HB6 : Hid (W6.heap[X + 1 + 1]? = some (.cells #[.int .i64 0, .int .i64 0] 35 (0, 0))) := (HK46.out.block _ (lt_of_heap HB4.out.2.2) (by simp; exact HGZ.out.2)).trans HB4.out.2.2
    have HOff : Hid (∀ y, y = q ∨ y = gc ∨ y = gl ∨ X ≤ y → y ∉ (Value.slice av m cv).ownBlock.toList) := by
      intro y hy hm
      have hb : (Value.slice av m cv).ownBlock = some y := by simpa using hm
      have h3 := HL4.out.off i hi y (by rw [HV.out]; exact hb)
      rcases hy with e | e | e | e
      · exact h3.1 e
      · exact h3.2.1 e
      · exact h3.2.2 e
      · exact HXb.out y (mem_rb.2 (Or.inr (Or.inr (Or.inr ⟨i, hi, by rw [HV.out]; exact hb⟩)))) e
    have HOf : Hid (q ∉ (Value.slice av m cv).ownBlock.toList ∧ X ∉ (Value.slice av m cv).ownBlock.toList ∧ Y ∉ (Value.slice av m cv).ownBlock.toList ∧ gc ∉ (Value.slice av m cv).ownBlock.toList ∧ gl ∉ (Value.slice av m cv).ownBlock.toList) :=
      ⟨HOff.out q (Or.inl rfl), HOff.out X (Or.inr (Or.inr (Or.inr (Nat.le_refl _)))), HOff.out Y (Or.inr (Or.inr (Or.inr (by have := HXY.out; omega)))), HOff.out gc (Or.inr (Or.inl rfl)), HOff.out gl (Or.inr (Or.inr (Or.inl rfl)))⟩
    have HOf2 : Hid (X + 1 + 1 ∉ (Value.slice av m cv).ownBlock.toList) := HOff.out _ (Or.inr (Or.inr (Or.inr (by omega))))
    have HK06 : Hid (Kept (rb q gc gl C) w W6) := ((HK.out.1.trans HKU.out (by simp)).mono (by simp)).trans HK46.out (fun x hx => by
      have : x = gl := by simpa using hx
      exact Or.inl (mem_rb.2 (Or.inr (Or.inr (Or.inl this)))))
    have HH6 : Hid (H ≤ W6.heap.size) := Nat.le_trans HH.out HK06.out.size
    clear hW6 hC1 HP6 HK46 HK56 HL5 HKu hHeld HS6 HS5
    go_upto_region 7 with fail
    refine wp_region_held_drew (S := fun w' => w'.cell? ⟨q, 0, none⟩ = some (.slice (some ⟨gc, 0, none⟩) n n) ∧ w'.cell? ⟨X, 0, none⟩ = some (.int .i64 kind) ∧ w'.cell? ⟨X, 1, none⟩ = some (.int .i64 (i : Int)) ∧ w'.cell? ⟨X, 2, none⟩ = some (.int .i64 fd) ∧ w'.cell? ⟨X, 3, none⟩ = some (.int .i64 off) ∧ w'.cell? ⟨X, 4, none⟩ = some (.int .i64 num) ∧ w'.cell? ⟨X, 5, none⟩ = some (.string p1) ∧ w'.cell? ⟨X, 6, none⟩ = some (.string p2) ∧ w'.cell? ⟨X, 7, none⟩ = some (.string dat) ∧ w'.cell? ⟨Y, 0, none⟩ = some (.int .i64 nx) ∧ w'.cell? ⟨Y, 1, none⟩ = some (.int .i64 k)) (by kernel_rfl) ?_ (fun hHeld => ?_)
    · exact s7_of HBk.out (Kept.refl [] W6).drew (by simp) (by simp) (by simp)
    obtain ⟨u0, hu0⟩ : ∃ u, W6.drew = u := ⟨_, rfl⟩
    have HKu : Hid (Kept [] W6 u0) := by rw [← hu0]; exact (Kept.refl [] W6).drew
    rw [hu0] at hHeld ⊢
    clear hu0
    refine wpAnyH_take (i := 0) (v := ?vp0) rfl (by kernel_rfl) (by kernel_rfl) (by kernel_rfl) (fun _ _ _ h => h) (Or.inl ⟨by rfl, ?hyp0⟩) (by assumption) ?_
    case hyp0 =>
      intro w hSw
      (try dsimp only at hSw)
      go_simp
      try with_reducible rfl
    try simp only [Act.put, List.setIfInBounds_toArray, List.set_cons_zero, List.set_cons_succ, List.getElem_toArray, List.getElem_cons_zero, List.getElem_cons_succ]
    refine wpAnyH_take (i := 1) (v := ?vp1) rfl (by kernel_rfl) (by kernel_rfl) (by kernel_rfl) (fun _ _ _ h => h) (Or.inl ⟨by rfl, ?hyp1⟩) (by assumption) ?_
    case hyp1 =>
      intro w hSw
      (try dsimp only at hSw)
      go_simp
      try with_reducible rfl
    try simp only [Act.put, List.setIfInBounds_toArray, List.set_cons_zero, List.set_cons_succ, List.getElem_toArray, List.getElem_cons_zero, List.getElem_cons_succ]
    refine wpAnyH_take (i := 2) (v := ?vp2) rfl (by kernel_rfl) (by kernel_rfl) (by kernel_rfl) (fun _ _ _ h => h) (Or.inl ⟨by rfl, ?hyp2⟩) (by assumption) ?_
    case hyp2 =>
      intro w hSw
      (try dsimp only at hSw)
      go_simp
      try with_reducible rfl
    try simp only [Act.put, List.setIfInBounds_toArray, List.set_cons_zero, List.set_cons_succ, List.getElem_toArray, List.getElem_cons_zero, List.getElem_cons_succ]
    refine wpAnyH_take (i := 3) (v := ?vp3) rfl (by kernel_rfl) (by kernel_rfl) (by kernel_rfl) (fun _ _ _ h => h) (Or.inl ⟨by rfl, ?hyp3⟩) (by assumption) ?_
    case hyp3 =>
      intro w hSw
      (try dsimp only at hSw)
      go_simp
      try with_reducible rfl
    try simp only [Act.put, List.setIfInBounds_toArray, List.set_cons_zero, List.set_cons_succ, List.getElem_toArray, List.getElem_cons_zero, List.getElem_cons_succ]
    refine wpAnyH_take (i := 4) (v := ?vp4) rfl (by kernel_rfl) (by kernel_rfl) (by kernel_rfl) (fun _ _ _ h => h) (Or.inl ⟨by rfl, ?hyp4⟩) (by assumption) ?_
    case hyp4 =>
      intro w hSw
      (try dsimp only at hSw)
      go_simp
      try with_reducible rfl
    try simp only [Act.put, List.setIfInBounds_toArray, List.set_cons_zero, List.set_cons_succ, List.getElem_toArray, List.getElem_cons_zero, List.getElem_cons_succ]
    refine wpAnyH_take (i := 5) (v := ?vp5) rfl (by kernel_rfl) (by kernel_rfl) (by kernel_rfl) (fun _ _ _ h => h) (Or.inl ⟨by rfl, ?hyp5⟩) (by assumption) ?_
    case hyp5 =>
      intro w hSw
      (try dsimp only at hSw)
      go_simp
      try with_reducible rfl
    try simp only [Act.put, List.setIfInBounds_toArray, List.set_cons_zero, List.set_cons_succ, List.getElem_toArray, List.getElem_cons_zero, List.getElem_cons_succ]
    refine wpAnyH_take (i := 6) (v := ?vp6) rfl (by kernel_rfl) (by kernel_rfl) (by kernel_rfl) (fun _ _ _ h => h) (Or.inl ⟨by rfl, ?hyp6⟩) (by assumption) ?_
    case hyp6 =>
      intro w hSw
      (try dsimp only at hSw)
      go_simp
      try with_reducible rfl
    try simp only [Act.put, List.setIfInBounds_toArray, List.set_cons_zero, List.set_cons_succ, List.getElem_toArray, List.getElem_cons_zero, List.getElem_cons_succ]
    refine wpAnyH_take (i := 7) (v := ?vp7) rfl (by kernel_rfl) (by kernel_rfl) (by kernel_rfl) (fun _ _ _ h => h) (Or.inl ⟨by rfl, ?hyp7⟩) (by assumption) ?_
    case hyp7 =>
      intro w hSw
      (try dsimp only at hSw)
      go_simp
      try with_reducible rfl
    try simp only [Act.put, List.setIfInBounds_toArray, List.set_cons_zero, List.set_cons_succ, List.getElem_toArray, List.getElem_cons_zero, List.getElem_cons_succ]
    refine wpAnyH_take (i := 8) (v := ?vp8) rfl (by kernel_rfl) (by kernel_rfl) (by kernel_rfl) (fun _ _ _ h => h) (Or.inl ⟨by rfl, ?hyp8⟩) (by assumption) ?_
    case hyp8 =>
      intro w hSw
      (try dsimp only at hSw)
      go_simp
      try with_reducible rfl
    try simp only [Act.put, List.setIfInBounds_toArray, List.set_cons_zero, List.set_cons_succ, List.getElem_toArray, List.getElem_cons_zero, List.getElem_cons_succ]
    refine wpAnyH_take (i := 9) (v := ?vp9) rfl (by kernel_rfl) (by kernel_rfl) (by kernel_rfl) (fun _ _ _ h => h) (Or.inl ⟨by rfl, ?hyp9⟩) (by assumption) ?_
    case hyp9 =>
      intro w hSw
      (try dsimp only at hSw)
      go_simp
      try with_reducible rfl
    try simp only [Act.put, List.setIfInBounds_toArray, List.set_cons_zero, List.set_cons_succ, List.getElem_toArray, List.getElem_cons_zero, List.getElem_cons_succ]
    refine wpAnyH_take (i := 10) (v := ?vp10) rfl (by kernel_rfl) (by kernel_rfl) (by kernel_rfl) (fun _ _ _ h => h) (Or.inl ⟨by rfl, ?hyp10⟩) (by assumption) ?_
    case hyp10 =>
      intro w hSw
      (try dsimp only at hSw)
      go_simp
      try with_reducible rfl
    try simp only [Act.put, List.setIfInBounds_toArray, List.set_cons_zero, List.set_cons_succ, List.getElem_toArray, List.getElem_cons_zero, List.getElem_cons_succ]
    refine wpAnyH_take (i := 11) (v := ?vp11) rfl (by kernel_rfl) (by kernel_rfl) (by kernel_rfl) (fun _ _ _ h => h) (Or.inl ⟨by rfl, ?hyp11⟩) (by assumption) ?_
    case hyp11 =>
      intro w hSw
      (try dsimp only at hSw)
      go_simp
      try with_reducible rfl
    try simp only [Act.put, List.setIfInBounds_toArray, List.set_cons_zero, List.set_cons_succ, List.getElem_toArray, List.getElem_cons_zero, List.getElem_cons_succ]
    refine wpAnyH_take (i := 12) (v := ?vp12) rfl (by kernel_rfl) (by kernel_rfl) (by kernel_rfl) (fun _ _ _ h => h) (Or.inl ⟨by rfl, ?hyp12⟩) (by assumption) ?_
    case hyp12 =>
      intro w hSw
      (try dsimp only at hSw)
      go_simp
      try with_reducible rfl
    try simp only [Act.put, List.setIfInBounds_toArray, List.set_cons_zero, List.set_cons_succ, List.getElem_toArray, List.getElem_cons_zero, List.getElem_cons_succ]
    refine wpAnyH_take (i := 14) (v := ?vp14) rfl (by kernel_rfl) (by kernel_rfl) (by kernel_rfl) (fun _ _ _ h => h) (Or.inl ⟨by rfl, ?hyp14⟩) (by assumption) ?_
    case hyp14 =>
      intro w hSw
      (try dsimp only at hSw)
      go_simp
      try with_reducible rfl
    try simp only [Act.put, List.setIfInBounds_toArray, List.set_cons_zero, List.set_cons_succ, List.getElem_toArray, List.getElem_cons_zero, List.getElem_cons_succ]
    refine wpAnyH_take (i := 15) (v := ?vp15) rfl (by kernel_rfl) (by kernel_rfl) (by kernel_rfl) (fun _ _ _ h => h) (Or.inl ⟨by rfl, ?hyp15⟩) (by assumption) ?_
    case hyp15 =>
      intro w hSw
      (try dsimp only at hSw)
      go_simp
      try with_reducible rfl
    try simp only [Act.put, List.setIfInBounds_toArray, List.set_cons_zero, List.set_cons_succ, List.getElem_toArray, List.getElem_cons_zero, List.getElem_cons_succ]
    refine wpAnyH_take (i := 16) (v := ?vp16) rfl (by kernel_rfl) (by kernel_rfl) (by kernel_rfl) (fun _ _ _ h => h) (Or.inl ⟨by rfl, ?hyp16⟩) (by assumption) ?_
    case hyp16 =>
      intro w hSw
      (try dsimp only at hSw)
      go_simp
      try with_reducible rfl
    try simp only [Act.put, List.setIfInBounds_toArray, List.set_cons_zero, List.set_cons_succ, List.getElem_toArray, List.getElem_cons_zero, List.getElem_cons_succ]
    refine wpAnyH_ready (rs := [13, 17]) (by kernel_rfl) (by simp) ?_
    refine AllReadyH.cons rfl (fun K hK => ?_) (AllReadyH.cons rfl (fun K hK => ?_) AllReadyH.nil)
    · have e0 : u0.cell? ⟨gc, i, none⟩ = some (.slice av m cv) := ((HL6.out.kept0 HKu.out).row hi6).trans (congrArg some HV6.out)
      go_simp
      refine hK.out _ _ ?_ (fun hHeld => ?_)
      · exact s7_of HBk.out HKu.out (by simp) (by simp) (by simp)
      clear e0
      clear hK K
      try simp only [Act.put, List.setIfInBounds_toArray, List.set_cons_zero, List.set_cons_succ, List.getElem_toArray, List.getElem_cons_zero, List.getElem_cons_succ]
      refine wpAnyH_ready (rs := [17]) (by kernel_rfl) (by simp) ?_
      refine AllReadyH.cons rfl (fun K hK => ?_) AllReadyH.nil
      go_simp
      obtain ⟨u1, Z, HZ, HKZ, HBZ⟩ := box1 u0 #[.int .i64 nx, .int .i64 k, .int .i64 kind, .int .i64 (i : Int), .int .i64 fd, .int .i64 off, .int .i64 num, .string p1, .string p2, .string dat] 57
      rw [HZ.out.1, HZ.out.2]
      clear HZ
      have HKu : Hid (Kept [] W6 u1) := HKu.out.trans HKZ.out.1 (by simp)
      refine hK.out _ _ ?_ (fun hHeld => ?_)
      · exact s7_of HBk.out HKu.out (by simp) (by simp) (by simp)
      clear HKZ
      clear hK K
      try simp only [Act.put, List.setIfInBounds_toArray, List.set_cons_zero, List.set_cons_succ, List.getElem_toArray, List.getElem_cons_zero, List.getElem_cons_succ]
      have hbZ : ∀ j u, (Rec.cs ⟨nx, k, kind, i, fd, off, num, p1, p2, dat⟩)[j]? = some u → u1.cell? ⟨Z, j, none⟩ = some u := fun j u hu => by rw [cellB HBZ.out, ← hu]; simp [Rec.cs]
      obtain ⟨gn, cn, w9, hr9, rr9, gr9, hg9, -⟩ := append_rec (R := R) (v := .slice av m cv) ((HR6.out.kept HKu.out (by simp))) (Nat.le_trans HH6.out HKu.out.size) Z ⟨nx, k, kind, i, fd, off, num, p1, p2, dat⟩ hbZ (by have := HN6.out; omega) 44
      rw [HN6.out] at hr9 rr9
      have HAp : Hid (_) := hr9
      have HK9 : Hid (Kept (Value.slice av m cv).ownBlock.toList W6 w9) := (HKu.out.mono (by simp)).grown gr9 (fun x hx => Or.inl (by simpa using hx))
      have HR9 : Hid (Rr w9 H (.slice (some ⟨gn, 0, none⟩) (m + 1) cn) (R ++ [⟨nx, k, kind, i, fd, off, num, p1, p2, dat⟩]) ∧ ((Value.slice av m cv).ownBlock = some gn ∨ W6.heap.size ≤ gn)) := ⟨rr9, hg9.imp id (fun e => by have := HKu.out.size; omega)⟩
      have HS9 : Hid (_) := s7_of HBk.out HK9.out HOf.out.1 HOf.out.2.1 HOf.out.2.2.1
      clear hbZ hr9 rr9 gr9 hg9
      refine wpAnyH_ready (rs := [18]) (by kernel_rfl) (by simp) ?_
      refine AllReadyH.cons rfl (fun K hK => ?_) AllReadyH.nil
      refine step_append_run9 (by rfl) _ _ 44 44 (by rfl) _ _ (by rfl) (by rfl) _ _ HAp.out ?_
      refine hK.out _ _ ?_ (fun hHeld => ?_)
      · exact HS9.out
      clear hK K
      try simp only [Act.put, List.setIfInBounds_toArray, List.set_cons_zero, List.set_cons_succ, List.getElem_toArray, List.getElem_cons_zero, List.getElem_cons_succ]
      refine wpAnyH_take (i := 19) (v := ?vp19) rfl (by kernel_rfl) (by kernel_rfl) (by kernel_rfl) (fun _ _ _ h => h) (Or.inl ⟨by rfl, ?hyp19⟩) (by assumption) ?_
      case hyp19 =>
        intro w hSw
        (try dsimp only at hSw)
        go_simp
        try with_reducible rfl
      try simp only [Act.put, List.setIfInBounds_toArray, List.set_cons_zero, List.set_cons_succ, List.getElem_toArray, List.getElem_cons_zero, List.getElem_cons_succ]
      have HC9 : Hid (w9.heap[gc]? = some (.cells (C1.map Co.v).toArray 44 (0, 0))) := (HK9.out.block gc (lt_of_heap HL6.out.cors) HOf.out.2.2.2.1).trans HL6.out.cors
      have HLa9 : Hid (w9.heap[gl]? = some (.cells (laC C1).toArray 35 (0, 0))) := (HK9.out.block gl (lt_of_heap HL6.out.las) HOf.out.2.2.2.2).trans HL6.out.las
      have e0 : w9.cell? ⟨gc, i, none⟩ = some (.slice av m cv) := by rw [cellB HC9.out]; simp [hi6, HV6.out]
      have f0 := frozen_of HC9.out i
      obtain ⟨W9, hW9⟩ : ∃ W9, w9.setCell ⟨gc, i, none⟩ (.slice (some ⟨gn, 0, none⟩) (m + 1) cn) = W9 := ⟨_, rfl⟩
      have HK99 : Hid (Kept [gc] w9 W9) := by rw [← hW9]; exact (Kept.refl _ _).setCell (Or.inl (by simp)) _
      have HBq : Hid (_ ∧ _ ∧ _) := ⟨(HK9.out.block q (lt_of_heap HBk.out.1) HOf.out.1).trans HBk.out.1, (HK9.out.block X (lt_of_heap HBk.out.2.1) HOf.out.2.1).trans HBk.out.2.1, (HK9.out.block Y (lt_of_heap HBk.out.2.2) HOf.out.2.2.1).trans HBk.out.2.2⟩
      refine wpAnyH_ready (rs := [20]) (by kernel_rfl) (by simp) ?_
      refine AllReadyH.cons rfl (fun K hK => ?_) AllReadyH.nil
      go_simp
      try rw [hW9]
      refine hK.out _ _ ?_ (fun hHeld => ?_)
      · exact s7_of HBq.out HK99.out (by simp; exact HGY.out.1) (by simp; exact HGY.out.2.1) (by simp; exact HGY.out.2.2.1)
      clear hK K
      try simp only [Act.put, List.setIfInBounds_toArray, List.set_cons_zero, List.set_cons_succ, List.getElem_toArray, List.getElem_cons_zero, List.getElem_cons_succ]
      refine wpAnyH_done (by kernel_rfl) ?_ _
      have HP : Hid (_ ∧ _) := HL6.out.put hi6 ⟨.slice (some ⟨gn, 0, none⟩) (m + 1) cn, R ++ [⟨nx, k, kind, i, fd, off, num, p1, p2, dat⟩], nx, k⟩ (w1 := w9) (w2 := W9) (by rw [HV6.out]; exact HK9.out) HR9.out.1 (fun x hx => by rw [HV6.out]; simp [Value.ownBlock] at hx; subst hx; exact HR9.out.2) (by have := HN6.out; simp; omega) (fun r hr => by
          rcases List.mem_append.1 hr with h1 | h1
          · exact HSR.out r h1
          · simp at h1; rw [h1]; exact HSm.out) (HK99.out.mono (by simp)) (by
          rw [← hW9, block_set HC9.out, List.map_set]
          simp) (by
          rw [HK99.out.block gl (lt_of_heap HLa9.out) (by simp; exact HGY.out.2.2.2), HLa9.out, laC_set _ _ _ hi6]
          obtain ⟨y1, y2⟩ := laC_get C1 i _ (List.getElem?_eq_getElem hi6)
          rw [HA6.out.1] at y1
          rw [HA6.out.2] at y2
          dsimp only
          rw [list_set_self (laC C1) (i * 2) (.int .i64 nx) y1, list_set_self (laC C1) (i * 2 + 1) (.int .i64 k) y2])
      have HB9 : Hid (W9.heap[X + 1 + 1]? = some (.cells #[.int .i64 0, .int .i64 0] 35 (0, 0))) := by
        show _ = _
        rw [HK99.out.block _ (Nat.lt_of_lt_of_le (lt_of_heap HB6.out) HK9.out.size) (by simp; exact HGZ.out.1)]
        exact (HK9.out.block _ (lt_of_heap HB6.out) HOf2.out).trans HB6.out
      have HBY9 : Hid (W9.heap[Y]? = some (.cells #[.int .i64 nx, .int .i64 k] 35 (0, 0))) := (HK99.out.block Y (lt_of_heap HBq.out.2.2) (by simp; exact HGY.out.2.2.1)).trans HBq.out.2.2
      have HKw : Hid (Kept (rb q gc gl C) w W9) := by
        refine (HK06.out.trans HK9.out ?_).trans HK99.out ?_
        · intro x hx
          exact Or.inl (mem_rb.2 (Or.inr (Or.inr (Or.inr ⟨i, hi, by rw [HV.out]; simpa using hx⟩))))
        · intro x hx
          exact Or.inl (mem_rb.2 (Or.inr (Or.inl (by simpa using hx))))
      clear hW9 e0 f0 HS9 HK9 HK99 HC9 HLa9 HBq hHeld
      have y1 : W9.cell? ⟨Y, 0, none⟩ = some (.int .i64 nx) := cellB HBY9.out
      have y2 : W9.cell? ⟨Y, 1, none⟩ = some (.int .i64 k) := cellB HBY9.out
      have g0 : W9.cell? ⟨X + 1 + 1, 0, none⟩ = some (.int .i64 0) := cellB HB9.out
      have g1 : W9.cell? ⟨X + 1 + 1, 1, none⟩ = some (.int .i64 0) := cellB HB9.out
      have q0 := frozen_of HB9.out 0
      have q1 := frozen_of HB9.out 1
      go_wp2_with fail
      (try simp only [Exit.inBlock, Exit.then])
      refine bodyPost_ret (results_ct rfl _ _ (X + 1 + 1) 35 #[.int .i64 nx, .int .i64 k] (0, 0) _ (.int .i64 0) rfl rfl (block_set (block_set HB9.out 0 _) 1 _) Try.underlying35 rfl (by kernel_rfl)) rfl ?_
      have hX2 : w.heap.size ≤ X + 1 + 1 := by have := HK.out.2; omega
      have k9 : Kept [X + 1 + 1] W9 ((W9.setCell ⟨X + 1 + 1, 0, none⟩ (.int .i64 nx)).setCell ⟨X + 1 + 1, 1, none⟩ (.int .i64 k)) := ((Kept.refl _ _).setCell (p := ⟨X + 1 + 1, 0, none⟩) (Or.inl (by simp)) _).setCell (p := ⟨X + 1 + 1, 1, none⟩) (Or.inl (by simp)) _
      have eC : C1.set i ⟨.slice (some ⟨gn, 0, none⟩) (m + 1) cn, R ++ [⟨nx, k, kind, i, fd, off, num, p1, p2, dat⟩], nx, k⟩ = C.set i ⟨.slice (some ⟨gn, 0, none⟩) (m + 1) cn, (C[i]).R ++ [addR C[i] kind i fd off num p1 p2 dat sa sk], nextS (C[i]).a (C[i]).k sa sk, (C[i]).k⟩ := by
        rw [HC1.out, List.set_set]
        simp only [addR, HRe.out, HA.out.1, HA.out.2, HNx.out]
      refine ⟨by rw [HA.out.1, HA.out.2, HNx.out], .slice (some ⟨gn, 0, none⟩) (m + 1) cn, ?_, (HKw.out.setCell (p := ⟨X + 1 + 1, 0, none⟩) (Or.inr hX2) _).setCell (p := ⟨X + 1 + 1, 1, none⟩) (Or.inr hX2) _, ?_⟩
      · have hL := HP.out.1.kept k9 (fun x hx => by
          have : x = X + 1 + 1 := by simpa using hx
          subst this
          intro hm
          rcases HP.out.2 _ hm with h1 | h1
          · exact HXb.out (X + 1 + 1) (HBl.out _ h1) (by omega)
          · have := lt_of_heap HB6.out; omega)
        rw [← eC]
        exact hL
      · intro x hx
        rw [← eC] at hx
        rcases HP.out.2 x hx with h1 | h1
        · exact Or.inl (HBl.out x h1)
        · exact Or.inr (by have := HK06.out.size; omega)
    · go_simp
      obtain ⟨u1, Z, HZ, HKZ, HBZ⟩ := box1 u0 #[.int .i64 nx, .int .i64 k, .int .i64 kind, .int .i64 (i : Int), .int .i64 fd, .int .i64 off, .int .i64 num, .string p1, .string p2, .string dat] 57
      rw [HZ.out.1, HZ.out.2]
      clear HZ
      have HKu : Hid (Kept [] W6 u1) := HKu.out.trans HKZ.out.1 (by simp)
      refine hK.out _ _ ?_ (fun hHeld => ?_)
      · exact s7_of HBk.out HKu.out (by simp) (by simp) (by simp)
      clear HKZ
      clear hK K
      try simp only [Act.put, List.setIfInBounds_toArray, List.set_cons_zero, List.set_cons_succ, List.getElem_toArray, List.getElem_cons_zero, List.getElem_cons_succ]
      refine wpAnyH_ready (rs := [13]) (by kernel_rfl) (by simp) ?_
      refine AllReadyH.cons rfl (fun K hK => ?_) AllReadyH.nil
      have e0 : u1.cell? ⟨gc, i, none⟩ = some (.slice av m cv) := ((HL6.out.kept0 HKu.out).row hi6).trans (congrArg some HV6.out)
      go_simp
      refine hK.out _ _ ?_ (fun hHeld => ?_)
      · exact s7_of HBk.out HKu.out (by simp) (by simp) (by simp)
      clear e0
      clear hK K
      try simp only [Act.put, List.setIfInBounds_toArray, List.set_cons_zero, List.set_cons_succ, List.getElem_toArray, List.getElem_cons_zero, List.getElem_cons_succ]
      have hbZ : ∀ j u, (Rec.cs ⟨nx, k, kind, i, fd, off, num, p1, p2, dat⟩)[j]? = some u → u1.cell? ⟨Z, j, none⟩ = some u := fun j u hu => by rw [cellB HBZ.out, ← hu]; simp [Rec.cs]
      obtain ⟨gn, cn, w9, hr9, rr9, gr9, hg9, -⟩ := append_rec (R := R) (v := .slice av m cv) ((HR6.out.kept HKu.out (by simp))) (Nat.le_trans HH6.out HKu.out.size) Z ⟨nx, k, kind, i, fd, off, num, p1, p2, dat⟩ hbZ (by have := HN6.out; omega) 44
      rw [HN6.out] at hr9 rr9
      have HAp : Hid (_) := hr9
      have HK9 : Hid (Kept (Value.slice av m cv).ownBlock.toList W6 w9) := (HKu.out.mono (by simp)).grown gr9 (fun x hx => Or.inl (by simpa using hx))
      have HR9 : Hid (Rr w9 H (.slice (some ⟨gn, 0, none⟩) (m + 1) cn) (R ++ [⟨nx, k, kind, i, fd, off, num, p1, p2, dat⟩]) ∧ ((Value.slice av m cv).ownBlock = some gn ∨ W6.heap.size ≤ gn)) := ⟨rr9, hg9.imp id (fun e => by have := HKu.out.size; omega)⟩
      have HS9 : Hid (_) := s7_of HBk.out HK9.out HOf.out.1 HOf.out.2.1 HOf.out.2.2.1
      clear hbZ hr9 rr9 gr9 hg9
      refine wpAnyH_ready (rs := [18]) (by kernel_rfl) (by simp) ?_
      refine AllReadyH.cons rfl (fun K hK => ?_) AllReadyH.nil
      refine step_append_run9 (by rfl) _ _ 44 44 (by rfl) _ _ (by rfl) (by rfl) _ _ HAp.out ?_
      refine hK.out _ _ ?_ (fun hHeld => ?_)
      · exact HS9.out
      clear hK K
      try simp only [Act.put, List.setIfInBounds_toArray, List.set_cons_zero, List.set_cons_succ, List.getElem_toArray, List.getElem_cons_zero, List.getElem_cons_succ]
      refine wpAnyH_take (i := 19) (v := ?vp19) rfl (by kernel_rfl) (by kernel_rfl) (by kernel_rfl) (fun _ _ _ h => h) (Or.inl ⟨by rfl, ?hyp19⟩) (by assumption) ?_
      case hyp19 =>
        intro w hSw
        (try dsimp only at hSw)
        go_simp
        try with_reducible rfl
      try simp only [Act.put, List.setIfInBounds_toArray, List.set_cons_zero, List.set_cons_succ, List.getElem_toArray, List.getElem_cons_zero, List.getElem_cons_succ]
      have HC9 : Hid (w9.heap[gc]? = some (.cells (C1.map Co.v).toArray 44 (0, 0))) := (HK9.out.block gc (lt_of_heap HL6.out.cors) HOf.out.2.2.2.1).trans HL6.out.cors
      have HLa9 : Hid (w9.heap[gl]? = some (.cells (laC C1).toArray 35 (0, 0))) := (HK9.out.block gl (lt_of_heap HL6.out.las) HOf.out.2.2.2.2).trans HL6.out.las
      have e0 : w9.cell? ⟨gc, i, none⟩ = some (.slice av m cv) := by rw [cellB HC9.out]; simp [hi6, HV6.out]
      have f0 := frozen_of HC9.out i
      obtain ⟨W9, hW9⟩ : ∃ W9, w9.setCell ⟨gc, i, none⟩ (.slice (some ⟨gn, 0, none⟩) (m + 1) cn) = W9 := ⟨_, rfl⟩
      have HK99 : Hid (Kept [gc] w9 W9) := by rw [← hW9]; exact (Kept.refl _ _).setCell (Or.inl (by simp)) _
      have HBq : Hid (_ ∧ _ ∧ _) := ⟨(HK9.out.block q (lt_of_heap HBk.out.1) HOf.out.1).trans HBk.out.1, (HK9.out.block X (lt_of_heap HBk.out.2.1) HOf.out.2.1).trans HBk.out.2.1, (HK9.out.block Y (lt_of_heap HBk.out.2.2) HOf.out.2.2.1).trans HBk.out.2.2⟩
      refine wpAnyH_ready (rs := [20]) (by kernel_rfl) (by simp) ?_
      refine AllReadyH.cons rfl (fun K hK => ?_) AllReadyH.nil
      go_simp
      try rw [hW9]
      refine hK.out _ _ ?_ (fun hHeld => ?_)
      · exact s7_of HBq.out HK99.out (by simp; exact HGY.out.1) (by simp; exact HGY.out.2.1) (by simp; exact HGY.out.2.2.1)
      clear hK K
      try simp only [Act.put, List.setIfInBounds_toArray, List.set_cons_zero, List.set_cons_succ, List.getElem_toArray, List.getElem_cons_zero, List.getElem_cons_succ]
      refine wpAnyH_done (by kernel_rfl) ?_ _
      have HP : Hid (_ ∧ _) := HL6.out.put hi6 ⟨.slice (some ⟨gn, 0, none⟩) (m + 1) cn, R ++ [⟨nx, k, kind, i, fd, off, num, p1, p2, dat⟩], nx, k⟩ (w1 := w9) (w2 := W9) (by rw [HV6.out]; exact HK9.out) HR9.out.1 (fun x hx => by rw [HV6.out]; simp [Value.ownBlock] at hx; subst hx; exact HR9.out.2) (by have := HN6.out; simp; omega) (fun r hr => by
          rcases List.mem_append.1 hr with h1 | h1
          · exact HSR.out r h1
          · simp at h1; rw [h1]; exact HSm.out) (HK99.out.mono (by simp)) (by
          rw [← hW9, block_set HC9.out, List.map_set]
          simp) (by
          rw [HK99.out.block gl (lt_of_heap HLa9.out) (by simp; exact HGY.out.2.2.2), HLa9.out, laC_set _ _ _ hi6]
          obtain ⟨y1, y2⟩ := laC_get C1 i _ (List.getElem?_eq_getElem hi6)
          rw [HA6.out.1] at y1
          rw [HA6.out.2] at y2
          dsimp only
          rw [list_set_self (laC C1) (i * 2) (.int .i64 nx) y1, list_set_self (laC C1) (i * 2 + 1) (.int .i64 k) y2])
      have HB9 : Hid (W9.heap[X + 1 + 1]? = some (.cells #[.int .i64 0, .int .i64 0] 35 (0, 0))) := by
        show _ = _
        rw [HK99.out.block _ (Nat.lt_of_lt_of_le (lt_of_heap HB6.out) HK9.out.size) (by simp; exact HGZ.out.1)]
        exact (HK9.out.block _ (lt_of_heap HB6.out) HOf2.out).trans HB6.out
      have HBY9 : Hid (W9.heap[Y]? = some (.cells #[.int .i64 nx, .int .i64 k] 35 (0, 0))) := (HK99.out.block Y (lt_of_heap HBq.out.2.2) (by simp; exact HGY.out.2.2.1)).trans HBq.out.2.2
      have HKw : Hid (Kept (rb q gc gl C) w W9) := by
        refine (HK06.out.trans HK9.out ?_).trans HK99.out ?_
        · intro x hx
          exact Or.inl (mem_rb.2 (Or.inr (Or.inr (Or.inr ⟨i, hi, by rw [HV.out]; simpa using hx⟩))))
        · intro x hx
          exact Or.inl (mem_rb.2 (Or.inr (Or.inl (by simpa using hx))))
      clear hW9 e0 f0 HS9 HK9 HK99 HC9 HLa9 HBq hHeld
      have y1 : W9.cell? ⟨Y, 0, none⟩ = some (.int .i64 nx) := cellB HBY9.out
      have y2 : W9.cell? ⟨Y, 1, none⟩ = some (.int .i64 k) := cellB HBY9.out
      have g0 : W9.cell? ⟨X + 1 + 1, 0, none⟩ = some (.int .i64 0) := cellB HB9.out
      have g1 : W9.cell? ⟨X + 1 + 1, 1, none⟩ = some (.int .i64 0) := cellB HB9.out
      have q0 := frozen_of HB9.out 0
      have q1 := frozen_of HB9.out 1
      go_wp2_with fail
      (try simp only [Exit.inBlock, Exit.then])
      refine bodyPost_ret (results_ct rfl _ _ (X + 1 + 1) 35 #[.int .i64 nx, .int .i64 k] (0, 0) _ (.int .i64 0) rfl rfl (block_set (block_set HB9.out 0 _) 1 _) Try.underlying35 rfl (by kernel_rfl)) rfl ?_
      have hX2 : w.heap.size ≤ X + 1 + 1 := by have := HK.out.2; omega
      have k9 : Kept [X + 1 + 1] W9 ((W9.setCell ⟨X + 1 + 1, 0, none⟩ (.int .i64 nx)).setCell ⟨X + 1 + 1, 1, none⟩ (.int .i64 k)) := ((Kept.refl _ _).setCell (p := ⟨X + 1 + 1, 0, none⟩) (Or.inl (by simp)) _).setCell (p := ⟨X + 1 + 1, 1, none⟩) (Or.inl (by simp)) _
      have eC : C1.set i ⟨.slice (some ⟨gn, 0, none⟩) (m + 1) cn, R ++ [⟨nx, k, kind, i, fd, off, num, p1, p2, dat⟩], nx, k⟩ = C.set i ⟨.slice (some ⟨gn, 0, none⟩) (m + 1) cn, (C[i]).R ++ [addR C[i] kind i fd off num p1 p2 dat sa sk], nextS (C[i]).a (C[i]).k sa sk, (C[i]).k⟩ := by
        rw [HC1.out, List.set_set]
        simp only [addR, HRe.out, HA.out.1, HA.out.2, HNx.out]
      refine ⟨by rw [HA.out.1, HA.out.2, HNx.out], .slice (some ⟨gn, 0, none⟩) (m + 1) cn, ?_, (HKw.out.setCell (p := ⟨X + 1 + 1, 0, none⟩) (Or.inr hX2) _).setCell (p := ⟨X + 1 + 1, 1, none⟩) (Or.inr hX2) _, ?_⟩
      · have hL := HP.out.1.kept k9 (fun x hx => by
          have : x = X + 1 + 1 := by simpa using hx
          subst this
          intro hm
          rcases HP.out.2 _ hm with h1 | h1
          · exact HXb.out (X + 1 + 1) (HBl.out _ h1) (by omega)
          · have := lt_of_heap HB6.out; omega)
        rw [← eC]
        exact hL
      · intro x hx
        rw [← eC] at hx
        rcases HP.out.2 x hx with h1 | h1
        · exact Or.inl (HBl.out x h1)
        · exact Or.inr (by have := HK06.out.size; omega)

end Go.Proofs.Ytlecpeofjabndaa
