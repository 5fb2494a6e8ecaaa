/-
  What every program answers that is one: awake.
-/
import Derived.Test.YtlecpeofjabndaaLr
namespace Go.Proofs.Ytlecpeofjabndaa
open Go.RowKit
set_option linter.unusedVariables false
set_option linter.unusedSimpArgs false

theorem s6_kept {w w' : World} {X Y gm : Nat} {u0 u1 u2 u3 u4 u5 : Value} (h : w.cell? ⟨X, 0, none⟩ = some u0 ∧ w.cell? ⟨X, 1, none⟩ = some u1 ∧ w.cell? ⟨Y, 0, none⟩ = some u2 ∧ w.cell? ⟨Y, 1, none⟩ = some u3 ∧ w.cell? ⟨gm, 0, none⟩ = some u4 ∧ w.cell? ⟨gm, 1, none⟩ = some u5) (k : Kept [] w w') : w'.cell? ⟨X, 0, none⟩ = some u0 ∧ w'.cell? ⟨X, 1, none⟩ = some u1 ∧ w'.cell? ⟨Y, 0, none⟩ = some u2 ∧ w'.cell? ⟨Y, 1, none⟩ = some u3 ∧ w'.cell? ⟨gm, 0, none⟩ = some u4 ∧ w'.cell? ⟨gm, 1, none⟩ = some u5 :=
  ⟨k.cell h.1 (by simp), k.cell h.2.1 (by simp), k.cell h.2.2.1 (by simp), k.cell h.2.2.2.1 (by simp), k.cell h.2.2.2.2.1 (by simp), k.cell h.2.2.2.2.2 (by simp)⟩

theorem Lo.low {H H' : Nat} {w : World} {p g : Nat} {C : List Co} (h : Lo H w p g C) (hH : H' ≤ H) : Lo H' w p g C :=
  { h with each := fun i hi => (h.each i hi).low hH, hp := Nat.le_trans hH h.hp, hg := Nat.le_trans hH h.hg }

/-- What a call does to a log of the caller's: only its blocks, or new ones. -/
theorem keep_new {H : Nat} {w0 w w' : World} {F : List Nat} (h : Kept [] w0 w) (k : Kept F w w') (hF : ∀ x ∈ F, w0.heap.size ≤ x) : Kept [] w0 w' := h.trans k (fun x hx => Or.inr (hF x hx))

theorem merge_two : mergeR [[⟨2, 0, 0, 0, 0, 0, 0, ⟨#[]⟩, ⟨#[]⟩, ⟨#[]⟩⟩], [⟨1, 1, 0, 1, 0, 0, 0, ⟨#[]⟩, ⟨#[]⟩, ⟨#[]⟩⟩]] = [⟨1, 1, 0, 1, 0, 0, 0, ⟨#[]⟩, ⟨#[]⟩, ⟨#[]⟩⟩, ⟨2, 0, 0, 0, 0, 0, 0, ⟨#[]⟩, ⟨#[]⟩, ⟨#[]⟩⟩] := by rfl

theorem add_as {H : Nat} {w : World} {p g : Nat} {C : List Co} (h : Lo H w p g C) (kind : Int) {i : Nat} (fd off num : Int) (p1 p2 dat : ByteArray) (sa sk : Int) (hH : H ≤ w.heap.size) (hk : kindB kind = true) (hi : i < C.length) (hm : mayS sa sk = true) (hl : (C[i]).R.length < 256) (hsm : p1.size ≤ 140737488351232 ∧ p2.size ≤ 140737488351232 ∧ dat.size ≤ 140737488351232)
    (core : Int) (hco : core = (i : Int)) (nx k : Int) (R : List Rec) (hnx : nextS (C[i]).a (C[i]).k sa sk = nx) (hkk : (C[i]).k = k) (hR : (C[i]).R = R) (D : Value → List Co) (hD : ∀ v, C.set i ⟨v, R ++ [⟨nx, k, kind, core, fd, off, num, p1, p2, dat⟩], nx, k⟩ = D v) :
    Calls Try.prog 11 #[.pointer (some ⟨p, 0, none⟩), .agg #[.int .i64 kind, .int .i64 core, .int .i64 fd, .int .i64 off, .int .i64 num, .string p1, .string p2, .string dat], .agg #[.int .i64 sa, .int .i64 sk]] w fun e w' => e = .returned (.tuple #[.agg #[.int .i64 nx, .int .i64 k], .int .i64 0]) ∧ ∃ v, Lo H w' p g (D v) ∧ Kept (bl p g C) w w' ∧ ∀ x ∈ bl p g (D v), x ∈ bl p g C ∨ w.heap.size ≤ x := by
  subst hco
  refine (p_add h kind fd off num p1 p2 dat sa sk hH hk hi hm hl hsm).mono ?_
  rintro e w' ⟨rfl, v, hL, hK, hb⟩
  have e1 : C.set i ⟨v, (C[i]).R ++ [addR C[i] kind i fd off num p1 p2 dat sa sk], nextS (C[i]).a (C[i]).k sa sk, (C[i]).k⟩ = D v := by
    rw [← hD v]
    rw [hkk] at hnx
    simp only [addR, hkk, hR, hnx]
  rw [e1] at hL hb
  exact ⟨by rw [hnx, hkk], v, hL, hK, hb⟩

set_option maxRecDepth 100000 in
set_option maxHeartbeats 8000000 in
theorem awake_any (w : World) : Calls Try.prog 10 #[] w fun e w' => e = .returned (.bool true) ∧ Kept [] w w' := by
  have E1 : ∀ w, (binOp .eql 35 (.agg #[.int .i64 1, .int .i64 1]) (.agg #[.int .i64 1, .int .i64 1])).run Try.prog w = .ok (.bool true) w := fun w => eq_st 1 1 1 1 w
  have E2 : ∀ w, (binOp .eql 35 (.agg #[.int .i64 2, .int .i64 0]) (.agg #[.int .i64 2, .int .i64 0])).run Try.prog w = .ok (.bool true) w := fun w => eq_st 2 0 2 0 w
  go_enter Try.func10, Try.ntmps10
  go_wp2_with fail
  refine (p_new 2 (by omega) (by omega) w).mono ?_
  rintro e w1 ⟨p, g, rfl, hL, k1⟩
  rw [show freshC 2 2 = [⟨.slice none 0 0, [], 0, 0⟩, ⟨.slice none 0 0, [], 0, 1⟩] from rfl] at hL
  have HL1 : Hid (Lo w.heap.size w1 p g [⟨.slice none 0 0, [], 0, 0⟩, ⟨.slice none 0 0, [], 0, 1⟩] ∧ Kept [] w w1) := ⟨hL, k1⟩
  clear hL k1
  have P2 := add_as HL1.out.1 0 (i := 1) 0 0 0 ⟨#[]⟩ ⟨#[]⟩ ⟨#[]⟩ 0 0 HL1.out.2.size rfl (by simp) rfl (by simp) ⟨by decide, by decide, by decide⟩ 1 rfl 1 1 [] (by decide) rfl rfl (fun v1 => [⟨.slice none 0 0, [], 0, 0⟩, ⟨v1, [⟨1, 1, 0, 1, 0, 0, 0, ⟨#[]⟩, ⟨#[]⟩, ⟨#[]⟩⟩], 1, 1⟩]) (fun _ => rfl)
  go_wp2_with fail
  refine P2.mono ?_
  rintro e w2 ⟨rfl, v1, hL, k2, hb⟩
  have HL2 : Hid (Lo w.heap.size w2 p g [⟨.slice none 0 0, [], 0, 0⟩, ⟨v1, [⟨1, 1, 0, 1, 0, 0, 0, ⟨#[]⟩, ⟨#[]⟩, ⟨#[]⟩⟩], 1, 1⟩] ∧ Kept [] w w2) := ⟨hL, HL1.out.2.trans k2 (fun x hx => Or.inr (HL1.out.1.lt x hx).1)⟩
  clear hL k2 hb P2
  obtain ⟨W3, X, HW3, HK3, HB3⟩ := box1 w2 #[.int .i64 1, .int .i64 1] 35
  have HL3 : Hid (Lo w.heap.size W3 p g [⟨.slice none 0 0, [], 0, 0⟩, ⟨v1, [⟨1, 1, 0, 1, 0, 0, 0, ⟨#[]⟩, ⟨#[]⟩, ⟨#[]⟩⟩], 1, 1⟩] ∧ Kept [] w W3) := ⟨HL2.out.1.kept0 HK3.out.1, HL2.out.2.trans HK3.out.1 (by simp)⟩
  have HXo : Hid (X ∉ bl p g [⟨.slice none 0 0, [], 0, 0⟩, ⟨v1, [⟨1, 1, 0, 1, 0, 0, 0, ⟨#[]⟩, ⟨#[]⟩, ⟨#[]⟩⟩], 1, 1⟩]) := fun hm => by have := (HL2.out.1.lt X hm).2; have := HW3.out.2; omega
  go_upto_region 3 with fail
  rw [HW3.out.1, HW3.out.2]
  clear HW3 HL1 HL2 HK3
  have x0 : W3.cell? ⟨X, 0, none⟩ = some (.int .i64 1) := cellB HB3.out
  have x1 : W3.cell? ⟨X, 1, none⟩ = some (.int .i64 1) := cellB HB3.out
  have P3 := add_as HL3.out.1 0 (i := 0) 0 0 0 ⟨#[]⟩ ⟨#[]⟩ ⟨#[]⟩ 1 1 HL3.out.2.size rfl (by simp) (by decide) (by simp) ⟨by decide, by decide, by decide⟩ 0 rfl 2 0 [] (by show nextS 0 0 1 1 = 2; decide) rfl rfl (fun v2 => [⟨v2, [⟨2, 0, 0, 0, 0, 0, 0, ⟨#[]⟩, ⟨#[]⟩, ⟨#[]⟩⟩], 2, 0⟩, ⟨v1, [⟨1, 1, 0, 1, 0, 0, 0, ⟨#[]⟩, ⟨#[]⟩, ⟨#[]⟩⟩], 1, 1⟩]) (fun _ => rfl)
  go_wp2_with fail
  refine P3.mono ?_
  rintro e w4 ⟨rfl, v2, hL, k4, hb⟩
  have HL4 : Hid (Lo w.heap.size w4 p g [⟨v2, [⟨2, 0, 0, 0, 0, 0, 0, ⟨#[]⟩, ⟨#[]⟩, ⟨#[]⟩⟩], 2, 0⟩, ⟨v1, [⟨1, 1, 0, 1, 0, 0, 0, ⟨#[]⟩, ⟨#[]⟩, ⟨#[]⟩⟩], 1, 1⟩] ∧ Kept [] w w4) := ⟨hL, HL3.out.2.trans k4 (fun x hx => Or.inr (HL3.out.1.lt x hx).1)⟩
  have HX4 : Hid (w4.heap[X]? = some (.cells #[.int .i64 1, .int .i64 1] 35 (0, 0)) ∧ X ∉ bl p g [⟨v2, [⟨2, 0, 0, 0, 0, 0, 0, ⟨#[]⟩, ⟨#[]⟩, ⟨#[]⟩⟩], 2, 0⟩, ⟨v1, [⟨1, 1, 0, 1, 0, 0, 0, ⟨#[]⟩, ⟨#[]⟩, ⟨#[]⟩⟩], 1, 1⟩]) := ⟨(k4.block X (lt_of_heap HB3.out) HXo.out).trans HB3.out, fun hm => by
    rcases hb X hm with h1 | h1
    · exact HXo.out h1
    · have := lt_of_heap HB3.out; omega⟩
  clear hL k4 hb P3 x0 x1 HB3 HXo HL3
  obtain ⟨W5, Y, HW5, HK5, HB5⟩ := box1 w4 #[.int .i64 2, .int .i64 0] 35
  have HL5 : Hid (Lo w.heap.size W5 p g [⟨v2, [⟨2, 0, 0, 0, 0, 0, 0, ⟨#[]⟩, ⟨#[]⟩, ⟨#[]⟩⟩], 2, 0⟩, ⟨v1, [⟨1, 1, 0, 1, 0, 0, 0, ⟨#[]⟩, ⟨#[]⟩, ⟨#[]⟩⟩], 1, 1⟩] ∧ Kept [] w W5) := ⟨HL4.out.1.kept0 HK5.out.1, HL4.out.2.trans HK5.out.1 (by simp)⟩
  have HX5 : Hid (_) := (HK5.out.1.block X (lt_of_heap HX4.out.1) (by simp)).trans HX4.out.1
  go_upto_region 4 with fail
  rw [HW5.out.1, HW5.out.2]
  clear HW5 HL4 HK5 HX4
  have x0 : W5.cell? ⟨X, 0, none⟩ = some (.int .i64 1) := cellB HX5.out
  have x1 : W5.cell? ⟨X, 1, none⟩ = some (.int .i64 1) := cellB HX5.out
  have P4 := p_add_form HL5.out.1 0 2 0 0 0 ⟨#[]⟩ ⟨#[]⟩ ⟨#[]⟩ 1 1 (by show (kindB 0 && hasB 2 2 && mayS 1 1) = false; decide)
  go_wp2_with fail
  refine P4.mono ?_
  rintro e w6 ⟨rfl, k6⟩
  obtain ⟨W7, Q, HW7, HK7, -⟩ := box1 w6 #[.int .i64 0, .int .i64 0] 35
  have k57 : Kept [] W5 W7 := k6.trans HK7.out.1 (by simp)
  have HL7 : Hid (Lo w.heap.size W7 p g [⟨v2, [⟨2, 0, 0, 0, 0, 0, 0, ⟨#[]⟩, ⟨#[]⟩, ⟨#[]⟩⟩], 2, 0⟩, ⟨v1, [⟨1, 1, 0, 1, 0, 0, 0, ⟨#[]⟩, ⟨#[]⟩, ⟨#[]⟩⟩], 1, 1⟩] ∧ Kept [] w W7) := ⟨HL5.out.1.kept0 k57, HL5.out.2.trans k57 (by simp)⟩
  have HX7 : Hid (W7.cell? ⟨X, 0, none⟩ = some (.int .i64 1) ∧ W7.cell? ⟨X, 1, none⟩ = some (.int .i64 1) ∧ W7.cell? ⟨Y, 0, none⟩ = some (.int .i64 2) ∧ W7.cell? ⟨Y, 1, none⟩ = some (.int .i64 0)) := ⟨k57.cell x0 (by simp), k57.cell x1 (by simp), k57.cell (cellB HB5.out) (by simp), k57.cell (cellB HB5.out) (by simp)⟩
  clear k6 k57 P4 x0 x1 HX5 HB5 HL5
  go_upto_region 5 with fail
  rw [HW7.out.1]
  clear HW7 HK7
  go_wp2_with fail
  refine (p_merge HL7.out.1).mono ?_
  rintro e w8 ⟨vm, rfl, rm, k8⟩
  rw [show (List.map Co.R [⟨v2, [⟨2, 0, 0, 0, 0, 0, 0, ⟨#[]⟩, ⟨#[]⟩, ⟨#[]⟩⟩], 2, 0⟩, ⟨v1, [⟨1, 1, 0, 1, 0, 0, 0, ⟨#[]⟩, ⟨#[]⟩, ⟨#[]⟩⟩], 1, 1⟩]) = [[⟨2, 0, 0, 0, 0, 0, 0, ⟨#[]⟩, ⟨#[]⟩, ⟨#[]⟩⟩], [⟨1, 1, 0, 1, 0, 0, 0, ⟨#[]⟩, ⟨#[]⟩, ⟨#[]⟩⟩]] from rfl, merge_two] at rm
  obtain ⟨am, cm, hvm, hcm, hcx, hrd⟩ := rm.slice
  obtain ⟨gm, hgm, hce⟩ := hrd 0 (by simp)
  subst hgm
  subst hvm
  have HS8 : Hid (w8.cell? ⟨X, 0, none⟩ = some (.int .i64 1) ∧ w8.cell? ⟨X, 1, none⟩ = some (.int .i64 1) ∧ w8.cell? ⟨Y, 0, none⟩ = some (.int .i64 2) ∧ w8.cell? ⟨Y, 1, none⟩ = some (.int .i64 0) ∧ w8.cell? ⟨gm, 0, none⟩ = some (.int .i64 1) ∧ w8.cell? ⟨gm, 1, none⟩ = some (.int .i64 1)) := ⟨k8.cell HX7.out.1 (by simp), k8.cell HX7.out.2.1 (by simp), k8.cell HX7.out.2.2.1 (by simp), k8.cell HX7.out.2.2.2 (by simp), hce 0 _ rfl, hce 1 _ rfl⟩
  have HL8 : Hid (Lo w.heap.size w8 p g [⟨v2, [⟨2, 0, 0, 0, 0, 0, 0, ⟨#[]⟩, ⟨#[]⟩, ⟨#[]⟩⟩], 2, 0⟩, ⟨v1, [⟨1, 1, 0, 1, 0, 0, 0, ⟨#[]⟩, ⟨#[]⟩, ⟨#[]⟩⟩], 1, 1⟩] ∧ Kept [] w w8) := ⟨HL7.out.1.kept0 k8, HL7.out.2.trans k8 (by simp)⟩
  have hcap : cm ≤ 9223372036854775807 := by unfold maxLen at hcx; omega
  have hcm2 : 2 ≤ cm := hcm
  clear rm k8 hrd hce HX7 HL7 hcm hcx
  go_wp2_with fail
  refine (p_new_bad 0 (Or.inl (by omega)) w8).mono ?_
  rintro e w9 ⟨rfl, hw9⟩
  have hw92 := hw9.symm
  subst hw92
  clear hw9
  have P9 : ∀ W, Kept [] w8 W → Calls Try.prog 18 #[.pointer (some ⟨p, 0, none⟩), .int .i64 0] W fun e w' => e = .returned (.agg #[.int .i64 2, .int .i64 0]) ∧ Kept [] W w' := fun W kW => p_last (HL8.out.1.kept0 kW) (i := 0) (by simp) 0 rfl
  have HS : Hid (_) := HS8.out
  go_upto_region 7 with fail
  refine wp_region_held_drew (S := fun w' => w'.cell? ⟨X, 0, none⟩ = some (.int .i64 1) ∧ w'.cell? ⟨X, 1, none⟩ = some (.int .i64 1) ∧ w'.cell? ⟨Y, 0, none⟩ = some (.int .i64 2) ∧ w'.cell? ⟨Y, 1, none⟩ = some (.int .i64 0) ∧ w'.cell? ⟨gm, 0, none⟩ = some (.int .i64 1) ∧ w'.cell? ⟨gm, 1, none⟩ = some (.int .i64 1)) (by kernel_rfl) ?_ (fun hHeld => ?_)
  · exact HS.out
  obtain ⟨u0, hu0⟩ : ∃ u0, w8.drew = u0 := ⟨_, rfl⟩
  have HKu : Hid (Kept [] w8 u0) := by rw [← hu0]; exact (Kept.refl [] w8).drew
  rw [hu0] at hHeld ⊢
  clear hu0
  refine wpAnyH_take (i := 0) (v := ?vw0) rfl (by kernel_rfl) (by kernel_rfl) (by kernel_rfl) (fun _ _ _ h => h) (Or.inl ⟨by rfl, ?hyw0⟩) (by assumption) ?_
  case hyw0 =>
    intro w hSw
    (try dsimp only at hSw)
    go_simp
    try with_reducible rfl
  try simp only [Act.put, List.setIfInBounds_toArray, List.set_cons_zero, List.set_cons_succ, List.getElem_toArray, List.getElem_cons_zero, List.getElem_cons_succ]
  refine wpAnyH_ready (rs := [1]) (by kernel_rfl) (by simp) ?_
  refine AllReadyH.cons rfl (fun K hK => ?_) AllReadyH.nil
  go_simp
  refine (num 0 _).mono ?_
  rintro e wn ⟨rfl, hw⟩
  have hw2 := hw.symm
  subst hw2
  clear hw
  go_wp2_with fail
  refine hK.out _ _ ?_ (fun hHeld => ?_)
  · exact hHeld
  clear hK K
  try simp only [Act.put, List.setIfInBounds_toArray, List.set_cons_zero, List.set_cons_succ, List.getElem_toArray, List.getElem_cons_zero, List.getElem_cons_succ]
  refine wpAnyH_take (i := 2) (v := ?vw2) rfl (by kernel_rfl) (by kernel_rfl) (by kernel_rfl) (fun _ _ _ h => h) (Or.inl ⟨by rfl, ?hyw2⟩) (by assumption) ?_
  case hyw2 =>
    intro w hSw
    (try dsimp only at hSw)
    go_simp
    try with_reducible rfl
  try simp only [Act.put, List.setIfInBounds_toArray, List.set_cons_zero, List.set_cons_succ, List.getElem_toArray, List.getElem_cons_zero, List.getElem_cons_succ]
  refine wpAnyH_take (i := 3) (v := ?vw3) rfl (by kernel_rfl) (by kernel_rfl) (by kernel_rfl) (fun _ _ _ h => h) (Or.inl ⟨by rfl, ?hyw3⟩) (by assumption) ?_
  case hyw3 =>
    intro w hSw
    (try dsimp only at hSw)
    go_simp
    try with_reducible rfl
  try simp only [Act.put, List.setIfInBounds_toArray, List.set_cons_zero, List.set_cons_succ, List.getElem_toArray, List.getElem_cons_zero, List.getElem_cons_succ]
  refine wpAnyH_take (i := 4) (v := ?vw4) rfl (by kernel_rfl) (by kernel_rfl) (by kernel_rfl) (fun _ _ _ h => h) (Or.inl ⟨by rfl, ?hyw4⟩) (by assumption) ?_
  case hyw4 =>
    intro w hSw
    (try dsimp only at hSw)
    go_simp
    try with_reducible rfl
  try simp only [Act.put, List.setIfInBounds_toArray, List.set_cons_zero, List.set_cons_succ, List.getElem_toArray, List.getElem_cons_zero, List.getElem_cons_succ]
  refine wpAnyH_take (i := 5) (v := ?vw5) rfl (by kernel_rfl) (by kernel_rfl) (by kernel_rfl) (fun _ _ _ h => h) (Or.inl ⟨by rfl, ?hyw5⟩) (by assumption) ?_
  case hyw5 =>
    intro w hSw
    (try dsimp only at hSw)
    go_simp
    try with_reducible rfl
  try simp only [Act.put, List.setIfInBounds_toArray, List.set_cons_zero, List.set_cons_succ, List.getElem_toArray, List.getElem_cons_zero, List.getElem_cons_succ]
  refine wpAnyH_take (i := 6) (v := ?vw6) rfl (by kernel_rfl) (by kernel_rfl) (by kernel_rfl) (fun _ _ _ h => h) (Or.inl ⟨by rfl, ?hyw6⟩) (by assumption) ?_
  case hyw6 =>
    intro w hSw
    (try dsimp only at hSw)
    go_simp
    try with_reducible rfl
  try simp only [Act.put, List.setIfInBounds_toArray, List.set_cons_zero, List.set_cons_succ, List.getElem_toArray, List.getElem_cons_zero, List.getElem_cons_succ]
  refine wpAnyH_take (i := 7) (v := ?vw7) rfl (by kernel_rfl) (by kernel_rfl) (by kernel_rfl) (fun _ _ _ h => h) (Or.inl ⟨by rfl, ?hyw7⟩) (by assumption) ?_
  case hyw7 =>
    intro w hSw
    (try dsimp only at hSw)
    go_simp
    try with_reducible rfl
  try simp only [Act.put, List.setIfInBounds_toArray, List.set_cons_zero, List.set_cons_succ, List.getElem_toArray, List.getElem_cons_zero, List.getElem_cons_succ]
  refine wpAnyH_take (i := 8) (v := ?vw8) rfl (by kernel_rfl) (by kernel_rfl) (by kernel_rfl) (fun _ _ _ h => h) (Or.inl ⟨by rfl, ?hyw8⟩) (by assumption) ?_
  case hyw8 =>
    intro w hSw
    (try dsimp only at hSw)
    go_simp
    try with_reducible rfl
  try simp only [Act.put, List.setIfInBounds_toArray, List.set_cons_zero, List.set_cons_succ, List.getElem_toArray, List.getElem_cons_zero, List.getElem_cons_succ]
  refine wpAnyH_take (i := 9) (v := ?vw9) rfl (by kernel_rfl) (by kernel_rfl) (by kernel_rfl) (fun _ _ _ h => h) (Or.inl ⟨by rfl, ?hyw9⟩) (by assumption) ?_
  case hyw9 =>
    intro w hSw
    (try dsimp only at hSw)
    go_simp
    try with_reducible rfl
  try simp only [Act.put, List.setIfInBounds_toArray, List.set_cons_zero, List.set_cons_succ, List.getElem_toArray, List.getElem_cons_zero, List.getElem_cons_succ]
  refine wpAnyH_ready (rs := [10]) (by kernel_rfl) (by simp) ?_
  refine AllReadyH.cons rfl (fun K hK => ?_) AllReadyH.nil
  go_simp
  refine (num 0 _).mono ?_
  rintro e wn ⟨rfl, hw⟩
  have hw2 := hw.symm
  subst hw2
  clear hw
  go_wp2_with fail
  refine hK.out _ _ ?_ (fun hHeld => ?_)
  · exact hHeld
  clear hK K
  try simp only [Act.put, List.setIfInBounds_toArray, List.set_cons_zero, List.set_cons_succ, List.getElem_toArray, List.getElem_cons_zero, List.getElem_cons_succ]
  refine wpAnyH_take (i := 11) (v := ?vw11) rfl (by kernel_rfl) (by kernel_rfl) (by kernel_rfl) (fun _ _ _ h => h) (Or.inl ⟨by rfl, ?hyw11⟩) (by assumption) ?_
  case hyw11 =>
    intro w hSw
    (try dsimp only at hSw)
    go_simp
    try with_reducible rfl
  try simp only [Act.put, List.setIfInBounds_toArray, List.set_cons_zero, List.set_cons_succ, List.getElem_toArray, List.getElem_cons_zero, List.getElem_cons_succ]
  refine wpAnyH_take (i := 12) (v := ?vw12) rfl (by kernel_rfl) (by kernel_rfl) (by kernel_rfl) (fun _ _ _ h => h) (Or.inl ⟨by rfl, ?hyw12⟩) (by assumption) ?_
  case hyw12 =>
    intro w hSw
    (try dsimp only at hSw)
    go_simp
    try with_reducible rfl
  try simp only [Act.put, List.setIfInBounds_toArray, List.set_cons_zero, List.set_cons_succ, List.getElem_toArray, List.getElem_cons_zero, List.getElem_cons_succ]
  refine wpAnyH_take (i := 13) (v := ?vw13) rfl (by kernel_rfl) (by kernel_rfl) (by kernel_rfl) (fun _ _ _ h => h) (Or.inl ⟨by rfl, ?hyw13⟩) (by assumption) ?_
  case hyw13 =>
    intro w hSw
    (try dsimp only at hSw)
    go_simp
    try with_reducible rfl
  try simp only [Act.put, List.setIfInBounds_toArray, List.set_cons_zero, List.set_cons_succ, List.getElem_toArray, List.getElem_cons_zero, List.getElem_cons_succ]
  refine wpAnyH_take (i := 14) (v := ?vw14) rfl (by kernel_rfl) (by kernel_rfl) (by kernel_rfl) (fun _ _ _ h => h) (Or.inl ⟨by rfl, ?hyw14⟩) (by assumption) ?_
  case hyw14 =>
    intro w hSw
    (try dsimp only at hSw)
    go_simp
    try with_reducible rfl
  try simp only [Act.put, List.setIfInBounds_toArray, List.set_cons_zero, List.set_cons_succ, List.getElem_toArray, List.getElem_cons_zero, List.getElem_cons_succ]
  refine wpAnyH_take (i := 15) (v := ?vw15) rfl (by kernel_rfl) (by kernel_rfl) (by kernel_rfl) (fun _ _ _ h => h) (Or.inl ⟨by rfl, ?hyw15⟩) (by assumption) ?_
  case hyw15 =>
    intro w hSw
    (try dsimp only at hSw)
    go_simp
    try with_reducible rfl
  try simp only [Act.put, List.setIfInBounds_toArray, List.set_cons_zero, List.set_cons_succ, List.getElem_toArray, List.getElem_cons_zero, List.getElem_cons_succ]
  refine wpAnyH_take (i := 16) (v := ?vw16) rfl (by kernel_rfl) (by kernel_rfl) (by kernel_rfl) (fun _ _ _ h => h) (Or.inl ⟨by rfl, ?hyw16⟩) (by assumption) ?_
  case hyw16 =>
    intro w hSw
    (try dsimp only at hSw)
    go_simp
    try with_reducible rfl
  try simp only [Act.put, List.setIfInBounds_toArray, List.set_cons_zero, List.set_cons_succ, List.getElem_toArray, List.getElem_cons_zero, List.getElem_cons_succ]
  refine wpAnyH_take (i := 17) (v := ?vw17) rfl (by kernel_rfl) (by kernel_rfl) (by kernel_rfl) (fun _ _ _ h => h) (Or.inl ⟨by rfl, ?hyw17⟩) (by assumption) ?_
  case hyw17 =>
    intro w hSw
    (try dsimp only at hSw)
    go_simp
    try with_reducible rfl
  try simp only [Act.put, List.setIfInBounds_toArray, List.set_cons_zero, List.set_cons_succ, List.getElem_toArray, List.getElem_cons_zero, List.getElem_cons_succ]
  refine wpAnyH_take (i := 18) (v := ?vw18) rfl (by kernel_rfl) (by kernel_rfl) (by kernel_rfl) (fun _ _ _ h => h) (Or.inl ⟨by rfl, ?hyw18⟩) (by assumption) ?_
  case hyw18 =>
    intro w hSw
    (try dsimp only at hSw)
    go_simp
    try with_reducible rfl
  try simp only [Act.put, List.setIfInBounds_toArray, List.set_cons_zero, List.set_cons_succ, List.getElem_toArray, List.getElem_cons_zero, List.getElem_cons_succ]
  refine wpAnyH_take (i := 19) (v := ?vw19) rfl (by kernel_rfl) (by kernel_rfl) (by kernel_rfl) (fun _ _ _ h => h) (Or.inl ⟨by rfl, ?hyw19⟩) (by assumption) ?_
  case hyw19 =>
    intro w hSw
    (try dsimp only at hSw)
    go_simp
    try with_reducible rfl
  try simp only [Act.put, List.setIfInBounds_toArray, List.set_cons_zero, List.set_cons_succ, List.getElem_toArray, List.getElem_cons_zero, List.getElem_cons_succ]
  refine wpAnyH_ready (rs := [20]) (by kernel_rfl) (by simp) ?_
  refine AllReadyH.cons rfl (fun K hK => ?_) AllReadyH.nil
  go_simp
  refine (num 0 _).mono ?_
  rintro e wn ⟨rfl, hw⟩
  have hw2 := hw.symm
  subst hw2
  clear hw
  go_wp2_with fail
  refine hK.out _ _ ?_ (fun hHeld => ?_)
  · exact hHeld
  clear hK K
  try simp only [Act.put, List.setIfInBounds_toArray, List.set_cons_zero, List.set_cons_succ, List.getElem_toArray, List.getElem_cons_zero, List.getElem_cons_succ]
  refine wpAnyH_take (i := 21) (v := ?vw21) rfl (by kernel_rfl) (by kernel_rfl) (by kernel_rfl) (fun _ _ _ h => h) (Or.inl ⟨by rfl, ?hyw21⟩) (by assumption) ?_
  case hyw21 =>
    intro w hSw
    (try dsimp only at hSw)
    go_simp
    try with_reducible rfl
  try simp only [Act.put, List.setIfInBounds_toArray, List.set_cons_zero, List.set_cons_succ, List.getElem_toArray, List.getElem_cons_zero, List.getElem_cons_succ]
  refine wpAnyH_take (i := 22) (v := ?vw22) rfl (by kernel_rfl) (by kernel_rfl) (by kernel_rfl) (fun _ _ _ h => h) (Or.inl ⟨by rfl, ?hyw22⟩) (by assumption) ?_
  case hyw22 =>
    intro w hSw
    (try dsimp only at hSw)
    go_simp
    try with_reducible rfl
  try simp only [Act.put, List.setIfInBounds_toArray, List.set_cons_zero, List.set_cons_succ, List.getElem_toArray, List.getElem_cons_zero, List.getElem_cons_succ]
  refine wpAnyH_take (i := 23) (v := ?vw23) rfl (by kernel_rfl) (by kernel_rfl) (by kernel_rfl) (fun _ _ _ h => h) (Or.inl ⟨by rfl, ?hyw23⟩) (by assumption) ?_
  case hyw23 =>
    intro w hSw
    (try dsimp only at hSw)
    go_simp
    try with_reducible rfl
  try simp only [Act.put, List.setIfInBounds_toArray, List.set_cons_zero, List.set_cons_succ, List.getElem_toArray, List.getElem_cons_zero, List.getElem_cons_succ]
  refine wpAnyH_take (i := 24) (v := ?vw24) rfl (by kernel_rfl) (by kernel_rfl) (by kernel_rfl) (fun _ _ _ h => h) (Or.inl ⟨by rfl, ?hyw24⟩) (by assumption) ?_
  case hyw24 =>
    intro w hSw
    (try dsimp only at hSw)
    go_simp
    try with_reducible rfl
  try simp only [Act.put, List.setIfInBounds_toArray, List.set_cons_zero, List.set_cons_succ, List.getElem_toArray, List.getElem_cons_zero, List.getElem_cons_succ]
  refine wpAnyH_ready (rs := [25]) (by kernel_rfl) (by simp) ?_
  refine AllReadyH.cons rfl (fun K hK => ?_) AllReadyH.nil
  go_simp
  refine (num 1700 _).mono ?_
  rintro e wn ⟨rfl, hw⟩
  have hw2 := hw.symm
  subst hw2
  clear hw
  go_wp2_with fail
  refine hK.out _ _ ?_ (fun hHeld => ?_)
  · exact hHeld
  clear hK K
  try simp only [Act.put, List.setIfInBounds_toArray, List.set_cons_zero, List.set_cons_succ, List.getElem_toArray, List.getElem_cons_zero, List.getElem_cons_succ]
  refine wpAnyH_take (i := 26) (v := ?vw26) rfl (by kernel_rfl) (by kernel_rfl) (by kernel_rfl) (fun _ _ _ h => h) (Or.inl ⟨by rfl, ?hyw26⟩) (by assumption) ?_
  case hyw26 =>
    intro w hSw
    (try dsimp only at hSw)
    go_simp
    try with_reducible rfl
  try simp only [Act.put, List.setIfInBounds_toArray, List.set_cons_zero, List.set_cons_succ, List.getElem_toArray, List.getElem_cons_zero, List.getElem_cons_succ]
  refine wpAnyH_take (i := 27) (v := ?vw27) rfl (by kernel_rfl) (by kernel_rfl) (by kernel_rfl) (fun _ _ _ h => h) (Or.inl ⟨by rfl, ?hyw27⟩) (by assumption) ?_
  case hyw27 =>
    intro w hSw
    (try dsimp only at hSw)
    go_simp
    try with_reducible rfl
  try simp only [Act.put, List.setIfInBounds_toArray, List.set_cons_zero, List.set_cons_succ, List.getElem_toArray, List.getElem_cons_zero, List.getElem_cons_succ]
  refine wpAnyH_take (i := 28) (v := ?vw28) rfl (by kernel_rfl) (by kernel_rfl) (by kernel_rfl) (fun _ _ _ h => h) (Or.inl ⟨by rfl, ?hyw28⟩) (by assumption) ?_
  case hyw28 =>
    intro w hSw
    (try dsimp only at hSw)
    go_simp
    try with_reducible rfl
  try simp only [Act.put, List.setIfInBounds_toArray, List.set_cons_zero, List.set_cons_succ, List.getElem_toArray, List.getElem_cons_zero, List.getElem_cons_succ]
  refine wpAnyH_take (i := 29) (v := ?vw29) rfl (by kernel_rfl) (by kernel_rfl) (by kernel_rfl) (fun _ _ _ h => h) (Or.inl ⟨by rfl, ?hyw29⟩) (by assumption) ?_
  case hyw29 =>
    intro w hSw
    (try dsimp only at hSw)
    go_simp
    try with_reducible rfl
  try simp only [Act.put, List.setIfInBounds_toArray, List.set_cons_zero, List.set_cons_succ, List.getElem_toArray, List.getElem_cons_zero, List.getElem_cons_succ]
  refine wpAnyH_take (i := 30) (v := ?vw30) rfl (by kernel_rfl) (by kernel_rfl) (by kernel_rfl) (fun _ _ _ h => h) (Or.inl ⟨by rfl, ?hyw30⟩) (by assumption) ?_
  case hyw30 =>
    intro w hSw
    (try dsimp only at hSw)
    go_simp
    try with_reducible rfl
  try simp only [Act.put, List.setIfInBounds_toArray, List.set_cons_zero, List.set_cons_succ, List.getElem_toArray, List.getElem_cons_zero, List.getElem_cons_succ]
  refine wpAnyH_take (i := 31) (v := ?vw31) rfl (by kernel_rfl) (by kernel_rfl) (by kernel_rfl) (fun _ _ _ h => h) (Or.inl ⟨by rfl, ?hyw31⟩) (by assumption) ?_
  case hyw31 =>
    intro w hSw
    (try dsimp only at hSw)
    go_simp
    try with_reducible rfl
  try simp only [Act.put, List.setIfInBounds_toArray, List.set_cons_zero, List.set_cons_succ, List.getElem_toArray, List.getElem_cons_zero, List.getElem_cons_succ]
  refine wpAnyH_take (i := 32) (v := ?vw32) rfl (by kernel_rfl) (by kernel_rfl) (by kernel_rfl) (fun _ _ _ h => h) (Or.inl ⟨by rfl, ?hyw32⟩) (by assumption) ?_
  case hyw32 =>
    intro w hSw
    (try dsimp only at hSw)
    go_simp
    try with_reducible rfl
  try simp only [Act.put, List.setIfInBounds_toArray, List.set_cons_zero, List.set_cons_succ, List.getElem_toArray, List.getElem_cons_zero, List.getElem_cons_succ]
  refine wpAnyH_take (i := 33) (v := ?vw33) rfl (by kernel_rfl) (by kernel_rfl) (by kernel_rfl) (fun _ _ _ h => h) (Or.inl ⟨by rfl, ?hyw33⟩) (by assumption) ?_
  case hyw33 =>
    intro w hSw
    (try dsimp only at hSw)
    go_simp
    try with_reducible rfl
  try simp only [Act.put, List.setIfInBounds_toArray, List.set_cons_zero, List.set_cons_succ, List.getElem_toArray, List.getElem_cons_zero, List.getElem_cons_succ]
  refine wpAnyH_take (i := 34) (v := ?vw34) rfl (by kernel_rfl) (by kernel_rfl) (by kernel_rfl) (fun _ _ _ h => h) (Or.inl ⟨by rfl, ?hyw34⟩) (by assumption) ?_
  case hyw34 =>
    intro w hSw
    (try dsimp only at hSw)
    go_simp
    try with_reducible rfl
  try simp only [Act.put, List.setIfInBounds_toArray, List.set_cons_zero, List.set_cons_succ, List.getElem_toArray, List.getElem_cons_zero, List.getElem_cons_succ]
  refine wpAnyH_take (i := 35) (v := ?vw35) rfl (by kernel_rfl) (by kernel_rfl) (by kernel_rfl) (fun _ _ _ h => h) (Or.inl ⟨by rfl, ?hyw35⟩) (by assumption) ?_
  case hyw35 =>
    intro w hSw
    (try dsimp only at hSw)
    go_simp
    try with_reducible rfl
  try simp only [Act.put, List.setIfInBounds_toArray, List.set_cons_zero, List.set_cons_succ, List.getElem_toArray, List.getElem_cons_zero, List.getElem_cons_succ]
  refine wpAnyH_take (i := 36) (v := ?vw36) rfl (by kernel_rfl) (by kernel_rfl) (by kernel_rfl) (fun _ _ _ h => h) (Or.inl ⟨by rfl, ?hyw36⟩) (by assumption) ?_
  case hyw36 =>
    intro w hSw
    (try dsimp only at hSw)
    go_simp
    try with_reducible rfl
  try simp only [Act.put, List.setIfInBounds_toArray, List.set_cons_zero, List.set_cons_succ, List.getElem_toArray, List.getElem_cons_zero, List.getElem_cons_succ]
  refine wpAnyH_take (i := 37) (v := ?vw37) rfl (by kernel_rfl) (by kernel_rfl) (by kernel_rfl) (fun _ _ _ h => h) (Or.inl ⟨by rfl, ?hyw37⟩) (by assumption) ?_
  case hyw37 =>
    intro w hSw
    (try dsimp only at hSw)
    go_simp
    try with_reducible rfl
  try simp only [Act.put, List.setIfInBounds_toArray, List.set_cons_zero, List.set_cons_succ, List.getElem_toArray, List.getElem_cons_zero, List.getElem_cons_succ]
  refine wpAnyH_take (i := 38) (v := ?vw38) rfl (by kernel_rfl) (by kernel_rfl) (by kernel_rfl) (fun _ _ _ h => h) (Or.inl ⟨by rfl, ?hyw38⟩) (by assumption) ?_
  case hyw38 =>
    intro w hSw
    (try dsimp only at hSw)
    go_simp
    try with_reducible rfl
  try simp only [Act.put, List.setIfInBounds_toArray, List.set_cons_zero, List.set_cons_succ, List.getElem_toArray, List.getElem_cons_zero, List.getElem_cons_succ]
  refine wpAnyH_take (i := 39) (v := ?vw39) rfl (by kernel_rfl) (by kernel_rfl) (by kernel_rfl) (fun _ _ _ h => h) (Or.inl ⟨by rfl, ?hyw39⟩) (by assumption) ?_
  case hyw39 =>
    intro w hSw
    (try dsimp only at hSw)
    go_simp
    try with_reducible rfl
  try simp only [Act.put, List.setIfInBounds_toArray, List.set_cons_zero, List.set_cons_succ, List.getElem_toArray, List.getElem_cons_zero, List.getElem_cons_succ]
  refine wpAnyH_take (i := 40) (v := ?vw40) rfl (by kernel_rfl) (by kernel_rfl) (by kernel_rfl) (fun _ _ _ h => h) (Or.inl ⟨by rfl, ?hyw40⟩) (by assumption) ?_
  case hyw40 =>
    intro w hSw
    (try dsimp only at hSw)
    go_simp
    try with_reducible rfl
  try simp only [Act.put, List.setIfInBounds_toArray, List.set_cons_zero, List.set_cons_succ, List.getElem_toArray, List.getElem_cons_zero, List.getElem_cons_succ]
  refine wpAnyH_take (i := 41) (v := ?vw41) rfl (by kernel_rfl) (by kernel_rfl) (by kernel_rfl) (fun _ _ _ h => h) (Or.inl ⟨by rfl, ?hyw41⟩) (by assumption) ?_
  case hyw41 =>
    intro w hSw
    (try dsimp only at hSw)
    go_simp
    try with_reducible rfl
  try simp only [Act.put, List.setIfInBounds_toArray, List.set_cons_zero, List.set_cons_succ, List.getElem_toArray, List.getElem_cons_zero, List.getElem_cons_succ]
  refine wpAnyH_take (i := 42) (v := ?vw42) rfl (by kernel_rfl) (by kernel_rfl) (by kernel_rfl) (fun _ _ _ h => h) (Or.inl ⟨by rfl, ?hyw42⟩) (by assumption) ?_
  case hyw42 =>
    intro w hSw
    (try dsimp only at hSw)
    go_simp
    try with_reducible rfl
  try simp only [Act.put, List.setIfInBounds_toArray, List.set_cons_zero, List.set_cons_succ, List.getElem_toArray, List.getElem_cons_zero, List.getElem_cons_succ]
  refine wpAnyH_ready (rs := [43]) (by kernel_rfl) (by simp) ?_
  refine AllReadyH.cons rfl (fun K hK => ?_) AllReadyH.nil
  go_simp
  refine (num 1700 _).mono ?_
  rintro e wn ⟨rfl, hw⟩
  have hw2 := hw.symm
  subst hw2
  clear hw
  go_wp2_with fail
  refine hK.out _ _ ?_ (fun hHeld => ?_)
  · exact hHeld
  clear hK K
  try simp only [Act.put, List.setIfInBounds_toArray, List.set_cons_zero, List.set_cons_succ, List.getElem_toArray, List.getElem_cons_zero, List.getElem_cons_succ]
  refine wpAnyH_take (i := 44) (v := ?vw44) rfl (by kernel_rfl) (by kernel_rfl) (by kernel_rfl) (fun _ _ _ h => h) (Or.inl ⟨by rfl, ?hyw44⟩) (by assumption) ?_
  case hyw44 =>
    intro w hSw
    (try dsimp only at hSw)
    go_simp
    try with_reducible rfl
  try simp only [Act.put, List.setIfInBounds_toArray, List.set_cons_zero, List.set_cons_succ, List.getElem_toArray, List.getElem_cons_zero, List.getElem_cons_succ]
  refine wpAnyH_take (i := 45) (v := ?vw45) rfl (by kernel_rfl) (by kernel_rfl) (by kernel_rfl) (fun _ _ _ h => h) (Or.inl ⟨by rfl, ?hyw45⟩) (by assumption) ?_
  case hyw45 =>
    intro w hSw
    (try dsimp only at hSw)
    go_simp
    try with_reducible rfl
  try simp only [Act.put, List.setIfInBounds_toArray, List.set_cons_zero, List.set_cons_succ, List.getElem_toArray, List.getElem_cons_zero, List.getElem_cons_succ]
  refine wpAnyH_take (i := 46) (v := ?vw46) rfl (by kernel_rfl) (by kernel_rfl) (by kernel_rfl) (fun _ _ _ h => h) (Or.inl ⟨by rfl, ?hyw46⟩) (by assumption) ?_
  case hyw46 =>
    intro w hSw
    (try dsimp only at hSw)
    go_simp
    try with_reducible rfl
  try simp only [Act.put, List.setIfInBounds_toArray, List.set_cons_zero, List.set_cons_succ, List.getElem_toArray, List.getElem_cons_zero, List.getElem_cons_succ]
  refine wpAnyH_take (i := 47) (v := ?vw47) rfl (by kernel_rfl) (by kernel_rfl) (by kernel_rfl) (fun _ _ _ h => h) (Or.inl ⟨by rfl, ?hyw47⟩) (by assumption) ?_
  case hyw47 =>
    intro w hSw
    (try dsimp only at hSw)
    go_simp
    try with_reducible rfl
  try simp only [Act.put, List.setIfInBounds_toArray, List.set_cons_zero, List.set_cons_succ, List.getElem_toArray, List.getElem_cons_zero, List.getElem_cons_succ]
  refine wpAnyH_take (i := 49) (v := ?vw49) rfl (by kernel_rfl) (by kernel_rfl) (by kernel_rfl) (fun _ _ _ h => h) (Or.inl ⟨by rfl, ?hyw49⟩) (by assumption) ?_
  case hyw49 =>
    intro w hSw
    (try dsimp only at hSw)
    go_simp
    try with_reducible rfl
  try simp only [Act.put, List.setIfInBounds_toArray, List.set_cons_zero, List.set_cons_succ, List.getElem_toArray, List.getElem_cons_zero, List.getElem_cons_succ]
  refine wpAnyH_ready (rs := [48]) (by kernel_rfl) (by simp) ?_
  refine AllReadyH.cons rfl (fun K hK => ?_) AllReadyH.nil
  go_simp
  refine (P9 _ HKu.out).mono ?_
  rintro e w9 ⟨rfl, k9⟩
  have HK9 : Hid (_) := HKu.out.trans k9 (by simp)
  have HS9 : Hid (_) := s6_kept hHeld k9
  clear k9
  go_wp2_with fail
  refine hK.out _ _ ?_ (fun hHeld => ?_)
  · exact HS9.out
  clear hK K
  try simp only [Act.put, List.setIfInBounds_toArray, List.set_cons_zero, List.set_cons_succ, List.getElem_toArray, List.getElem_cons_zero, List.getElem_cons_succ]
  refine wpAnyH_take (i := 50) (v := ?vw50) rfl (by kernel_rfl) (by kernel_rfl) (by kernel_rfl) (fun _ _ _ h => h) (Or.inl ⟨by rfl, ?hyw50⟩) (by assumption) ?_
  case hyw50 =>
    intro w hSw
    (try dsimp only at hSw)
    go_simp
    try with_reducible rfl
  try simp only [Act.put, List.setIfInBounds_toArray, List.set_cons_zero, List.set_cons_succ, List.getElem_toArray, List.getElem_cons_zero, List.getElem_cons_succ]
  refine wpAnyH_take (i := 51) (v := ?vw51) rfl (by kernel_rfl) (by kernel_rfl) (by kernel_rfl) (fun _ _ _ h => h) (Or.inl ⟨by rfl, ?hyw51⟩) (by assumption) ?_
  case hyw51 =>
    intro w hSw
    (try dsimp only at hSw)
    go_simp
    try with_reducible rfl
  try simp only [Act.put, List.setIfInBounds_toArray, List.set_cons_zero, List.set_cons_succ, List.getElem_toArray, List.getElem_cons_zero, List.getElem_cons_succ]
  refine wpAnyH_take (i := 52) (v := ?vw52) rfl (by kernel_rfl) (by kernel_rfl) (by kernel_rfl) (fun _ _ _ h => h) (Or.inl ⟨by rfl, ?hyw52⟩) (by assumption) ?_
  case hyw52 =>
    intro w hSw
    (try dsimp only at hSw)
    go_simp
    try with_reducible rfl
  try simp only [Act.put, List.setIfInBounds_toArray, List.set_cons_zero, List.set_cons_succ, List.getElem_toArray, List.getElem_cons_zero, List.getElem_cons_succ]
  refine wpAnyH_done (by kernel_rfl) ?_ _
  go_wp2_with fail
  go_ret
  exact ⟨rfl, HL8.out.2.trans HK9.out (by simp)⟩

end Go.Proofs.Ytlecpeofjabndaa
