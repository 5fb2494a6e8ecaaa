/-
  OplogFull: a core's log takes 256 records, and more when some were dropped.
-/
import Derived.Test.YtlecpeofjabndaaLw
import Derived.Laws.Bits128
namespace Go.Proofs.Ytlecpeofjabndaa
open Go.RowKit
set_option linter.unusedVariables false
set_option linter.unusedSimpArgs false

/-- The record number i of a core whose calls have seen nothing. -/
def recF (c i : Nat) : Rec := ⟨((i + 1 : Nat) : Int), c, 0, c, 0, 0, 0, ⟨#[]⟩, ⟨#[]⟩, ⟨#[]⟩⟩
def rowsF (c n : Nat) : List Rec := (List.range n).map (recF c)

theorem rowsF_length (c n : Nat) : (rowsF c n).length = n := by simp [rowsF]
theorem rowsF_next (c n : Nat) : rowsF c (n + 1) = rowsF c n ++ [recF c n] := by simp [rowsF, List.range_succ]

theorem nextF (n c : Nat) (hn : n ≤ 256) (hc : c < 8) : nextS ((n : Nat) : Int) (c : Int) 0 0 = ((n + 1 : Nat) : Int) := by
  have h1 : mayS (n : Int) (c : Int) = true := by simp [mayS]; omega
  have h2 : mayS 0 0 = true := by decide
  simp [nextS, h1, h2]

theorem keepF (c k i : Nat) (hc : c < 2) : keepB (k : Int) 7 (recF c i) = decide (k < i + 1) := by
  unfold keepB lessS recF
  by_cases h : (k : Int) = ((i + 1 : Nat) : Int)
  · rw [if_pos h]
    have h1 : ¬ (7 : Int) < (c : Int) := by omega
    have h2 : ¬ k < i + 1 := by omega
    simp [h1, h2]
  · rw [if_neg h]
    have : ((k : Int) < ((i + 1 : Nat) : Int)) ↔ k < i + 1 := by omega
    simp only [this]

theorem filterF (c k n : Nat) (hc : c < 2) : ((rowsF c n).filter (keepB (k : Int) 7)).length = n - k := by
  induction n with
  | zero => simp [rowsF]
  | succ n ih =>
    rw [rowsF_next, List.filter_append, List.length_append, ih]
    simp only [List.filter_cons, List.filter_nil, keepF c k n hc]
    by_cases h : k < n + 1
    · rw [if_pos (by simpa using h)]; simp; omega
    · rw [if_neg (by simpa using h)]; simp; omega

theorem filterO (c k : Nat) (hc : c < 2) : ([recF c 0].filter (keepB (k : Int) 7)).length = 1 - k := by
  have := filterF c k 1 hc
  simpa [rowsF] using this

set_option maxRecDepth 100000 in
set_option maxHeartbeats 8000000 in
theorem full0 (x y : Int) (k : Nat) (w : World) (hk : k < 100) (hx : bits .and .i64 x 1 = 0) (hy : wrap64 ((IntKind.u64.wrap y).tmod 100) = (k : Int)) :
    Calls Try.prog 5 #[.int .i64 x, .int .i64 y] w fun e w' => e = .returned (.bool true) ∧ Kept [] w w' := by
  have HX : Hid (_ ∧ _) := ⟨hx, hy⟩
  clear hx hy
  go_enter Try.func5, Try.ntmps5
  go_wp2_with fail
  refine (awake_any w).mono ?_
  rintro e w1 ⟨rfl, hK1⟩
  have HK : Hid (Kept [] w w1) := hK1
  clear hK1
  go_wp2_with fail
  refine (p_new 2 (by omega) (by omega) w1).mono ?_
  rintro e w2 ⟨p, g, rfl, hL, k2⟩
  have HL2 : Hid (Lo w1.heap.size w2 p g [⟨(.slice none 0 0), rowsF 0 0, (0 : Nat), 0⟩, ⟨.slice none 0 0, [], 0, 1⟩] ∧ Kept [] w1 w2) := ⟨hL, k2⟩
  clear hL k2
  go_wp2_with fail
  rw [HX.out.1]
  go_loopw [8] (fun i wr => ∃ (n : Nat) (v : Value), i = .int .i64 (n : Int) ∧ n ≤ 256 ∧ Hid (Lo w1.heap.size wr p g [⟨v, rowsF 0 n, (n : Nat), 0⟩, ⟨.slice none 0 0, [], 0, 1⟩] ∧ Kept [] w1 wr)) (fun i _ => (256 - intOf i).toNat)
  case atStart => exact ⟨0, _, rfl, by omega, HL2.out⟩
  case round =>
    clear HL2
    obtain ⟨n, v, rfl, hn, HJ⟩ := hrel
    by_cases hlt : n < 256
    · have i0 : (n : Int) < 256 := by omega
      have P := add_as HJ.out.1 0 (i := 0) 0 0 0 ⟨#[]⟩ ⟨#[]⟩ ⟨#[]⟩ 0 0 HJ.out.2.size rfl (by simp) rfl (by show (rowsF 0 n).length < 256; rw [rowsF_length]; exact hlt) ⟨by decide, by decide, by decide⟩ 0 rfl ((n + 1 : Nat) : Int) 0 (rowsF 0 n) (nextF n 0 (by omega) (by omega)) rfl rfl (fun v => [⟨v, rowsF 0 (n + 1), ((n + 1) : Nat), 0⟩, ⟨.slice none 0 0, [], 0, 1⟩]) (fun v => by rw [rowsF_next]; rfl)
      go_wp2_with fail
      refine P.mono ?_
      rintro e w4 ⟨rfl, v4, hL, k4, hb⟩
      obtain ⟨W5, X, HW5, HK5, -⟩ := box1 w4 #[.int .i64 ((n : Int) + 1), .int .i64 0] 35
      have HL5 : Hid (Lo w1.heap.size W5 p g [⟨v4, rowsF 0 (n + 1), ((n + 1) : Nat), 0⟩, ⟨.slice none 0 0, [], 0, 1⟩] ∧ Kept [] w1 W5) := ⟨hL.kept0 HK5.out.1, (HJ.out.2.trans k4 (fun x hx => Or.inr (HJ.out.1.lt x hx).1)).trans HK5.out.1 (by simp)⟩
      clear hL k4 hb P HJ HK5
      go_upto_region 9 with fail
      rw [HW5.out.1]
      clear HW5
      go_wp2_with (first
        | (go_at_call 9; refine (num _ _).mono ?_; rintro e w' ⟨rfl, hw⟩; have hw2 := hw.symm; subst hw2; clear hw))
      go_roundw
      case rel => exact ⟨n + 1, v4, by go_num, by omega, HL5.out⟩
      case measure => simp [intOf]; omega
    · have e : n = 256 := by omega
      subst e
      have P := p_add_full HJ.out.1 0 (i := 0) 0 0 0 ⟨#[]⟩ ⟨#[]⟩ ⟨#[]⟩ 0 0 rfl (by simp) rfl (by show (rowsF 0 256).length = 256; rw [rowsF_length])
      go_wp2_with fail
      refine P.mono ?_
      rintro e w4 ⟨rfl, k4⟩
      obtain ⟨W5, X, HW5, HK5, -⟩ := box1 w4 #[.int .i64 0, .int .i64 0] 35
      have k45 := k4.trans HK5.out.1 (by simp)
      have HL5 : Hid (Lo w1.heap.size W5 p g [⟨v, rowsF 0 256, (256 : Nat), 0⟩, ⟨.slice none 0 0, [], 0, 1⟩] ∧ Kept [] w1 W5) := ⟨HJ.out.1.kept0 k45, HJ.out.2.trans k45 (by simp)⟩
      clear k4 k45 P HJ HK5
      go_upto_region 12 with fail
      rw [HW5.out.1]
      clear HW5
      have P := add_as HL5.out.1 0 (i := 1) 0 0 0 ⟨#[]⟩ ⟨#[]⟩ ⟨#[]⟩ 0 0 HL5.out.2.size rfl (by simp) rfl (by simp) ⟨by decide, by decide, by decide⟩ 1 rfl 1 1 [] (by show nextS 0 1 0 0 = 1; decide) rfl rfl (fun u => [⟨v, rowsF 0 256, (256 : Nat), 0⟩, ⟨u, [recF 1 0], 1, 1⟩]) (fun u => rfl)
      go_wp2_with fail
      refine P.mono ?_
      rintro e w6 ⟨rfl, u6, hL, k6, hb⟩
      obtain ⟨W7, X7, HW7, HK7, -⟩ := box1 w6 #[.int .i64 1, .int .i64 1] 35
      have HL7 : Hid (Lo w1.heap.size W7 p g [⟨v, rowsF 0 256, (256 : Nat), 0⟩, ⟨u6, [recF 1 0], 1, 1⟩] ∧ Kept [] w1 W7) := ⟨hL.kept0 HK7.out.1, (HL5.out.2.trans k6 (fun x hx => Or.inr (HL5.out.1.lt x hx).1)).trans HK7.out.1 (by simp)⟩
      clear hL k6 hb P HL5 HK7
      go_upto_region 13 with fail
      rw [HW7.out.1]
      clear HW7
      go_wp2_with fail
      rw [HX.out.2]
      refine (p_drop HL7.out.1 (k : Int) 7).mono ?_
      rintro e w8 ⟨D, m, rfl, hD, hDp, hm, k8⟩
      have hD2 : D.length = 2 := hDp.len
      have hR : (D[0]).R.length = 256 - k := by
        rw [hDp.rows 0 (by simp) (by omega), if_pos (by simp)]
        exact filterF 0 k 256 (by omega)
      have hm2 : m = k + min k 1 := by
        have e1 := hDp.all rfl
        rw [e1] at hm
        have e2 : ∀ a b : List Rec, totR [a, b] = a.length + b.length := fun a b => by simp [totR]
        simp only [List.map_cons, List.map_nil, e2] at hm
        have e3 := filterF 0 k 256 (by omega)
        have e4 := filterO 1 k (by omega)
        have e5 := rowsF_length 0 256
        have e6 : [recF 1 0].length = 1 := rfl
        omega
      have HL8 : Hid (Lo w1.heap.size w8 p g D ∧ Kept [] w1 w8) := ⟨hD, HL7.out.2.trans k8 (fun x hx => Or.inr (HL7.out.1.lt x hx).1)⟩
      clear hD hDp hm k8 HL7
      by_cases hk0 : k = 0
      · subst hk0
        have hm0 : m = 0 := by omega
        subst hm0
        have P := p_add_full HL8.out.1 0 (i := 0) 0 0 0 ⟨#[]⟩ ⟨#[]⟩ ⟨#[]⟩ 0 0 rfl (by omega) rfl (by omega)
        clear hR hm2
        go_wp2_with fail
        refine P.mono ?_
        rintro e w9 ⟨rfl, k9⟩
        have HK9 : Hid (Kept [] w w9) := (HK.out.trans HL8.out.2 (by simp)).trans k9 (by simp)
        obtain ⟨W10, X10, HW10, HK10, -⟩ := box1 w9 #[.int .i64 0, .int .i64 0] 35
        have HK9 : Hid (Kept [] w W10) := HK9.out.trans HK10.out.1 (by simp)
        clear k9 P HL8
        go_upto_region 17 with fail
        rw [HW10.out.1]
        clear HW10 HK10
        go_wp2_with (first
          | (go_at_call 9; refine (num _ _).mono ?_; rintro e w' ⟨rfl, hw⟩; have hw2 := hw.symm; subst hw2; clear hw))
        go_ret
        exact ⟨rfl, HK9.out⟩
      · have hm0 : m = k + 1 := by omega
        subst hm0
        have P := p_add HL8.out.1 0 (i := 0) 0 0 0 ⟨#[]⟩ ⟨#[]⟩ ⟨#[]⟩ 0 0 HL8.out.2.size rfl (by omega) rfl (by omega) ⟨by decide, by decide, by decide⟩
        by_cases hk1 : k = 1
        · subst hk1
          clear hR hm2
          go_wp2_with fail
          refine P.mono ?_
          rintro e w9 ⟨rfl, v9, hL, k9, hb⟩
          have HK9 : Hid (Kept [] w w9) := (HK.out.trans HL8.out.2 (by simp)).trans k9 (fun x hx => Or.inr (by have := (HL8.out.1.lt x hx).1; have := HK.out.size; omega))
          clear hL k9 hb P
          obtain ⟨z, hz⟩ : ∃ z, nextS (D[0]).a (D[0]).k 0 0 = z := ⟨_, rfl⟩
          obtain ⟨y', hy'⟩ : ∃ y', (D[0]).k = y' := ⟨_, rfl⟩
          rw [hz, hy']
          obtain ⟨W10, X10, HW10, HK10, -⟩ := box1 w9 #[.int .i64 z, .int .i64 y'] 35
          have HK9 : Hid (Kept [] w W10) := HK9.out.trans HK10.out.1 (by simp)
          clear HL8 hz hy'
          go_upto_region 17 with fail
          rw [HW10.out.1]
          clear HW10 HK10
          go_wp2_with (first
            | (go_at_call 9; refine (num _ _).mono ?_; rintro e w' ⟨rfl, hw⟩; have hw2 := hw.symm; subst hw2; clear hw))
          go_ret
          first | exact ⟨rfl, HK9.out⟩ | exact ⟨ret_bool (decide_eq_true (by omega)), HK9.out⟩
        · skip
          have k1 : (1 : Int) ≤ (k : Int) := by omega
          have k2 : ¬ (k : Int) < 1 := by omega
          have k4 : ¬ (k : Int) ≤ 1 := by omega
          have k5 : (1 : Int) < (k : Int) := by omega
          have k3 : (0 : Int) < (k : Int) := by omega
          clear hR hm2
          go_wp2_with fail
          refine P.mono ?_
          rintro e w9 ⟨rfl, v9, hL, k9, hb⟩
          have HK9 : Hid (Kept [] w w9) := (HK.out.trans HL8.out.2 (by simp)).trans k9 (fun x hx => Or.inr (by have := (HL8.out.1.lt x hx).1; have := HK.out.size; omega))
          clear hL k9 hb P
          obtain ⟨z, hz⟩ : ∃ z, nextS (D[0]).a (D[0]).k 0 0 = z := ⟨_, rfl⟩
          obtain ⟨y', hy'⟩ : ∃ y', (D[0]).k = y' := ⟨_, rfl⟩
          rw [hz, hy']
          obtain ⟨W10, X10, HW10, HK10, -⟩ := box1 w9 #[.int .i64 z, .int .i64 y'] 35
          have HK9 : Hid (Kept [] w W10) := HK9.out.trans HK10.out.1 (by simp)
          clear HL8 hz hy'
          go_upto_region 17 with fail
          rw [HW10.out.1]
          clear HW10 HK10
          go_wp2_with (first
            | (go_at_call 9; refine (num _ _).mono ?_; rintro e w' ⟨rfl, hw⟩; have hw2 := hw.symm; subst hw2; clear hw))
          go_ret
          first | exact ⟨rfl, HK9.out⟩ | exact ⟨ret_bool (decide_eq_true (by omega)), HK9.out⟩

set_option maxRecDepth 100000 in
set_option maxHeartbeats 8000000 in
theorem full1 (x y : Int) (k : Nat) (w : World) (hk : k < 100) (hx : bits .and .i64 x 1 = 1) (hy : wrap64 ((IntKind.u64.wrap y).tmod 100) = (k : Int)) :
    Calls Try.prog 5 #[.int .i64 x, .int .i64 y] w fun e w' => e = .returned (.bool true) ∧ Kept [] w w' := by
  have HX : Hid (_ ∧ _) := ⟨hx, hy⟩
  clear hx hy
  go_enter Try.func5, Try.ntmps5
  go_wp2_with fail
  refine (awake_any w).mono ?_
  rintro e w1 ⟨rfl, hK1⟩
  have HK : Hid (Kept [] w w1) := hK1
  clear hK1
  go_wp2_with fail
  refine (p_new 2 (by omega) (by omega) w1).mono ?_
  rintro e w2 ⟨p, g, rfl, hL, k2⟩
  have HL2 : Hid (Lo w1.heap.size w2 p g [⟨.slice none 0 0, [], 0, 0⟩, ⟨(.slice none 0 0), rowsF 1 0, (0 : Nat), 1⟩] ∧ Kept [] w1 w2) := ⟨hL, k2⟩
  clear hL k2
  go_wp2_with fail
  rw [HX.out.1]
  go_loopw [8] (fun i wr => ∃ (n : Nat) (v : Value), i = .int .i64 (n : Int) ∧ n ≤ 256 ∧ Hid (Lo w1.heap.size wr p g [⟨.slice none 0 0, [], 0, 0⟩, ⟨v, rowsF 1 n, (n : Nat), 1⟩] ∧ Kept [] w1 wr)) (fun i _ => (256 - intOf i).toNat)
  case atStart => exact ⟨0, _, rfl, by omega, HL2.out⟩
  case round =>
    clear HL2
    obtain ⟨n, v, rfl, hn, HJ⟩ := hrel
    by_cases hlt : n < 256
    · have i0 : (n : Int) < 256 := by omega
      have P := add_as HJ.out.1 0 (i := 1) 0 0 0 ⟨#[]⟩ ⟨#[]⟩ ⟨#[]⟩ 0 0 HJ.out.2.size rfl (by simp) rfl (by show (rowsF 1 n).length < 256; rw [rowsF_length]; exact hlt) ⟨by decide, by decide, by decide⟩ 1 rfl ((n + 1 : Nat) : Int) 1 (rowsF 1 n) (nextF n 1 (by omega) (by omega)) rfl rfl (fun v => [⟨.slice none 0 0, [], 0, 0⟩, ⟨v, rowsF 1 (n + 1), ((n + 1) : Nat), 1⟩]) (fun v => by rw [rowsF_next]; rfl)
      go_wp2_with fail
      refine P.mono ?_
      rintro e w4 ⟨rfl, v4, hL, k4, hb⟩
      obtain ⟨W5, X, HW5, HK5, -⟩ := box1 w4 #[.int .i64 ((n : Int) + 1), .int .i64 1] 35
      have HL5 : Hid (Lo w1.heap.size W5 p g [⟨.slice none 0 0, [], 0, 0⟩, ⟨v4, rowsF 1 (n + 1), ((n + 1) : Nat), 1⟩] ∧ Kept [] w1 W5) := ⟨hL.kept0 HK5.out.1, (HJ.out.2.trans k4 (fun x hx => Or.inr (HJ.out.1.lt x hx).1)).trans HK5.out.1 (by simp)⟩
      clear hL k4 hb P HJ HK5
      go_upto_region 9 with fail
      rw [HW5.out.1]
      clear HW5
      go_wp2_with (first
        | (go_at_call 9; refine (num _ _).mono ?_; rintro e w' ⟨rfl, hw⟩; have hw2 := hw.symm; subst hw2; clear hw))
      go_roundw
      case rel => exact ⟨n + 1, v4, by go_num, by omega, HL5.out⟩
      case measure => simp [intOf]; omega
    · have e : n = 256 := by omega
      subst e
      have P := p_add_full HJ.out.1 0 (i := 1) 0 0 0 ⟨#[]⟩ ⟨#[]⟩ ⟨#[]⟩ 0 0 rfl (by simp) rfl (by show (rowsF 1 256).length = 256; rw [rowsF_length])
      go_wp2_with fail
      refine P.mono ?_
      rintro e w4 ⟨rfl, k4⟩
      obtain ⟨W5, X, HW5, HK5, -⟩ := box1 w4 #[.int .i64 0, .int .i64 0] 35
      have k45 := k4.trans HK5.out.1 (by simp)
      have HL5 : Hid (Lo w1.heap.size W5 p g [⟨.slice none 0 0, [], 0, 0⟩, ⟨v, rowsF 1 256, (256 : Nat), 1⟩] ∧ Kept [] w1 W5) := ⟨HJ.out.1.kept0 k45, HJ.out.2.trans k45 (by simp)⟩
      clear k4 k45 P HJ HK5
      go_upto_region 12 with fail
      rw [HW5.out.1]
      clear HW5
      have P := add_as HL5.out.1 0 (i := 0) 0 0 0 ⟨#[]⟩ ⟨#[]⟩ ⟨#[]⟩ 0 0 HL5.out.2.size rfl (by simp) rfl (by simp) ⟨by decide, by decide, by decide⟩ 0 rfl 1 0 [] (by show nextS 0 0 0 0 = 1; decide) rfl rfl (fun u => [⟨u, [recF 0 0], 1, 0⟩, ⟨v, rowsF 1 256, (256 : Nat), 1⟩]) (fun u => rfl)
      go_wp2_with fail
      refine P.mono ?_
      rintro e w6 ⟨rfl, u6, hL, k6, hb⟩
      obtain ⟨W7, X7, HW7, HK7, -⟩ := box1 w6 #[.int .i64 1, .int .i64 0] 35
      have HL7 : Hid (Lo w1.heap.size W7 p g [⟨u6, [recF 0 0], 1, 0⟩, ⟨v, rowsF 1 256, (256 : Nat), 1⟩] ∧ Kept [] w1 W7) := ⟨hL.kept0 HK7.out.1, (HL5.out.2.trans k6 (fun x hx => Or.inr (HL5.out.1.lt x hx).1)).trans HK7.out.1 (by simp)⟩
      clear hL k6 hb P HL5 HK7
      go_upto_region 13 with fail
      rw [HW7.out.1]
      clear HW7
      go_wp2_with fail
      rw [HX.out.2]
      refine (p_drop HL7.out.1 (k : Int) 7).mono ?_
      rintro e w8 ⟨D, m, rfl, hD, hDp, hm, k8⟩
      have hD2 : D.length = 2 := hDp.len
      have hR : (D[1]).R.length = 256 - k := by
        rw [hDp.rows 1 (by simp) (by omega), if_pos (by simp)]
        exact filterF 1 k 256 (by omega)
      have hm2 : m = k + min k 1 := by
        have e1 := hDp.all rfl
        rw [e1] at hm
        have e2 : ∀ a b : List Rec, totR [a, b] = a.length + b.length := fun a b => by simp [totR]
        simp only [List.map_cons, List.map_nil, e2] at hm
        have e3 := filterF 1 k 256 (by omega)
        have e4 := filterO 0 k (by omega)
        have e5 := rowsF_length 1 256
        have e6 : [recF 0 0].length = 1 := rfl
        omega
      have HL8 : Hid (Lo w1.heap.size w8 p g D ∧ Kept [] w1 w8) := ⟨hD, HL7.out.2.trans k8 (fun x hx => Or.inr (HL7.out.1.lt x hx).1)⟩
      clear hD hDp hm k8 HL7
      by_cases hk0 : k = 0
      · subst hk0
        have hm0 : m = 0 := by omega
        subst hm0
        have P := p_add_full HL8.out.1 0 (i := 1) 0 0 0 ⟨#[]⟩ ⟨#[]⟩ ⟨#[]⟩ 0 0 rfl (by omega) rfl (by omega)
        clear hR hm2
        go_wp2_with fail
        refine P.mono ?_
        rintro e w9 ⟨rfl, k9⟩
        have HK9 : Hid (Kept [] w w9) := (HK.out.trans HL8.out.2 (by simp)).trans k9 (by simp)
        obtain ⟨W10, X10, HW10, HK10, -⟩ := box1 w9 #[.int .i64 0, .int .i64 0] 35
        have HK9 : Hid (Kept [] w W10) := HK9.out.trans HK10.out.1 (by simp)
        clear k9 P HL8
        go_upto_region 17 with fail
        rw [HW10.out.1]
        clear HW10 HK10
        go_wp2_with (first
          | (go_at_call 9; refine (num _ _).mono ?_; rintro e w' ⟨rfl, hw⟩; have hw2 := hw.symm; subst hw2; clear hw))
        go_ret
        exact ⟨rfl, HK9.out⟩
      · have hm0 : m = k + 1 := by omega
        subst hm0
        have P := p_add HL8.out.1 0 (i := 1) 0 0 0 ⟨#[]⟩ ⟨#[]⟩ ⟨#[]⟩ 0 0 HL8.out.2.size rfl (by omega) rfl (by omega) ⟨by decide, by decide, by decide⟩
        by_cases hk1 : k = 1
        · subst hk1
          clear hR hm2
          go_wp2_with fail
          refine P.mono ?_
          rintro e w9 ⟨rfl, v9, hL, k9, hb⟩
          have HK9 : Hid (Kept [] w w9) := (HK.out.trans HL8.out.2 (by simp)).trans k9 (fun x hx => Or.inr (by have := (HL8.out.1.lt x hx).1; have := HK.out.size; omega))
          clear hL k9 hb P
          obtain ⟨z, hz⟩ : ∃ z, nextS (D[1]).a (D[1]).k 0 0 = z := ⟨_, rfl⟩
          obtain ⟨y', hy'⟩ : ∃ y', (D[1]).k = y' := ⟨_, rfl⟩
          rw [hz, hy']
          obtain ⟨W10, X10, HW10, HK10, -⟩ := box1 w9 #[.int .i64 z, .int .i64 y'] 35
          have HK9 : Hid (Kept [] w W10) := HK9.out.trans HK10.out.1 (by simp)
          clear HL8 hz hy'
          go_upto_region 17 with fail
          rw [HW10.out.1]
          clear HW10 HK10
          go_wp2_with (first
            | (go_at_call 9; refine (num _ _).mono ?_; rintro e w' ⟨rfl, hw⟩; have hw2 := hw.symm; subst hw2; clear hw))
          go_ret
          first | exact ⟨rfl, HK9.out⟩ | exact ⟨ret_bool (decide_eq_true (by omega)), HK9.out⟩
        · skip
          have k1 : (1 : Int) ≤ (k : Int) := by omega
          have k2 : ¬ (k : Int) < 1 := by omega
          have k4 : ¬ (k : Int) ≤ 1 := by omega
          have k5 : (1 : Int) < (k : Int) := by omega
          have k3 : (0 : Int) < (k : Int) := by omega
          clear hR hm2
          go_wp2_with fail
          refine P.mono ?_
          rintro e w9 ⟨rfl, v9, hL, k9, hb⟩
          have HK9 : Hid (Kept [] w w9) := (HK.out.trans HL8.out.2 (by simp)).trans k9 (fun x hx => Or.inr (by have := (HL8.out.1.lt x hx).1; have := HK.out.size; omega))
          clear hL k9 hb P
          obtain ⟨z, hz⟩ : ∃ z, nextS (D[1]).a (D[1]).k 0 0 = z := ⟨_, rfl⟩
          obtain ⟨y', hy'⟩ : ∃ y', (D[1]).k = y' := ⟨_, rfl⟩
          rw [hz, hy']
          obtain ⟨W10, X10, HW10, HK10, -⟩ := box1 w9 #[.int .i64 z, .int .i64 y'] 35
          have HK9 : Hid (Kept [] w W10) := HK9.out.trans HK10.out.1 (by simp)
          clear HL8 hz hy'
          go_upto_region 17 with fail
          rw [HW10.out.1]
          clear HW10 HK10
          go_wp2_with (first
            | (go_at_call 9; refine (num _ _).mono ?_; rintro e w' ⟨rfl, hw⟩; have hw2 := hw.symm; subst hw2; clear hw))
          go_ret
          first | exact ⟨rfl, HK9.out⟩ | exact ⟨ret_bool (decide_eq_true (by omega)), HK9.out⟩

end Go.Proofs.Ytlecpeofjabndaa
