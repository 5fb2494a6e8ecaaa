/-
  OplogRows: of each core the row is kept; who has seen a stamp stands behind it.
-/
import Derived.Test.YtlecpeofjabndaaLs
namespace Go.Proofs.Ytlecpeofjabndaa
open Go.RowKit
set_option linter.unusedVariables false
set_option linter.unusedSimpArgs false

set_option maxRecDepth 100000 in
set_option maxHeartbeats 8000000 in
theorem rows (a0 : Option Addr) (len0 cap0 : Nat) (z0 : List Int) (w : World) (hl : len0 ≤ 9223372036854775807) (hc : ∀ i, i < len0 → ∃ bb off, a0 = some ⟨bb, off, none⟩ ∧ w.cell? ⟨bb, off + i, none⟩ = some (.int .i64 (z0.getD i 0))) :
    Calls Try.prog 4 #[.slice a0 len0 cap0] w fun e w' => e = .returned (.bool true) ∧ Kept [] w w' := by
  have HC : Hid (_) := hc
  clear hc
  go_enter Try.func4, Try.ntmps4
  go_wp2_with fail
  refine (awake_any w).mono ?_
  rintro e w1 ⟨rfl, hK1⟩
  have HK : Hid (Kept [] w w1) := hK1
  clear hK1
  go_wp2_with fail
  refine (p_new 4 (by omega) (by omega) w1).mono ?_
  rintro e w2 ⟨p, g, rfl, hL, k2⟩
  have HL2 : Hid (Lo w1.heap.size w2 p g (freshC 4 4) ∧ Okr 0 (freshC 4 4) [] ∧ (freshC 4 4).length = 4 ∧ Kept [] w1 w2 ∧ Sw w2 w1.heap.size (.slice none 0 0) [] ∧ ∀ x, (Value.slice none 0 0).ownBlock = some x → x ∉ bl p g (freshC 4 4)) := ⟨hL, Okr.fresh, freshC_length 4 4, k2, Sw.nil _ _, fun x hx => by simp [Value.ownBlock] at hx⟩
  clear hL k2
  go_wp2_with fail
  refine (num 0 _).mono ?_
  rintro e wn ⟨rfl, hw⟩
  have hw2 := hw.symm
  subst hw2
  clear hw
  go_wp2_with fail
  go_loopw [6, 5] (fun i u wr => ∃ (n : Nat) (C : List Co) (A : List (Int × Int)) (aa : Option Addr) (ca : Nat), i = .int .i64 (n : Int) ∧ u = .slice aa n ca ∧ n ≤ 60 ∧ n ≤ len0 ∧ Hid (Lo w1.heap.size wr p g C ∧ Okr n C A ∧ C.length = 4 ∧ Kept [] w1 wr ∧ Sw wr w1.heap.size (.slice aa n ca) A ∧ ∀ x, (Value.slice aa n ca).ownBlock = some x → x ∉ bl p g C)) (fun i _ _ => (60 - intOf i).toNat)
  case atStart => exact ⟨0, _, _, none, 0, rfl, rfl, by omega, by omega, HL2.out⟩
  case round =>
    clear HL2
    obtain ⟨n, C, A, aa, ca, rfl, rfl, hn60, hnl, HJ⟩ := hrel
    by_cases hlt : n < len0 ∧ n < 60
    · obtain ⟨hlt, hlt2⟩ := hlt
      have i0 : (0 : Int) ≤ (n : Int) := by omega
      have i1 : (n : Int) < (len0 : Int) := by omega
      have i2 : (n : Int) < 60 := by omega
      obtain ⟨bb, off, ha, hcell⟩ := HC.out n hlt
      subst ha
      obtain ⟨z, hz⟩ : ∃ z, z0.getD n 0 = z := ⟨_, rfl⟩
      rw [hz] at hcell
      have hbw : bb < w.heap.size := block_lt_of_cell hcell
      have HNb : Hid (bb ∉ bl p g C) := fun hm => by have := (HJ.out.1.lt bb hm).1; have := HK.out.size; omega
      have zc : wr.cell? ⟨bb, off + n, none⟩ = some (.int .i64 z) := HJ.out.2.2.2.1.cell (HK.out.cell hcell (by simp)) (by simp)
      obtain ⟨cc, hcc⟩ : ∃ cc, (z % 4).toNat = cc := ⟨_, rfl⟩
      have hccL : cc < C.length := by rw [HJ.out.2.2.1]; omega
      have HQ : Hid (bits .and .i64 z 3 = (cc : Int) ∧ cc < C.length) := ⟨by rw [i64_and3]; omega, hccL⟩
      obtain ⟨b4, hb4⟩ : ∃ b4, bits .and .i64 z 4 = b4 := ⟨_, rfl⟩
      have HB4 : Hid (bits .and .i64 z 4 = b4) := hb4
      obtain ⟨hsl1, hsl2, hsl3, hslr⟩ := HJ.out.2.2.2.2.1.at_
      have HSl : Hid (∀ i (hi : i < A.length), ∃ g, aa = some ⟨g, 0, none⟩ ∧ wr.cell? ⟨g, i * 2, none⟩ = some (.int .i64 (A[i]).1) ∧ wr.cell? ⟨g, i * 2 + 1, none⟩ = some (.int .i64 (A[i]).2)) := hslr
      have HAn : Hid (A.length = n) := HJ.out.2.1.al
      have hca : ca ≤ 9223372036854775807 := by unfold maxLen at hsl3; omega
      have hnca : n ≤ ca := by have := HAn.out; omega
      obtain ⟨W3, X, HW3, HK3, HB3⟩ := box1 wr #[.int .i64 0, .int .i64 0] 35
      have HL3 : Hid (Lo w1.heap.size W3 p g C ∧ Kept [] w1 W3) := ⟨HJ.out.1.kept0 HK3.out.1, HJ.out.2.2.2.1.trans HK3.out.1 (by simp)⟩
      have HXn : Hid (X ∉ bl p g C) := fun hm => by have := (HJ.out.1.lt X hm).2; have := HW3.out.2; omega
      have HSw3 : Hid (Sw W3 w1.heap.size (.slice aa n ca) A) := HJ.out.2.2.2.2.1.kept HK3.out.1 (by simp)
      have HSn : Hid (∀ x, (Value.slice aa n ca).ownBlock = some x → x ∉ bl p g C) := HJ.out.2.2.2.2.2
      have HXs : Hid (∀ x, (Value.slice aa n ca).ownBlock = some x → x < X) := fun x hx => by have := (HJ.out.2.2.2.2.1.block x hx).2; have := HW3.out.2; omega
      have HZ3 : Hid (W3.cell? ⟨bb, off + n, none⟩ = some (.int .i64 z)) := HK3.out.1.cell zc (by simp)
      have HXb : Hid (bb ≠ X) := by have := HW3.out.2; have h2 := (HK.out.trans HJ.out.2.2.2.1 (by simp)).size; intro e; omega
      clear hz hcell hbw hcc hb4 hsl1 hsl2 hsl3 hslr
      go_upto_region 12 with fail
      rw [HW3.out.1, HW3.out.2]
      clear HW3
      have zc3 := HZ3.out
      have x0 : W3.cell? ⟨X, 0, none⟩ = some (.int .i64 0) := cellB HB3.out
      have x1 : W3.cell? ⟨X, 1, none⟩ = some (.int .i64 0) := cellB HB3.out
      clear zc
      by_cases hn0 : n = 0
      · have l0 : ¬ (0 : Int) < (n : Int) := by omega
        have d0 : decide ((0 : Int) < (n : Int)) = false := decide_eq_false l0
        clear hn0
        by_cases h4 : b4 = 4
        · have f4 : (bits .and .i64 z 4 == 4) = true := by rw [HB4.out, h4]; rfl
          clear h4
          go_upto_region 14 with fail
          obtain ⟨hnx, hOk⟩ := HJ.out.2.1.add (by omega) HQ.out.2 (by have := HJ.out.2.2.1; omega) (s := 0) (sk := 0) (by omega) (by omega) (by omega) (by omega) (.slice none 0 0)
          have HNX : Hid (nextS (C[cc]).a (C[cc]).k 0 0 = max (C[cc]).a 0 + 1 ∧ (C[cc]).k = (cc : Int) ∧ 0 ≤ (C[cc]).a ∧ (C[cc]).a ≤ n) := ⟨hnx, (HJ.out.2.1.co cc HQ.out.2).1, (HJ.out.2.1.co cc HQ.out.2).2.1, (HJ.out.2.1.co cc HQ.out.2).2.2.1⟩
          have HOk : Hid (∀ v, Okr (n + 1) (C.set cc ⟨v, (C[cc]).R ++ [addR C[cc] 0 cc 0 0 (n : Int) ⟨#[]⟩ ⟨#[]⟩ ⟨#[]⟩ 0 0], nextS (C[cc]).a (C[cc]).k 0 0, (C[cc]).k⟩) (A ++ [(nextS (C[cc]).a (C[cc]).k 0 0, (C[cc]).k)])) := fun v => (HJ.out.2.1.add (by omega) HQ.out.2 (by have := HJ.out.2.2.1; omega) (by omega) (by omega) (by omega) (by omega) v).2
          have hmy : mayS 0 0 = true := by simp [mayS]
          have HLs : Hid ((C[cc]).R.length < 256) := by have := (HJ.out.2.1.co cc HQ.out.2).2.2.2.2.2.2; show _ < _; omega
          clear hOk hnx
          go_wp2_with fail
          rw [HQ.out.1]
          refine (p_add HL3.out.1 0 (i := cc) 0 0 (n : Int) ⟨#[]⟩ ⟨#[]⟩ ⟨#[]⟩ 0 0 HL3.out.2.size rfl HQ.out.2 hmy HLs.out ⟨by decide, by decide, by decide⟩).mono ?_
          rintro e w4 ⟨rfl, v4, hL, k4, hb⟩
          obtain ⟨nx, hnx⟩ : ∃ nx, nextS (C[cc]).a (C[cc]).k 0 0 = nx := ⟨_, rfl⟩
          have HNx : Hid (nextS (C[cc]).a (C[cc]).k 0 0 = nx) := hnx
          have hnx1 : 0 < nx := by have := HNX.out.1; omega
          have hckk := HNX.out.2.1
          rw [hnx, hckk]
          obtain ⟨W5, Y, HW5, HK5, HB5⟩ := box1 w4 #[.int .i64 nx, .int .i64 (cc : Int)] 35
          have HL5 : Hid (_ ∧ Kept [] w1 W5) := ⟨hL.kept0 HK5.out.1, (HL3.out.2.trans k4 (fun x hx => Or.inr (HL3.out.1.lt x hx).1)).trans HK5.out.1 (by simp)⟩
          have HBl5 : Hid (∀ x ∈ bl p g (C.set cc ⟨v4, (C[cc]).R ++ [addR C[cc] 0 cc 0 0 (n : Int) ⟨#[]⟩ ⟨#[]⟩ ⟨#[]⟩ 0 0], nextS (C[cc]).a (C[cc]).k 0 0, (C[cc]).k⟩), x ∈ bl p g C ∨ W3.heap.size ≤ x) := hb
          have HX5 : Hid (W5.heap[X]? = some (.cells #[.int .i64 0, .int .i64 0] 35 (0, 0))) := (HK5.out.1.block X (Nat.lt_of_lt_of_le (lt_of_heap HB3.out) k4.size) (by simp)).trans ((k4.block X (lt_of_heap HB3.out) HXn.out).trans HB3.out)
          have HS5 : Hid (Sw W5 w1.heap.size (.slice aa n ca) A) := (HSw3.out.kept k4 (fun x hx e => HSn.out x e hx)).kept HK5.out.1 (by simp)
          have HZ5 : Hid (W5.cell? ⟨bb, off + n, none⟩ = some (.int .i64 z)) := HK5.out.1.cell (k4.cell HZ3.out HNb.out) (by simp)
          have HY : Hid (w4.heap.size = Y ∧ W3.heap.size ≤ w4.heap.size) := ⟨HW5.out.2, k4.size⟩
          clear hL k4 hb hmy HLs
          go_upto_region 15 with fail
          rw [HW5.out.1, HW5.out.2]
          clear HW5
          have y0 : W5.cell? ⟨Y, 0, none⟩ = some (.int .i64 nx) := cellB HB5.out
          have y1 : W5.cell? ⟨Y, 1, none⟩ = some (.int .i64 (cc : Int)) := cellB HB5.out
          have x0 : W5.cell? ⟨X, 0, none⟩ = some (.int .i64 0) := cellB HX5.out
          have zc := HZ5.out
          have l1 : ¬ nx ≤ 0 := by omega
          have l2 : decide (nx ≤ 0) = false := decide_eq_false l1
          have l3 : ((cc : Int) != (cc : Int)) = false := by simp
          go_wp2_with fail
          refine (num 0 _).mono ?_
          rintro e wn ⟨rfl, hw⟩
          have hw2 := hw.symm
          subst hw2
          clear hw
          obtain ⟨W6, Q, HW6, HK6, HB6⟩ := box1 W5 #[.int .i64 nx, .int .i64 (cc : Int)] 35
          obtain ⟨gn, cn, w7, hr7, sr7, gr7, hg7, -⟩ := append_st (A := A) (v := .slice aa n ca) (HS5.out.kept HK6.out.1 (by simp)) (Nat.le_trans HL5.out.2.size HK6.out.1.size) Q nx (cc : Int) (cellB HB6.out) (cellB HB6.out) (by have := HJ.out.2.1.al; omega) 48
          rw [HJ.out.2.1.al] at hr7 sr7
          have HAp : Hid ((Builtin.append_ #[48, 48] 48 #[.slice aa n ca, .slice (some ⟨Q, 0, none⟩) 1 1]).run Try.prog W6 = .ok (.slice (some ⟨gn, 0, none⟩) (n + 1) cn) w7) := hr7
          rw [← HW6.out.1, ← HW6.out.2] at HAp
          have k67 : Kept (Value.slice aa n ca).ownBlock.toList W5 w7 := (HK6.out.1.mono (by simp)).grown gr7 (fun x hx => Or.inl (by simpa using hx))
          have HSn5 : Hid (∀ x, (Value.slice aa n ca).ownBlock = some x → x ∉ bl p g (C.set cc ⟨v4, (C[cc]).R ++ [addR C[cc] 0 cc 0 0 (n : Int) ⟨#[]⟩ ⟨#[]⟩ ⟨#[]⟩ 0 0], nextS (C[cc]).a (C[cc]).k 0 0, (C[cc]).k⟩)) := fun x hx hm => by
            rcases HBl5.out x hm with h1 | h1
            · exact HSn.out x hx h1
            · have := (HSw3.out.block x hx).2; omega
          have HL7 : Hid (Lo w1.heap.size w7 p g (C.set cc ⟨v4, (C[cc]).R ++ [addR C[cc] 0 cc 0 0 (n : Int) ⟨#[]⟩ ⟨#[]⟩ ⟨#[]⟩ 0 0], nextS (C[cc]).a (C[cc]).k 0 0, (C[cc]).k⟩) ∧ Kept [] w1 w7) := ⟨HL5.out.1.kept k67 (fun x hx => HSn5.out x (by simpa using hx)), HL5.out.2.trans k67 (fun x hx => Or.inr (HS5.out.block x (by simpa using hx)).1)⟩
          have HS7 : Hid (Sw w7 w1.heap.size (.slice (some ⟨gn, 0, none⟩) (n + 1) cn) (A ++ [(nextS (C[cc]).a (C[cc]).k 0 0, (C[cc]).k)]) ∧ gn ∉ bl p g (C.set cc ⟨v4, (C[cc]).R ++ [addR C[cc] 0 cc 0 0 (n : Int) ⟨#[]⟩ ⟨#[]⟩ ⟨#[]⟩ 0 0], nextS (C[cc]).a (C[cc]).k 0 0, (C[cc]).k⟩)) := ⟨by rw [HNx.out, hckk]; exact sr7, fun hm => by
            rcases hg7 with h1 | h1
            · exact HSn5.out gn h1 hm
            · have h2 := (HL5.out.1.lt gn hm).2
              have h3 := HK6.out.1.size
              omega⟩
          clear hr7 sr7 gr7 hg7 k67 HB6 HK6
          go_wp2_with (at_builtin; refine wpList_append_run _ rfl _ _ 48 48 rfl _ _ rfl rfl _ _ HAp.out ?_)
          go_roundw
          case rel => exact ⟨n + 1, _, _, some ⟨gn, 0, none⟩, cn, by go_num, rfl, by omega, by omega, HL7.out.1, HOk.out v4, by simpa using HJ.out.2.2.1, HL7.out.2, HS7.out.1, fun x hx => by simp [Value.ownBlock] at hx; subst hx; exact HS7.out.2⟩
          case measure => simp [intOf]; omega
        · have f4 : (bits .and .i64 z 4 == 4) = false := by rw [HB4.out]; simpa using h4
          clear h4
          go_upto_region 14 with fail
          obtain ⟨hnx, hOk⟩ := HJ.out.2.1.add (by omega) HQ.out.2 (by have := HJ.out.2.2.1; omega) (s := 0) (sk := 0) (by omega) (by omega) (by omega) (by omega) (.slice none 0 0)
          have HNX : Hid (nextS (C[cc]).a (C[cc]).k 0 0 = max (C[cc]).a 0 + 1 ∧ (C[cc]).k = (cc : Int) ∧ 0 ≤ (C[cc]).a ∧ (C[cc]).a ≤ n) := ⟨hnx, (HJ.out.2.1.co cc HQ.out.2).1, (HJ.out.2.1.co cc HQ.out.2).2.1, (HJ.out.2.1.co cc HQ.out.2).2.2.1⟩
          have HOk : Hid (∀ v, Okr (n + 1) (C.set cc ⟨v, (C[cc]).R ++ [addR C[cc] 0 cc 0 0 (n : Int) ⟨#[]⟩ ⟨#[]⟩ ⟨#[]⟩ 0 0], nextS (C[cc]).a (C[cc]).k 0 0, (C[cc]).k⟩) (A ++ [(nextS (C[cc]).a (C[cc]).k 0 0, (C[cc]).k)])) := fun v => (HJ.out.2.1.add (by omega) HQ.out.2 (by have := HJ.out.2.2.1; omega) (by omega) (by omega) (by omega) (by omega) v).2
          have hmy : mayS 0 0 = true := by simp [mayS]
          have HLs : Hid ((C[cc]).R.length < 256) := by have := (HJ.out.2.1.co cc HQ.out.2).2.2.2.2.2.2; show _ < _; omega
          clear hOk hnx
          go_wp2_with fail
          rw [HQ.out.1]
          refine (p_add HL3.out.1 0 (i := cc) 0 0 (n : Int) ⟨#[]⟩ ⟨#[]⟩ ⟨#[]⟩ 0 0 HL3.out.2.size rfl HQ.out.2 hmy HLs.out ⟨by decide, by decide, by decide⟩).mono ?_
          rintro e w4 ⟨rfl, v4, hL, k4, hb⟩
          obtain ⟨nx, hnx⟩ : ∃ nx, nextS (C[cc]).a (C[cc]).k 0 0 = nx := ⟨_, rfl⟩
          have HNx : Hid (nextS (C[cc]).a (C[cc]).k 0 0 = nx) := hnx
          have hnx1 : 0 < nx := by have := HNX.out.1; omega
          have hckk := HNX.out.2.1
          rw [hnx, hckk]
          obtain ⟨W5, Y, HW5, HK5, HB5⟩ := box1 w4 #[.int .i64 nx, .int .i64 (cc : Int)] 35
          have HL5 : Hid (_ ∧ Kept [] w1 W5) := ⟨hL.kept0 HK5.out.1, (HL3.out.2.trans k4 (fun x hx => Or.inr (HL3.out.1.lt x hx).1)).trans HK5.out.1 (by simp)⟩
          have HBl5 : Hid (∀ x ∈ bl p g (C.set cc ⟨v4, (C[cc]).R ++ [addR C[cc] 0 cc 0 0 (n : Int) ⟨#[]⟩ ⟨#[]⟩ ⟨#[]⟩ 0 0], nextS (C[cc]).a (C[cc]).k 0 0, (C[cc]).k⟩), x ∈ bl p g C ∨ W3.heap.size ≤ x) := hb
          have HX5 : Hid (W5.heap[X]? = some (.cells #[.int .i64 0, .int .i64 0] 35 (0, 0))) := (HK5.out.1.block X (Nat.lt_of_lt_of_le (lt_of_heap HB3.out) k4.size) (by simp)).trans ((k4.block X (lt_of_heap HB3.out) HXn.out).trans HB3.out)
          have HS5 : Hid (Sw W5 w1.heap.size (.slice aa n ca) A) := (HSw3.out.kept k4 (fun x hx e => HSn.out x e hx)).kept HK5.out.1 (by simp)
          have HZ5 : Hid (W5.cell? ⟨bb, off + n, none⟩ = some (.int .i64 z)) := HK5.out.1.cell (k4.cell HZ3.out HNb.out) (by simp)
          have HY : Hid (w4.heap.size = Y ∧ W3.heap.size ≤ w4.heap.size) := ⟨HW5.out.2, k4.size⟩
          clear hL k4 hb hmy HLs
          go_upto_region 15 with fail
          rw [HW5.out.1, HW5.out.2]
          clear HW5
          have y0 : W5.cell? ⟨Y, 0, none⟩ = some (.int .i64 nx) := cellB HB5.out
          have y1 : W5.cell? ⟨Y, 1, none⟩ = some (.int .i64 (cc : Int)) := cellB HB5.out
          have x0 : W5.cell? ⟨X, 0, none⟩ = some (.int .i64 0) := cellB HX5.out
          have zc := HZ5.out
          have l1 : ¬ nx ≤ 0 := by omega
          have l2 : decide (nx ≤ 0) = false := decide_eq_false l1
          have l3 : ((cc : Int) != (cc : Int)) = false := by simp
          go_wp2_with fail
          refine (num 0 _).mono ?_
          rintro e wn ⟨rfl, hw⟩
          have hw2 := hw.symm
          subst hw2
          clear hw
          obtain ⟨W6, Q, HW6, HK6, HB6⟩ := box1 W5 #[.int .i64 nx, .int .i64 (cc : Int)] 35
          obtain ⟨gn, cn, w7, hr7, sr7, gr7, hg7, -⟩ := append_st (A := A) (v := .slice aa n ca) (HS5.out.kept HK6.out.1 (by simp)) (Nat.le_trans HL5.out.2.size HK6.out.1.size) Q nx (cc : Int) (cellB HB6.out) (cellB HB6.out) (by have := HJ.out.2.1.al; omega) 48
          rw [HJ.out.2.1.al] at hr7 sr7
          have HAp : Hid ((Builtin.append_ #[48, 48] 48 #[.slice aa n ca, .slice (some ⟨Q, 0, none⟩) 1 1]).run Try.prog W6 = .ok (.slice (some ⟨gn, 0, none⟩) (n + 1) cn) w7) := hr7
          rw [← HW6.out.1, ← HW6.out.2] at HAp
          have k67 : Kept (Value.slice aa n ca).ownBlock.toList W5 w7 := (HK6.out.1.mono (by simp)).grown gr7 (fun x hx => Or.inl (by simpa using hx))
          have HSn5 : Hid (∀ x, (Value.slice aa n ca).ownBlock = some x → x ∉ bl p g (C.set cc ⟨v4, (C[cc]).R ++ [addR C[cc] 0 cc 0 0 (n : Int) ⟨#[]⟩ ⟨#[]⟩ ⟨#[]⟩ 0 0], nextS (C[cc]).a (C[cc]).k 0 0, (C[cc]).k⟩)) := fun x hx hm => by
            rcases HBl5.out x hm with h1 | h1
            · exact HSn.out x hx h1
            · have := (HSw3.out.block x hx).2; omega
          have HL7 : Hid (Lo w1.heap.size w7 p g (C.set cc ⟨v4, (C[cc]).R ++ [addR C[cc] 0 cc 0 0 (n : Int) ⟨#[]⟩ ⟨#[]⟩ ⟨#[]⟩ 0 0], nextS (C[cc]).a (C[cc]).k 0 0, (C[cc]).k⟩) ∧ Kept [] w1 w7) := ⟨HL5.out.1.kept k67 (fun x hx => HSn5.out x (by simpa using hx)), HL5.out.2.trans k67 (fun x hx => Or.inr (HS5.out.block x (by simpa using hx)).1)⟩
          have HS7 : Hid (Sw w7 w1.heap.size (.slice (some ⟨gn, 0, none⟩) (n + 1) cn) (A ++ [(nextS (C[cc]).a (C[cc]).k 0 0, (C[cc]).k)]) ∧ gn ∉ bl p g (C.set cc ⟨v4, (C[cc]).R ++ [addR C[cc] 0 cc 0 0 (n : Int) ⟨#[]⟩ ⟨#[]⟩ ⟨#[]⟩ 0 0], nextS (C[cc]).a (C[cc]).k 0 0, (C[cc]).k⟩)) := ⟨by rw [HNx.out, hckk]; exact sr7, fun hm => by
            rcases hg7 with h1 | h1
            · exact HSn5.out gn h1 hm
            · have h2 := (HL5.out.1.lt gn hm).2
              have h3 := HK6.out.1.size
              omega⟩
          clear hr7 sr7 gr7 hg7 k67 HB6 HK6
          go_wp2_with (at_builtin; refine wpList_append_run _ rfl _ _ 48 48 rfl _ _ rfl rfl _ _ HAp.out ?_)
          go_roundw
          case rel => exact ⟨n + 1, _, _, some ⟨gn, 0, none⟩, cn, by go_num, rfl, by omega, by omega, HL7.out.1, HOk.out v4, by simpa using HJ.out.2.2.1, HL7.out.2, HS7.out.1, fun x hx => by simp [Value.ownBlock] at hx; subst hx; exact HS7.out.2⟩
          case measure => simp [intOf]; omega
      · have l0 : (0 : Int) < (n : Int) := by omega
        have d0 : decide ((0 : Int) < (n : Int)) = true := decide_eq_true l0
        by_cases h4 : b4 = 4
        · have f4 : (bits .and .i64 z 4 == 4) = true := by rw [HB4.out, h4]; rfl
          obtain ⟨x6, hx6⟩ : ∃ x6, bits .and .i64 (wrap64 (z.tdiv 8)) 63 = x6 := ⟨_, rfl⟩
          have hx60 : 0 ≤ x6 ∧ x6 ≤ 63 := by rw [← hx6, i64_and63]; omega
          obtain ⟨q, hq⟩ : ∃ q, (x6 % (n : Int)).toNat = q := ⟨_, rfl⟩
          have hq1 : (bits .and .i64 (wrap64 (z.tdiv 8)) 63).tmod (n : Int) = (q : Int) := by
            rw [hx6, Int.tmod_eq_emod_of_nonneg hx60.1]
            have := Int.emod_nonneg x6 (by omega : (n : Int) ≠ 0)
            omega
          have hq2 : q < n := by
            have := Int.emod_lt_of_pos x6 l0
            have := Int.emod_nonneg x6 (by omega : (n : Int) ≠ 0)
            omega
          have hqA : q < A.length := by rw [HAn.out]; exact hq2
          obtain ⟨ga, hga, c0, c1⟩ := HSl.out q hqA
          have hast := HJ.out.2.1.ast _ (List.getElem_mem hqA)
          obtain ⟨sa, hsa⟩ : ∃ sa, (A[q]).1 = sa := ⟨_, rfl⟩
          obtain ⟨sk, hsk⟩ : ∃ sk, (A[q]).2 = sk := ⟨_, rfl⟩
          rw [hsa] at c0 hast
          rw [hsk] at c1 hast
          have e0 : W3.cell? ⟨ga, q * 2, none⟩ = some (.int .i64 sa) := HK3.out.1.cell c0 (by simp)
          have e1 : W3.cell? ⟨ga, q * 2 + 1, none⟩ = some (.int .i64 sk) := HK3.out.1.cell c1 (by simp)
          have q0 : (0 : Int) ≤ (q : Int) := by omega
          have q1 : (q : Int) < (n : Int) := by omega
          have n0 : ¬ (n : Int) = 0 := by omega
          have n1 : ((n : Int) == 0) = false := by simpa using n0
          have p0 := frozen_of HB3.out 0
          have p1 := frozen_of HB3.out 1
          have hgX : ga ≠ X := fun e => by have := HXs.out ga (by rw [hga]; rfl); omega
          have HGa : Hid (aa = some ⟨ga, 0, none⟩) := hga
          obtain ⟨W3b, hW3b⟩ : ∃ W3b, (W3.setCell ⟨X, 0, none⟩ (.int .i64 sa)).setCell ⟨X, 1, none⟩ (.int .i64 sk) = W3b := ⟨_, rfl⟩
          have k3b : Kept [X] W3 W3b := by rw [← hW3b]; exact ((Kept.refl _ _).setCell (p := ⟨X, 0, none⟩) (Or.inl (by simp)) _).setCell (p := ⟨X, 1, none⟩) (Or.inl (by simp)) _
          have HB3b : Hid (W3b.heap[X]? = some (.cells #[.int .i64 sa, .int .i64 sk] 35 (0, 0))) := by show _ = _; rw [← hW3b]; exact block_set (block_set HB3.out 0 _) 1 _
          have hXl : w1.heap.size ≤ X := by
            have h4 := HK3.out.2
            have h5 := HJ.out.2.2.2.1.size
            omega
          have HL3b : Hid (Lo w1.heap.size W3b p g C ∧ Kept [] w1 W3b) := by
            refine ⟨HL3.out.1.kept k3b (fun x hx => ?_), HL3.out.2.trans k3b (fun x hx => Or.inr ?_)⟩
            · rw [show x = X by simpa using hx]; exact HXn.out
            · rw [show x = X by simpa using hx]; exact hXl
          have HSw3b : Hid (Sw W3b w1.heap.size (.slice aa n ca) A) := HSw3.out.kept k3b (fun x hx e => by
            have e2 : x = X := by simpa using hx
            have := HXs.out x e
            omega)
          have HZ3b : Hid (W3b.cell? ⟨bb, off + n, none⟩ = some (.int .i64 z)) := k3b.cell HZ3.out (by simp; exact HXb.out)
          have HWb : Hid (_) := hW3b
          subst hga
          clear hx6 hx60 hq hq2 hqA hsa hsk c0 c1 h4 hW3b k3b hn0
          go_upto_region 14 with fail
          rw [HWb.out]
          clear HWb e0 e1 p0 p1 x0 x1 zc3 hq1
          have x0 : W3b.cell? ⟨X, 0, none⟩ = some (.int .i64 sa) := cellB HB3b.out
          have x1 : W3b.cell? ⟨X, 1, none⟩ = some (.int .i64 sk) := cellB HB3b.out
          obtain ⟨hnx, hOk⟩ := HJ.out.2.1.add (by omega) HQ.out.2 (by have := HJ.out.2.2.1; omega) (s := sa) (sk := sk) hast.1 hast.2.1 hast.2.2.1 hast.2.2.2 (.slice none 0 0)
          have HNX : Hid (nextS (C[cc]).a (C[cc]).k sa sk = max (C[cc]).a sa + 1 ∧ (C[cc]).k = (cc : Int) ∧ 0 ≤ (C[cc]).a ∧ (C[cc]).a ≤ n) := ⟨hnx, (HJ.out.2.1.co cc HQ.out.2).1, (HJ.out.2.1.co cc HQ.out.2).2.1, (HJ.out.2.1.co cc HQ.out.2).2.2.1⟩
          have HOk : Hid (∀ v, Okr (n + 1) (C.set cc ⟨v, (C[cc]).R ++ [addR C[cc] 0 cc 0 0 (n : Int) ⟨#[]⟩ ⟨#[]⟩ ⟨#[]⟩ sa sk], nextS (C[cc]).a (C[cc]).k sa sk, (C[cc]).k⟩) (A ++ [(nextS (C[cc]).a (C[cc]).k sa sk, (C[cc]).k)])) := fun v => (HJ.out.2.1.add (by omega) HQ.out.2 (by have := HJ.out.2.2.1; omega) hast.1 hast.2.1 hast.2.2.1 hast.2.2.2 v).2
          have hmy : mayS sa sk = true := by simp [mayS]; omega
          have HLs : Hid ((C[cc]).R.length < 256) := by have := (HJ.out.2.1.co cc HQ.out.2).2.2.2.2.2.2; show _ < _; omega
          clear hOk hnx
          go_wp2_with fail
          rw [HQ.out.1]
          refine (p_add HL3b.out.1 0 (i := cc) 0 0 (n : Int) ⟨#[]⟩ ⟨#[]⟩ ⟨#[]⟩ sa sk HL3b.out.2.size rfl HQ.out.2 hmy HLs.out ⟨by decide, by decide, by decide⟩).mono ?_
          rintro e w4 ⟨rfl, v4, hL, k4, hb⟩
          obtain ⟨nx, hnx⟩ : ∃ nx, nextS (C[cc]).a (C[cc]).k sa sk = nx := ⟨_, rfl⟩
          have HNx : Hid (nextS (C[cc]).a (C[cc]).k sa sk = nx) := hnx
          have hnx1 : sa < nx := by have := HNX.out.1; omega
          have hckk := HNX.out.2.1
          rw [hnx, hckk]
          obtain ⟨W5, Y, HW5, HK5, HB5⟩ := box1 w4 #[.int .i64 nx, .int .i64 (cc : Int)] 35
          have HL5 : Hid (_ ∧ Kept [] w1 W5) := ⟨hL.kept0 HK5.out.1, (HL3b.out.2.trans k4 (fun x hx => Or.inr (HL3b.out.1.lt x hx).1)).trans HK5.out.1 (by simp)⟩
          have HBl5 : Hid (∀ x ∈ bl p g (C.set cc ⟨v4, (C[cc]).R ++ [addR C[cc] 0 cc 0 0 (n : Int) ⟨#[]⟩ ⟨#[]⟩ ⟨#[]⟩ sa sk], nextS (C[cc]).a (C[cc]).k sa sk, (C[cc]).k⟩), x ∈ bl p g C ∨ W3b.heap.size ≤ x) := hb
          have HX5 : Hid (W5.heap[X]? = some (.cells #[.int .i64 sa, .int .i64 sk] 35 (0, 0))) := (HK5.out.1.block X (Nat.lt_of_lt_of_le (lt_of_heap HB3b.out) k4.size) (by simp)).trans ((k4.block X (lt_of_heap HB3b.out) HXn.out).trans HB3b.out)
          have HS5 : Hid (Sw W5 w1.heap.size (.slice (some ⟨ga, 0, none⟩) n ca) A) := (HSw3b.out.kept k4 (fun x hx e => HSn.out x e hx)).kept HK5.out.1 (by simp)
          have HZ5 : Hid (W5.cell? ⟨bb, off + n, none⟩ = some (.int .i64 z)) := HK5.out.1.cell (k4.cell HZ3b.out HNb.out) (by simp)
          have HY : Hid (w4.heap.size = Y ∧ W3b.heap.size ≤ w4.heap.size) := ⟨HW5.out.2, k4.size⟩
          clear hL k4 hb hmy HLs
          go_upto_region 15 with fail
          rw [HW5.out.1, HW5.out.2]
          clear HW5
          have y0 : W5.cell? ⟨Y, 0, none⟩ = some (.int .i64 nx) := cellB HB5.out
          have y1 : W5.cell? ⟨Y, 1, none⟩ = some (.int .i64 (cc : Int)) := cellB HB5.out
          have x0 : W5.cell? ⟨X, 0, none⟩ = some (.int .i64 sa) := cellB HX5.out
          have zc := HZ5.out
          have l1 : ¬ nx ≤ sa := by omega
          have l2 : decide (nx ≤ sa) = false := decide_eq_false l1
          have l3 : ((cc : Int) != (cc : Int)) = false := by simp
          go_wp2_with fail
          refine (num 0 _).mono ?_
          rintro e wn ⟨rfl, hw⟩
          have hw2 := hw.symm
          subst hw2
          clear hw
          obtain ⟨W6, Q, HW6, HK6, HB6⟩ := box1 W5 #[.int .i64 nx, .int .i64 (cc : Int)] 35
          obtain ⟨gn, cn, w7, hr7, sr7, gr7, hg7, -⟩ := append_st (A := A) (v := .slice (some ⟨ga, 0, none⟩) n ca) (HS5.out.kept HK6.out.1 (by simp)) (Nat.le_trans HL5.out.2.size HK6.out.1.size) Q nx (cc : Int) (cellB HB6.out) (cellB HB6.out) (by have := HJ.out.2.1.al; omega) 48
          rw [HJ.out.2.1.al] at hr7 sr7
          have HAp : Hid ((Builtin.append_ #[48, 48] 48 #[.slice (some ⟨ga, 0, none⟩) n ca, .slice (some ⟨Q, 0, none⟩) 1 1]).run Try.prog W6 = .ok (.slice (some ⟨gn, 0, none⟩) (n + 1) cn) w7) := hr7
          rw [← HW6.out.1, ← HW6.out.2] at HAp
          have k67 : Kept (Value.slice (some ⟨ga, 0, none⟩) n ca).ownBlock.toList W5 w7 := (HK6.out.1.mono (by simp)).grown gr7 (fun x hx => Or.inl (by simpa using hx))
          have HSn5 : Hid (∀ x, (Value.slice (some ⟨ga, 0, none⟩) n ca).ownBlock = some x → x ∉ bl p g (C.set cc ⟨v4, (C[cc]).R ++ [addR C[cc] 0 cc 0 0 (n : Int) ⟨#[]⟩ ⟨#[]⟩ ⟨#[]⟩ sa sk], nextS (C[cc]).a (C[cc]).k sa sk, (C[cc]).k⟩)) := fun x hx hm => by
            rcases HBl5.out x hm with h1 | h1
            · exact HSn.out x hx h1
            · have := (HSw3b.out.block x hx).2; omega
          have HL7 : Hid (Lo w1.heap.size w7 p g (C.set cc ⟨v4, (C[cc]).R ++ [addR C[cc] 0 cc 0 0 (n : Int) ⟨#[]⟩ ⟨#[]⟩ ⟨#[]⟩ sa sk], nextS (C[cc]).a (C[cc]).k sa sk, (C[cc]).k⟩) ∧ Kept [] w1 w7) := ⟨HL5.out.1.kept k67 (fun x hx => HSn5.out x (by simpa using hx)), HL5.out.2.trans k67 (fun x hx => Or.inr (HS5.out.block x (by simpa using hx)).1)⟩
          have HS7 : Hid (Sw w7 w1.heap.size (.slice (some ⟨gn, 0, none⟩) (n + 1) cn) (A ++ [(nextS (C[cc]).a (C[cc]).k sa sk, (C[cc]).k)]) ∧ gn ∉ bl p g (C.set cc ⟨v4, (C[cc]).R ++ [addR C[cc] 0 cc 0 0 (n : Int) ⟨#[]⟩ ⟨#[]⟩ ⟨#[]⟩ sa sk], nextS (C[cc]).a (C[cc]).k sa sk, (C[cc]).k⟩)) := ⟨by rw [HNx.out, hckk]; exact sr7, fun hm => by
            rcases hg7 with h1 | h1
            · exact HSn5.out gn h1 hm
            · have h2 := (HL5.out.1.lt gn hm).2
              have h3 := HK6.out.1.size
              omega⟩
          clear hr7 sr7 gr7 hg7 k67 HB6 HK6
          go_wp2_with (at_builtin; refine wpList_append_run _ rfl _ _ 48 48 rfl _ _ rfl rfl _ _ HAp.out ?_)
          go_roundw
          case rel => exact ⟨n + 1, _, _, some ⟨gn, 0, none⟩, cn, by go_num, rfl, by omega, by omega, HL7.out.1, HOk.out v4, by simpa using HJ.out.2.2.1, HL7.out.2, HS7.out.1, fun x hx => by simp [Value.ownBlock] at hx; subst hx; exact HS7.out.2⟩
          case measure => simp [intOf]; omega
        · have f4 : (bits .and .i64 z 4 == 4) = false := by rw [HB4.out]; simpa using h4
          clear h4 hn0
          go_upto_region 14 with fail
          obtain ⟨hnx, hOk⟩ := HJ.out.2.1.add (by omega) HQ.out.2 (by have := HJ.out.2.2.1; omega) (s := 0) (sk := 0) (by omega) (by omega) (by omega) (by omega) (.slice none 0 0)
          have HNX : Hid (nextS (C[cc]).a (C[cc]).k 0 0 = max (C[cc]).a 0 + 1 ∧ (C[cc]).k = (cc : Int) ∧ 0 ≤ (C[cc]).a ∧ (C[cc]).a ≤ n) := ⟨hnx, (HJ.out.2.1.co cc HQ.out.2).1, (HJ.out.2.1.co cc HQ.out.2).2.1, (HJ.out.2.1.co cc HQ.out.2).2.2.1⟩
          have HOk : Hid (∀ v, Okr (n + 1) (C.set cc ⟨v, (C[cc]).R ++ [addR C[cc] 0 cc 0 0 (n : Int) ⟨#[]⟩ ⟨#[]⟩ ⟨#[]⟩ 0 0], nextS (C[cc]).a (C[cc]).k 0 0, (C[cc]).k⟩) (A ++ [(nextS (C[cc]).a (C[cc]).k 0 0, (C[cc]).k)])) := fun v => (HJ.out.2.1.add (by omega) HQ.out.2 (by have := HJ.out.2.2.1; omega) (by omega) (by omega) (by omega) (by omega) v).2
          have hmy : mayS 0 0 = true := by simp [mayS]
          have HLs : Hid ((C[cc]).R.length < 256) := by have := (HJ.out.2.1.co cc HQ.out.2).2.2.2.2.2.2; show _ < _; omega
          clear hOk hnx
          go_wp2_with fail
          rw [HQ.out.1]
          refine (p_add HL3.out.1 0 (i := cc) 0 0 (n : Int) ⟨#[]⟩ ⟨#[]⟩ ⟨#[]⟩ 0 0 HL3.out.2.size rfl HQ.out.2 hmy HLs.out ⟨by decide, by decide, by decide⟩).mono ?_
          rintro e w4 ⟨rfl, v4, hL, k4, hb⟩
          obtain ⟨nx, hnx⟩ : ∃ nx, nextS (C[cc]).a (C[cc]).k 0 0 = nx := ⟨_, rfl⟩
          have HNx : Hid (nextS (C[cc]).a (C[cc]).k 0 0 = nx) := hnx
          have hnx1 : 0 < nx := by have := HNX.out.1; omega
          have hckk := HNX.out.2.1
          rw [hnx, hckk]
          obtain ⟨W5, Y, HW5, HK5, HB5⟩ := box1 w4 #[.int .i64 nx, .int .i64 (cc : Int)] 35
          have HL5 : Hid (_ ∧ Kept [] w1 W5) := ⟨hL.kept0 HK5.out.1, (HL3.out.2.trans k4 (fun x hx => Or.inr (HL3.out.1.lt x hx).1)).trans HK5.out.1 (by simp)⟩
          have HBl5 : Hid (∀ x ∈ bl p g (C.set cc ⟨v4, (C[cc]).R ++ [addR C[cc] 0 cc 0 0 (n : Int) ⟨#[]⟩ ⟨#[]⟩ ⟨#[]⟩ 0 0], nextS (C[cc]).a (C[cc]).k 0 0, (C[cc]).k⟩), x ∈ bl p g C ∨ W3.heap.size ≤ x) := hb
          have HX5 : Hid (W5.heap[X]? = some (.cells #[.int .i64 0, .int .i64 0] 35 (0, 0))) := (HK5.out.1.block X (Nat.lt_of_lt_of_le (lt_of_heap HB3.out) k4.size) (by simp)).trans ((k4.block X (lt_of_heap HB3.out) HXn.out).trans HB3.out)
          have HS5 : Hid (Sw W5 w1.heap.size (.slice aa n ca) A) := (HSw3.out.kept k4 (fun x hx e => HSn.out x e hx)).kept HK5.out.1 (by simp)
          have HZ5 : Hid (W5.cell? ⟨bb, off + n, none⟩ = some (.int .i64 z)) := HK5.out.1.cell (k4.cell HZ3.out HNb.out) (by simp)
          have HY : Hid (w4.heap.size = Y ∧ W3.heap.size ≤ w4.heap.size) := ⟨HW5.out.2, k4.size⟩
          clear hL k4 hb hmy HLs
          go_upto_region 15 with fail
          rw [HW5.out.1, HW5.out.2]
          clear HW5
          have y0 : W5.cell? ⟨Y, 0, none⟩ = some (.int .i64 nx) := cellB HB5.out
          have y1 : W5.cell? ⟨Y, 1, none⟩ = some (.int .i64 (cc : Int)) := cellB HB5.out
          have x0 : W5.cell? ⟨X, 0, none⟩ = some (.int .i64 0) := cellB HX5.out
          have zc := HZ5.out
          have l1 : ¬ nx ≤ 0 := by omega
          have l2 : decide (nx ≤ 0) = false := decide_eq_false l1
          have l3 : ((cc : Int) != (cc : Int)) = false := by simp
          go_wp2_with fail
          refine (num 0 _).mono ?_
          rintro e wn ⟨rfl, hw⟩
          have hw2 := hw.symm
          subst hw2
          clear hw
          obtain ⟨W6, Q, HW6, HK6, HB6⟩ := box1 W5 #[.int .i64 nx, .int .i64 (cc : Int)] 35
          obtain ⟨gn, cn, w7, hr7, sr7, gr7, hg7, -⟩ := append_st (A := A) (v := .slice aa n ca) (HS5.out.kept HK6.out.1 (by simp)) (Nat.le_trans HL5.out.2.size HK6.out.1.size) Q nx (cc : Int) (cellB HB6.out) (cellB HB6.out) (by have := HJ.out.2.1.al; omega) 48
          rw [HJ.out.2.1.al] at hr7 sr7
          have HAp : Hid ((Builtin.append_ #[48, 48] 48 #[.slice aa n ca, .slice (some ⟨Q, 0, none⟩) 1 1]).run Try.prog W6 = .ok (.slice (some ⟨gn, 0, none⟩) (n + 1) cn) w7) := hr7
          rw [← HW6.out.1, ← HW6.out.2] at HAp
          have k67 : Kept (Value.slice aa n ca).ownBlock.toList W5 w7 := (HK6.out.1.mono (by simp)).grown gr7 (fun x hx => Or.inl (by simpa using hx))
          have HSn5 : Hid (∀ x, (Value.slice aa n ca).ownBlock = some x → x ∉ bl p g (C.set cc ⟨v4, (C[cc]).R ++ [addR C[cc] 0 cc 0 0 (n : Int) ⟨#[]⟩ ⟨#[]⟩ ⟨#[]⟩ 0 0], nextS (C[cc]).a (C[cc]).k 0 0, (C[cc]).k⟩)) := fun x hx hm => by
            rcases HBl5.out x hm with h1 | h1
            · exact HSn.out x hx h1
            · have := (HSw3.out.block x hx).2; omega
          have HL7 : Hid (Lo w1.heap.size w7 p g (C.set cc ⟨v4, (C[cc]).R ++ [addR C[cc] 0 cc 0 0 (n : Int) ⟨#[]⟩ ⟨#[]⟩ ⟨#[]⟩ 0 0], nextS (C[cc]).a (C[cc]).k 0 0, (C[cc]).k⟩) ∧ Kept [] w1 w7) := ⟨HL5.out.1.kept k67 (fun x hx => HSn5.out x (by simpa using hx)), HL5.out.2.trans k67 (fun x hx => Or.inr (HS5.out.block x (by simpa using hx)).1)⟩
          have HS7 : Hid (Sw w7 w1.heap.size (.slice (some ⟨gn, 0, none⟩) (n + 1) cn) (A ++ [(nextS (C[cc]).a (C[cc]).k 0 0, (C[cc]).k)]) ∧ gn ∉ bl p g (C.set cc ⟨v4, (C[cc]).R ++ [addR C[cc] 0 cc 0 0 (n : Int) ⟨#[]⟩ ⟨#[]⟩ ⟨#[]⟩ 0 0], nextS (C[cc]).a (C[cc]).k 0 0, (C[cc]).k⟩)) := ⟨by rw [HNx.out, hckk]; exact sr7, fun hm => by
            rcases hg7 with h1 | h1
            · exact HSn5.out gn h1 hm
            · have h2 := (HL5.out.1.lt gn hm).2
              have h3 := HK6.out.1.size
              omega⟩
          clear hr7 sr7 gr7 hg7 k67 HB6 HK6
          go_wp2_with (at_builtin; refine wpList_append_run _ rfl _ _ 48 48 rfl _ _ rfl rfl _ _ HAp.out ?_)
          go_roundw
          case rel => exact ⟨n + 1, _, _, some ⟨gn, 0, none⟩, cn, by go_num, rfl, by omega, by omega, HL7.out.1, HOk.out v4, by simpa using HJ.out.2.2.1, HL7.out.2, HS7.out.1, fun x hx => by simp [Value.ownBlock] at hx; subst hx; exact HS7.out.2⟩
          case measure => simp [intOf]; omega
    · have P := p_merge HJ.out.1
      obtain ⟨M, hM⟩ : ∃ M, mergeR (C.map Co.R) = M := ⟨_, rfl⟩
      have HRow : Hid (_ ∧ _ ∧ _ ∧ _) := HJ.out.2.1.row hM
      rw [hM] at P
      clear hM
      by_cases hex : n < len0
      · have i1 : (n : Int) < (len0 : Int) := by omega
        have i2 : ¬ (n : Int) < 60 := by omega
        go_wp2_with fail
        refine P.mono ?_
        rintro e w5 ⟨vA, rfl, rA, k5⟩
        obtain ⟨aA, cA, hvA, hcA, hcmA, -⟩ := rA.slice
        subst hvA
        rw [HRow.out.1] at rA hcA
        rw [HRow.out.1]
        clear P
        obtain ⟨WG, G, HWG, HKG, HBG⟩ := box1 w5 #[.int .i64 (-1), .int .i64 (-1), .int .i64 (-1), .int .i64 (-1)] 3
        have HA5 : Hid (Rr WG 0 (.slice aA n cA) M ∧ ∀ x, (Value.slice aA n cA).ownBlock = some x → x ≠ G) := ⟨(rA.low (Nat.zero_le _)).kept HKG.out.1 (by simp), fun x hx => by have := (rA.block x hx).2; have := HWG.out.2; omega⟩
        have HKw : Hid (Kept [] w WG ∧ w.heap.size ≤ G) := ⟨((HK.out.trans HJ.out.2.2.2.1 (by simp)).trans k5 (by simp)).trans HKG.out.1 (by simp), by
          have h1 := HWG.out.2
          have h2 := (((HK.out.trans HJ.out.2.2.2.1 (by simp)).trans k5 (by simp))).size
          omega⟩
        have hcA2 : cA ≤ 9223372036854775807 := by unfold maxLen at hcmA; omega
        clear rA k5 hcmA
        have nn : ((n : Int) != (n : Int)) = false := by simp
        go_upto_region 22 with fail
        rw [HWG.out.1, HWG.out.2]
        clear HWG HKG nn
        go_wp2_with fail
        go_loopw [13] (fun iv wr => ∃ (i : Nat) (ls : List Int), iv = .int .i64 (i : Int) ∧ i ≤ n ∧ Hid (ls.length = 4 ∧ wr.heap[G]? = some (.cells (ls.map (Value.int .i64)).toArray 3 (0, 0)) ∧ Kept [G] WG wr ∧ ∀ c : Nat, c < 4 → ls[c]? = some (-1) ∨ ∃ (j : Nat) (hj : j < M.length), j < i ∧ (M[j]).core = (c : Int) ∧ ls[c]? = some (M[j]).num)) (fun iv _ => (n - intOf iv).toNat)
        case atStart => exact ⟨0, [-1, -1, -1, -1], rfl, by omega, rfl, HBG.out, Kept.refl _ _, fun c hc => Or.inl (by
          rcases (show c = 0 ∨ c = 1 ∨ c = 2 ∨ c = 3 by omega) with rfl | rfl | rfl | rfl <;> rfl)⟩
        case round =>
          obtain ⟨i, ls, rfl, hile, HL⟩ := hrel
          by_cases hlt : i < n
          · have j0 : (0 : Int) ≤ (i : Int) := by omega
            have j1 : (i : Int) < (n : Int) := by omega
            have hiM : i < M.length := by rw [HRow.out.1]; exact hlt
            obtain ⟨cc, hcC, hcore, hnum0⟩ := HRow.out.2.1 _ (List.getElem_mem hiM)
            have hcc4 : cc < 4 := by have := HJ.out.2.2.1; omega
            obtain ⟨r, hr⟩ : ∃ r, M[i] = r := ⟨_, rfl⟩
            have HRe : Hid (M[i] = r) := hr
            obtain ⟨gm, hga, q0, -, -, q3, -, -, q6, -, -, -⟩ := (HA5.out.1.kept HL.out.2.2.1 (fun x hx e => HA5.out.2 x e (by simpa using hx))).ten rfl hiM hr
            rw [hr] at hcore hnum0
            rw [hcore] at q3
            obtain ⟨num, hnum⟩ : ∃ num, r.num = num := ⟨_, rfl⟩
            obtain ⟨ra, hra⟩ : ∃ ra, r.a = ra := ⟨_, rfl⟩
            rw [hnum] at q6 hnum0
            rw [hra] at q0
            have hlc : cc < ls.length := by rw [HL.out.1]; exact hcc4
            obtain ⟨lv, hlv⟩ : ∃ lv, ls[cc] = lv := ⟨_, rfl⟩
            have hls : ls[cc]? = some lv := by rw [List.getElem?_eq_getElem hlc, hlv]
            have hbig : lv < num := by
              rcases HL.out.2.2.2 cc hcc4 with h1 | ⟨j, hj, hji, hjc, h1⟩
              · rw [hls] at h1; have := Option.some.inj h1; omega
              · rw [hls] at h1
                have e1 := Option.some.inj h1
                have := (List.pairwise_iff_getElem.1 HRow.out.2.2.1) j i hj hiM hji (by rw [hjc, hr, hcore])
                rw [hr, hnum] at this
                omega
            have HG : Hid (wr.heap[G]? = some (.cells (ls.map (Value.int .i64)).toArray 3 (0, 0))) := HL.out.2.1
            have g0 : wr.cell? ⟨G, cc, none⟩ = some (.int .i64 lv) := by rw [cellB HG.out]; simp [hls]
            have c0 : (0 : Int) ≤ (cc : Int) := by omega
            have c1 : (cc : Int) < 4 := by omega
            have HNew : Hid (∀ c : Nat, c < 4 → (ls.set cc num)[c]? = some (-1) ∨ ∃ (j : Nat) (hj : j < M.length), j < i + 1 ∧ (M[j]).core = (c : Int) ∧ (ls.set cc num)[c]? = some (M[j]).num) := fun c hc => by
              by_cases e : cc = c
              · subst e
                exact Or.inr ⟨i, hiM, by omega, by rw [hr]; exact hcore, by rw [List.getElem?_set_self hlc, hr, hnum]⟩
              · rw [List.getElem?_set_ne e]
                rcases HL.out.2.2.2 c hc with h1 | ⟨j, hj, hji, hjc, h1⟩
                · exact Or.inl h1
                · exact Or.inr ⟨j, hj, by omega, hjc, h1⟩
            have l1 : ¬ num ≤ lv := by omega
            have d1 : decide (num ≤ lv) = false := decide_eq_false l1
            by_cases hi0 : i = 0
            · subst hi0
              rw [Nat.zero_mul, Nat.zero_add] at q6
              rw [Nat.zero_mul] at q0 q3
              rw [Nat.zero_add] at q3
              subst hga
              clear hr hnum hra hlv hls hcore
              go_upto_region 26 with fail
              refine wp_region_held_drew (S := fun w' => w'.cell? ⟨gm, 6, none⟩ = some (.int .i64 num) ∧ w'.cell? ⟨G, cc, none⟩ = some (.int .i64 lv)) (by kernel_rfl) ?_ (fun hHeld => ?_)
              · exact ⟨q6, g0⟩
              obtain ⟨u0, hu0⟩ : ∃ u0, wr.drew = u0 := ⟨_, rfl⟩
              have HKu : Hid (Kept [] wr u0) := by rw [← hu0]; exact (Kept.refl [] wr).drew
              rw [hu0] at hHeld ⊢
              clear hu0
              refine wpAnyH_take (i := 0) (v := ?vx0) rfl (by kernel_rfl) (by kernel_rfl) (by kernel_rfl) (fun _ _ _ h => h) (Or.inl ⟨by rfl, ?hyx0⟩) (by assumption) ?_
              case hyx0 =>
                intro w hSw
                (try dsimp only at hSw)
                go_simp
                try with_reducible rfl
              try simp only [Act.put, List.setIfInBounds_toArray, List.set_cons_zero, List.set_cons_succ, List.getElem_toArray, List.getElem_cons_zero, List.getElem_cons_succ]
              refine wpAnyH_take (i := 1) (v := ?vx1) rfl (by kernel_rfl) (by kernel_rfl) (by kernel_rfl) (fun _ _ _ h => h) (Or.inl ⟨by rfl, ?hyx1⟩) (by assumption) ?_
              case hyx1 =>
                intro w hSw
                (try dsimp only at hSw)
                go_simp
                try with_reducible rfl
              try simp only [Act.put, List.setIfInBounds_toArray, List.set_cons_zero, List.set_cons_succ, List.getElem_toArray, List.getElem_cons_zero, List.getElem_cons_succ]
              refine wpAnyH_take (i := 2) (v := ?vx2) rfl (by kernel_rfl) (by kernel_rfl) (by kernel_rfl) (fun _ _ _ h => h) (Or.inl ⟨by rfl, ?hyx2⟩) (by assumption) ?_
              case hyx2 =>
                intro w hSw
                (try dsimp only at hSw)
                go_simp
                try with_reducible rfl
              try simp only [Act.put, List.setIfInBounds_toArray, List.set_cons_zero, List.set_cons_succ, List.getElem_toArray, List.getElem_cons_zero, List.getElem_cons_succ]
              refine wpAnyH_take (i := 3) (v := ?vx3) rfl (by kernel_rfl) (by kernel_rfl) (by kernel_rfl) (fun _ _ _ h => h) (Or.inl ⟨by rfl, ?hyx3⟩) (by assumption) ?_
              case hyx3 =>
                intro w hSw
                (try dsimp only at hSw)
                go_simp
                try with_reducible rfl
              try simp only [Act.put, List.setIfInBounds_toArray, List.set_cons_zero, List.set_cons_succ, List.getElem_toArray, List.getElem_cons_zero, List.getElem_cons_succ]
              refine wpAnyH_take (i := 4) (v := ?vx4) rfl (by kernel_rfl) (by kernel_rfl) (by kernel_rfl) (fun _ _ _ h => h) (Or.inl ⟨by rfl, ?hyx4⟩) (by assumption) ?_
              case hyx4 =>
                intro w hSw
                (try dsimp only at hSw)
                go_simp
                try with_reducible rfl
              try simp only [Act.put, List.setIfInBounds_toArray, List.set_cons_zero, List.set_cons_succ, List.getElem_toArray, List.getElem_cons_zero, List.getElem_cons_succ]
              refine wpAnyH_take (i := 5) (v := ?vx5) rfl (by kernel_rfl) (by kernel_rfl) (by kernel_rfl) (fun _ _ _ h => h) (Or.inl ⟨by rfl, ?hyx5⟩) (by assumption) ?_
              case hyx5 =>
                intro w hSw
                (try dsimp only at hSw)
                go_simp
                try with_reducible rfl
              try simp only [Act.put, List.setIfInBounds_toArray, List.set_cons_zero, List.set_cons_succ, List.getElem_toArray, List.getElem_cons_zero, List.getElem_cons_succ]
              refine wpAnyH_take (i := 6) (v := ?vx6) rfl (by kernel_rfl) (by kernel_rfl) (by kernel_rfl) (fun _ _ _ h => h) (Or.inl ⟨by rfl, ?hyx6⟩) (by assumption) ?_
              case hyx6 =>
                intro w hSw
                (try dsimp only at hSw)
                go_simp
                try with_reducible rfl
              try simp only [Act.put, List.setIfInBounds_toArray, List.set_cons_zero, List.set_cons_succ, List.getElem_toArray, List.getElem_cons_zero, List.getElem_cons_succ]
              refine wpAnyH_take (i := 7) (v := ?vx7) rfl (by kernel_rfl) (by kernel_rfl) (by kernel_rfl) (fun _ _ _ h => h) (Or.inl ⟨by rfl, ?hyx7⟩) (by assumption) ?_
              case hyx7 =>
                intro w hSw
                (try dsimp only at hSw)
                go_simp
                try with_reducible rfl
              try simp only [Act.put, List.setIfInBounds_toArray, List.set_cons_zero, List.set_cons_succ, List.getElem_toArray, List.getElem_cons_zero, List.getElem_cons_succ]
              refine wpAnyH_take (i := 8) (v := ?vx8) rfl (by kernel_rfl) (by kernel_rfl) (by kernel_rfl) (fun _ _ _ h => h) (Or.inl ⟨by rfl, ?hyx8⟩) (by assumption) ?_
              case hyx8 =>
                intro w hSw
                (try dsimp only at hSw)
                go_simp
                try with_reducible rfl
              try simp only [Act.put, List.setIfInBounds_toArray, List.set_cons_zero, List.set_cons_succ, List.getElem_toArray, List.getElem_cons_zero, List.getElem_cons_succ]
              refine wpAnyH_take (i := 9) (v := ?vx9) rfl (by kernel_rfl) (by kernel_rfl) (by kernel_rfl) (fun _ _ _ h => h) (Or.inl ⟨by rfl, ?hyx9⟩) (by assumption) ?_
              case hyx9 =>
                intro w hSw
                (try dsimp only at hSw)
                go_simp
                try with_reducible rfl
              try simp only [Act.put, List.setIfInBounds_toArray, List.set_cons_zero, List.set_cons_succ, List.getElem_toArray, List.getElem_cons_zero, List.getElem_cons_succ]
              refine wpAnyH_take (i := 10) (v := ?vx10) rfl (by kernel_rfl) (by kernel_rfl) (by kernel_rfl) (fun _ _ _ h => h) (Or.inl ⟨by rfl, ?hyx10⟩) (by assumption) ?_
              case hyx10 =>
                intro w hSw
                (try dsimp only at hSw)
                go_simp
                try with_reducible rfl
              try simp only [Act.put, List.setIfInBounds_toArray, List.set_cons_zero, List.set_cons_succ, List.getElem_toArray, List.getElem_cons_zero, List.getElem_cons_succ]
              refine wpAnyH_take (i := 11) (v := ?vx11) rfl (by kernel_rfl) (by kernel_rfl) (by kernel_rfl) (fun _ _ _ h => h) (Or.inl ⟨by rfl, ?hyx11⟩) (by assumption) ?_
              case hyx11 =>
                intro w hSw
                (try dsimp only at hSw)
                go_simp
                try with_reducible rfl
              try simp only [Act.put, List.setIfInBounds_toArray, List.set_cons_zero, List.set_cons_succ, List.getElem_toArray, List.getElem_cons_zero, List.getElem_cons_succ]
              refine wpAnyH_take (i := 12) (v := ?vx12) rfl (by kernel_rfl) (by kernel_rfl) (by kernel_rfl) (fun _ _ _ h => h) (Or.inl ⟨by rfl, ?hyx12⟩) (by assumption) ?_
              case hyx12 =>
                intro w hSw
                (try dsimp only at hSw)
                go_simp
                try with_reducible rfl
              try simp only [Act.put, List.setIfInBounds_toArray, List.set_cons_zero, List.set_cons_succ, List.getElem_toArray, List.getElem_cons_zero, List.getElem_cons_succ]
              refine wpAnyH_take (i := 13) (v := ?vx13) rfl (by kernel_rfl) (by kernel_rfl) (by kernel_rfl) (fun _ _ _ h => h) (Or.inl ⟨by rfl, ?hyx13⟩) (by assumption) ?_
              case hyx13 =>
                intro w hSw
                (try dsimp only at hSw)
                go_simp
                try with_reducible rfl
              try simp only [Act.put, List.setIfInBounds_toArray, List.set_cons_zero, List.set_cons_succ, List.getElem_toArray, List.getElem_cons_zero, List.getElem_cons_succ]
              refine wpAnyH_take (i := 14) (v := ?vx14) rfl (by kernel_rfl) (by kernel_rfl) (by kernel_rfl) (fun _ _ _ h => h) (Or.inl ⟨by rfl, ?hyx14⟩) (by assumption) ?_
              case hyx14 =>
                intro w hSw
                (try dsimp only at hSw)
                go_simp
                try with_reducible rfl
              try simp only [Act.put, List.setIfInBounds_toArray, List.set_cons_zero, List.set_cons_succ, List.getElem_toArray, List.getElem_cons_zero, List.getElem_cons_succ]
              refine wpAnyH_take (i := 15) (v := undef) rfl (by kernel_rfl) (by kernel_rfl) (by kernel_rfl) (fun _ _ _ h => h) (Or.inr ⟨by rfl, rfl⟩) (by assumption) ?_
              try simp only [Act.put, List.setIfInBounds_toArray, List.set_cons_zero, List.set_cons_succ, List.getElem_toArray, List.getElem_cons_zero, List.getElem_cons_succ]
              refine wpAnyH_take (i := 16) (v := undef) rfl (by kernel_rfl) (by kernel_rfl) (by kernel_rfl) (fun _ _ _ h => h) (Or.inr ⟨by rfl, rfl⟩) (by assumption) ?_
              try simp only [Act.put, List.setIfInBounds_toArray, List.set_cons_zero, List.set_cons_succ, List.getElem_toArray, List.getElem_cons_zero, List.getElem_cons_succ]
              refine wpAnyH_take (i := 17) (v := undef) rfl (by kernel_rfl) (by kernel_rfl) (by kernel_rfl) (fun _ _ _ h => h) (Or.inr ⟨by rfl, rfl⟩) (by assumption) ?_
              try simp only [Act.put, List.setIfInBounds_toArray, List.set_cons_zero, List.set_cons_succ, List.getElem_toArray, List.getElem_cons_zero, List.getElem_cons_succ]
              refine wpAnyH_take (i := 18) (v := undef) rfl (by kernel_rfl) (by kernel_rfl) (by kernel_rfl) (fun _ _ _ h => h) (Or.inr ⟨by rfl, rfl⟩) (by assumption) ?_
              try simp only [Act.put, List.setIfInBounds_toArray, List.set_cons_zero, List.set_cons_succ, List.getElem_toArray, List.getElem_cons_zero, List.getElem_cons_succ]
              refine wpAnyH_take (i := 19) (v := undef) rfl (by kernel_rfl) (by kernel_rfl) (by kernel_rfl) (fun _ _ _ h => h) (Or.inr ⟨by rfl, rfl⟩) (by assumption) ?_
              try simp only [Act.put, List.setIfInBounds_toArray, List.set_cons_zero, List.set_cons_succ, List.getElem_toArray, List.getElem_cons_zero, List.getElem_cons_succ]
              refine wpAnyH_take (i := 20) (v := undef) rfl (by kernel_rfl) (by kernel_rfl) (by kernel_rfl) (fun _ _ _ h => h) (Or.inr ⟨by rfl, rfl⟩) (by assumption) ?_
              try simp only [Act.put, List.setIfInBounds_toArray, List.set_cons_zero, List.set_cons_succ, List.getElem_toArray, List.getElem_cons_zero, List.getElem_cons_succ]
              refine wpAnyH_take (i := 21) (v := undef) rfl (by kernel_rfl) (by kernel_rfl) (by kernel_rfl) (fun _ _ _ h => h) (Or.inr ⟨by rfl, rfl⟩) (by assumption) ?_
              try simp only [Act.put, List.setIfInBounds_toArray, List.set_cons_zero, List.set_cons_succ, List.getElem_toArray, List.getElem_cons_zero, List.getElem_cons_succ]
              refine wpAnyH_take (i := 22) (v := undef) rfl (by kernel_rfl) (by kernel_rfl) (by kernel_rfl) (fun _ _ _ h => h) (Or.inr ⟨by rfl, rfl⟩) (by assumption) ?_
              try simp only [Act.put, List.setIfInBounds_toArray, List.set_cons_zero, List.set_cons_succ, List.getElem_toArray, List.getElem_cons_zero, List.getElem_cons_succ]
              refine wpAnyH_take (i := 23) (v := undef) rfl (by kernel_rfl) (by kernel_rfl) (by kernel_rfl) (fun _ _ _ h => h) (Or.inr ⟨by rfl, rfl⟩) (by assumption) ?_
              try simp only [Act.put, List.setIfInBounds_toArray, List.set_cons_zero, List.set_cons_succ, List.getElem_toArray, List.getElem_cons_zero, List.getElem_cons_succ]
              refine wpAnyH_take (i := 24) (v := undef) rfl (by kernel_rfl) (by kernel_rfl) (by kernel_rfl) (fun _ _ _ h => h) (Or.inr ⟨by rfl, rfl⟩) (by assumption) ?_
              try simp only [Act.put, List.setIfInBounds_toArray, List.set_cons_zero, List.set_cons_succ, List.getElem_toArray, List.getElem_cons_zero, List.getElem_cons_succ]
              refine wpAnyH_take (i := 25) (v := undef) rfl (by kernel_rfl) (by kernel_rfl) (by kernel_rfl) (fun _ _ _ h => h) (Or.inr ⟨by rfl, rfl⟩) (by assumption) ?_
              try simp only [Act.put, List.setIfInBounds_toArray, List.set_cons_zero, List.set_cons_succ, List.getElem_toArray, List.getElem_cons_zero, List.getElem_cons_succ]
              refine wpAnyH_take (i := 26) (v := undef) rfl (by kernel_rfl) (by kernel_rfl) (by kernel_rfl) (fun _ _ _ h => h) (Or.inr ⟨by rfl, rfl⟩) (by assumption) ?_
              try simp only [Act.put, List.setIfInBounds_toArray, List.set_cons_zero, List.set_cons_succ, List.getElem_toArray, List.getElem_cons_zero, List.getElem_cons_succ]
              refine wpAnyH_take (i := 27) (v := undef) rfl (by kernel_rfl) (by kernel_rfl) (by kernel_rfl) (fun _ _ _ h => h) (Or.inr ⟨by rfl, rfl⟩) (by assumption) ?_
              try simp only [Act.put, List.setIfInBounds_toArray, List.set_cons_zero, List.set_cons_succ, List.getElem_toArray, List.getElem_cons_zero, List.getElem_cons_succ]
              refine wpAnyH_take (i := 28) (v := undef) rfl (by kernel_rfl) (by kernel_rfl) (by kernel_rfl) (fun _ _ _ h => h) (Or.inr ⟨by rfl, rfl⟩) (by assumption) ?_
              try simp only [Act.put, List.setIfInBounds_toArray, List.set_cons_zero, List.set_cons_succ, List.getElem_toArray, List.getElem_cons_zero, List.getElem_cons_succ]
              refine wpAnyH_take (i := 29) (v := ?vx29) rfl (by kernel_rfl) (by kernel_rfl) (by kernel_rfl) (fun _ _ _ h => h) (Or.inl ⟨by rfl, ?hyx29⟩) (by assumption) ?_
              case hyx29 =>
                intro w hSw
                (try dsimp only at hSw)
                go_simp
                try with_reducible rfl
              try simp only [Act.put, List.setIfInBounds_toArray, List.set_cons_zero, List.set_cons_succ, List.getElem_toArray, List.getElem_cons_zero, List.getElem_cons_succ]
              refine wpAnyH_take (i := 30) (v := ?vx30) rfl (by kernel_rfl) (by kernel_rfl) (by kernel_rfl) (fun _ _ _ h => h) (Or.inl ⟨by rfl, ?hyx30⟩) (by assumption) ?_
              case hyx30 =>
                intro w hSw
                (try dsimp only at hSw)
                go_simp
                try with_reducible rfl
              try simp only [Act.put, List.setIfInBounds_toArray, List.set_cons_zero, List.set_cons_succ, List.getElem_toArray, List.getElem_cons_zero, List.getElem_cons_succ]
              refine wpAnyH_done (by kernel_rfl) ?_ _
              have c6 := HKu.out.cell q6 (by simp)
              have k6 := HKu.out.cell g0 (by simp)
              have f6 : u0.frozen? ⟨G, cc, none⟩ = false := frozen_of ((HKu.out.block _ (lt_of_heap HG.out) (by simp)).trans HG.out) _
              have HGn : Hid ((u0.setCell ⟨G, cc, none⟩ (.int .i64 num)).heap[G]? = some (.cells ((ls.set cc num).map (Value.int .i64)).toArray 3 (0, 0)) ∧ Kept [G] WG (u0.setCell ⟨G, cc, none⟩ (.int .i64 num))) := by
                refine ⟨?_, ?_⟩
                · rw [block_set ((HKu.out.block _ (lt_of_heap HG.out) (by simp)).trans HG.out), List.map_set]; simp
                · exact (HL.out.2.2.1.trans HKu.out (by simp)).setCell (Or.inl (by simp)) _
              clear q6 g0 hHeld
              go_wp2_with fail
              go_roundw
              case rel => exact ⟨0 + 1, ls.set cc num, by go_num, by omega, by simpa using HL.out.1, HGn.out.1, HGn.out.2, HNew.out⟩
              case measure => simp [intOf]; omega
            · obtain ⟨j, hij⟩ : ∃ j, i = j + 1 := ⟨i - 1, by omega⟩
              have hjM : j < M.length := by omega
              obtain ⟨rq, hrq⟩ : ∃ rq, M[j] = rq := ⟨_, rfl⟩
              obtain ⟨gm', hga', p0, -⟩ := (HA5.out.1.kept HL.out.2.2.1 (fun x hx e => HA5.out.2 x e (by simpa using hx))).ten rfl hjM hrq
              rw [hga] at hga'
              simp only [Option.some.injEq, Addr.mk.injEq, and_true] at hga'
              subst hga'
              obtain ⟨rp, hrp⟩ : ∃ rp, rq.a = rp := ⟨_, rfl⟩
              rw [hrp] at p0
              have hle : rp ≤ ra := by
                have := (List.pairwise_iff_getElem.1 HRow.out.2.2.2) j i hjM hiM (by omega)
                rw [hr, hrq, hra, hrp] at this
                exact this
              have l2 : 0 < i := by omega
              have d2 : decide (0 < i) = true := decide_eq_true l2
              have l3 : ¬ ra < rp := by omega
              have d3 : decide (ra < rp) = false := decide_eq_false l3
              have hij2 : (i : Int) - 1 = (j : Int) := by omega
              have hwj : IntKind.i64.wrap (j : Int) = (j : Int) := by rw [IntKind.wrap_i64]; omega
              have k0 : (0 : Int) ≤ (j : Int) := by omega
              have k1 : (j : Int) < (n : Int) := by omega
              subst hga
              clear hi0 hr hnum hra hlv hls hcore hij hrq hrp
              go_upto_region 26 with fail
              refine wp_region_held_drew (S := fun w' => w'.cell? ⟨gm, i * 10 + 6, none⟩ = some (.int .i64 num) ∧ w'.cell? ⟨G, cc, none⟩ = some (.int .i64 lv) ∧ w'.cell? ⟨gm, i * 10, none⟩ = some (.int .i64 ra) ∧ w'.cell? ⟨gm, j * 10, none⟩ = some (.int .i64 rp)) (by kernel_rfl) ?_ (fun hHeld => ?_)
              · exact ⟨q6, g0, q0, p0⟩
              obtain ⟨u0, hu0⟩ : ∃ u0, wr.drew = u0 := ⟨_, rfl⟩
              have HKu : Hid (Kept [] wr u0) := by rw [← hu0]; exact (Kept.refl [] wr).drew
              rw [hu0] at hHeld ⊢
              clear hu0
              refine wpAnyH_take (i := 0) (v := ?vy0) rfl (by kernel_rfl) (by kernel_rfl) (by kernel_rfl) (fun _ _ _ h => h) (Or.inl ⟨by rfl, ?hyy0⟩) (by assumption) ?_
              case hyy0 =>
                intro w hSw
                (try dsimp only at hSw)
                go_simp
                try with_reducible rfl
              try simp only [Act.put, List.setIfInBounds_toArray, List.set_cons_zero, List.set_cons_succ, List.getElem_toArray, List.getElem_cons_zero, List.getElem_cons_succ]
              refine wpAnyH_take (i := 1) (v := ?vy1) rfl (by kernel_rfl) (by kernel_rfl) (by kernel_rfl) (fun _ _ _ h => h) (Or.inl ⟨by rfl, ?hyy1⟩) (by assumption) ?_
              case hyy1 =>
                intro w hSw
                (try dsimp only at hSw)
                go_simp
                try with_reducible rfl
              try simp only [Act.put, List.setIfInBounds_toArray, List.set_cons_zero, List.set_cons_succ, List.getElem_toArray, List.getElem_cons_zero, List.getElem_cons_succ]
              refine wpAnyH_take (i := 2) (v := ?vy2) rfl (by kernel_rfl) (by kernel_rfl) (by kernel_rfl) (fun _ _ _ h => h) (Or.inl ⟨by rfl, ?hyy2⟩) (by assumption) ?_
              case hyy2 =>
                intro w hSw
                (try dsimp only at hSw)
                go_simp
                try with_reducible rfl
              try simp only [Act.put, List.setIfInBounds_toArray, List.set_cons_zero, List.set_cons_succ, List.getElem_toArray, List.getElem_cons_zero, List.getElem_cons_succ]
              refine wpAnyH_take (i := 3) (v := ?vy3) rfl (by kernel_rfl) (by kernel_rfl) (by kernel_rfl) (fun _ _ _ h => h) (Or.inl ⟨by rfl, ?hyy3⟩) (by assumption) ?_
              case hyy3 =>
                intro w hSw
                (try dsimp only at hSw)
                go_simp
                try with_reducible rfl
              try simp only [Act.put, List.setIfInBounds_toArray, List.set_cons_zero, List.set_cons_succ, List.getElem_toArray, List.getElem_cons_zero, List.getElem_cons_succ]
              refine wpAnyH_take (i := 4) (v := ?vy4) rfl (by kernel_rfl) (by kernel_rfl) (by kernel_rfl) (fun _ _ _ h => h) (Or.inl ⟨by rfl, ?hyy4⟩) (by assumption) ?_
              case hyy4 =>
                intro w hSw
                (try dsimp only at hSw)
                go_simp
                try with_reducible rfl
              try simp only [Act.put, List.setIfInBounds_toArray, List.set_cons_zero, List.set_cons_succ, List.getElem_toArray, List.getElem_cons_zero, List.getElem_cons_succ]
              refine wpAnyH_take (i := 5) (v := ?vy5) rfl (by kernel_rfl) (by kernel_rfl) (by kernel_rfl) (fun _ _ _ h => h) (Or.inl ⟨by rfl, ?hyy5⟩) (by assumption) ?_
              case hyy5 =>
                intro w hSw
                (try dsimp only at hSw)
                go_simp
                try with_reducible rfl
              try simp only [Act.put, List.setIfInBounds_toArray, List.set_cons_zero, List.set_cons_succ, List.getElem_toArray, List.getElem_cons_zero, List.getElem_cons_succ]
              refine wpAnyH_take (i := 6) (v := ?vy6) rfl (by kernel_rfl) (by kernel_rfl) (by kernel_rfl) (fun _ _ _ h => h) (Or.inl ⟨by rfl, ?hyy6⟩) (by assumption) ?_
              case hyy6 =>
                intro w hSw
                (try dsimp only at hSw)
                go_simp
                try with_reducible rfl
              try simp only [Act.put, List.setIfInBounds_toArray, List.set_cons_zero, List.set_cons_succ, List.getElem_toArray, List.getElem_cons_zero, List.getElem_cons_succ]
              refine wpAnyH_take (i := 7) (v := ?vy7) rfl (by kernel_rfl) (by kernel_rfl) (by kernel_rfl) (fun _ _ _ h => h) (Or.inl ⟨by rfl, ?hyy7⟩) (by assumption) ?_
              case hyy7 =>
                intro w hSw
                (try dsimp only at hSw)
                go_simp
                try with_reducible rfl
              try simp only [Act.put, List.setIfInBounds_toArray, List.set_cons_zero, List.set_cons_succ, List.getElem_toArray, List.getElem_cons_zero, List.getElem_cons_succ]
              refine wpAnyH_take (i := 8) (v := ?vy8) rfl (by kernel_rfl) (by kernel_rfl) (by kernel_rfl) (fun _ _ _ h => h) (Or.inl ⟨by rfl, ?hyy8⟩) (by assumption) ?_
              case hyy8 =>
                intro w hSw
                (try dsimp only at hSw)
                go_simp
                try with_reducible rfl
              try simp only [Act.put, List.setIfInBounds_toArray, List.set_cons_zero, List.set_cons_succ, List.getElem_toArray, List.getElem_cons_zero, List.getElem_cons_succ]
              refine wpAnyH_take (i := 9) (v := ?vy9) rfl (by kernel_rfl) (by kernel_rfl) (by kernel_rfl) (fun _ _ _ h => h) (Or.inl ⟨by rfl, ?hyy9⟩) (by assumption) ?_
              case hyy9 =>
                intro w hSw
                (try dsimp only at hSw)
                go_simp
                try with_reducible rfl
              try simp only [Act.put, List.setIfInBounds_toArray, List.set_cons_zero, List.set_cons_succ, List.getElem_toArray, List.getElem_cons_zero, List.getElem_cons_succ]
              refine wpAnyH_take (i := 10) (v := ?vy10) rfl (by kernel_rfl) (by kernel_rfl) (by kernel_rfl) (fun _ _ _ h => h) (Or.inl ⟨by rfl, ?hyy10⟩) (by assumption) ?_
              case hyy10 =>
                intro w hSw
                (try dsimp only at hSw)
                go_simp
                try with_reducible rfl
              try simp only [Act.put, List.setIfInBounds_toArray, List.set_cons_zero, List.set_cons_succ, List.getElem_toArray, List.getElem_cons_zero, List.getElem_cons_succ]
              refine wpAnyH_take (i := 11) (v := ?vy11) rfl (by kernel_rfl) (by kernel_rfl) (by kernel_rfl) (fun _ _ _ h => h) (Or.inl ⟨by rfl, ?hyy11⟩) (by assumption) ?_
              case hyy11 =>
                intro w hSw
                (try dsimp only at hSw)
                go_simp
                try with_reducible rfl
              try simp only [Act.put, List.setIfInBounds_toArray, List.set_cons_zero, List.set_cons_succ, List.getElem_toArray, List.getElem_cons_zero, List.getElem_cons_succ]
              refine wpAnyH_take (i := 12) (v := ?vy12) rfl (by kernel_rfl) (by kernel_rfl) (by kernel_rfl) (fun _ _ _ h => h) (Or.inl ⟨by rfl, ?hyy12⟩) (by assumption) ?_
              case hyy12 =>
                intro w hSw
                (try dsimp only at hSw)
                go_simp
                try with_reducible rfl
              try simp only [Act.put, List.setIfInBounds_toArray, List.set_cons_zero, List.set_cons_succ, List.getElem_toArray, List.getElem_cons_zero, List.getElem_cons_succ]
              refine wpAnyH_take (i := 13) (v := ?vy13) rfl (by kernel_rfl) (by kernel_rfl) (by kernel_rfl) (fun _ _ _ h => h) (Or.inl ⟨by rfl, ?hyy13⟩) (by assumption) ?_
              case hyy13 =>
                intro w hSw
                (try dsimp only at hSw)
                go_simp
                try with_reducible rfl
              try simp only [Act.put, List.setIfInBounds_toArray, List.set_cons_zero, List.set_cons_succ, List.getElem_toArray, List.getElem_cons_zero, List.getElem_cons_succ]
              refine wpAnyH_take (i := 14) (v := ?vy14) rfl (by kernel_rfl) (by kernel_rfl) (by kernel_rfl) (fun _ _ _ h => h) (Or.inl ⟨by rfl, ?hyy14⟩) (by assumption) ?_
              case hyy14 =>
                intro w hSw
                (try dsimp only at hSw)
                go_simp
                try with_reducible rfl
              try simp only [Act.put, List.setIfInBounds_toArray, List.set_cons_zero, List.set_cons_succ, List.getElem_toArray, List.getElem_cons_zero, List.getElem_cons_succ]
              refine wpAnyH_take (i := 15) (v := ?vy15) rfl (by kernel_rfl) (by kernel_rfl) (by kernel_rfl) (fun _ _ _ h => h) (Or.inl ⟨by rfl, ?hyy15⟩) (by assumption) ?_
              case hyy15 =>
                intro w hSw
                (try dsimp only at hSw)
                go_simp
                try with_reducible rfl
              try simp only [Act.put, List.setIfInBounds_toArray, List.set_cons_zero, List.set_cons_succ, List.getElem_toArray, List.getElem_cons_zero, List.getElem_cons_succ]
              refine wpAnyH_take (i := 16) (v := ?vy16) rfl (by kernel_rfl) (by kernel_rfl) (by kernel_rfl) (fun _ _ _ h => h) (Or.inl ⟨by rfl, ?hyy16⟩) (by assumption) ?_
              case hyy16 =>
                intro w hSw
                (try dsimp only at hSw)
                go_simp
                try with_reducible rfl
              try simp only [Act.put, List.setIfInBounds_toArray, List.set_cons_zero, List.set_cons_succ, List.getElem_toArray, List.getElem_cons_zero, List.getElem_cons_succ]
              refine wpAnyH_take (i := 17) (v := ?vy17) rfl (by kernel_rfl) (by kernel_rfl) (by kernel_rfl) (fun _ _ _ h => h) (Or.inl ⟨by rfl, ?hyy17⟩) (by assumption) ?_
              case hyy17 =>
                intro w hSw
                (try dsimp only at hSw)
                go_simp
                try with_reducible rfl
              try simp only [Act.put, List.setIfInBounds_toArray, List.set_cons_zero, List.set_cons_succ, List.getElem_toArray, List.getElem_cons_zero, List.getElem_cons_succ]
              refine wpAnyH_take (i := 18) (v := ?vy18) rfl (by kernel_rfl) (by kernel_rfl) (by kernel_rfl) (fun _ _ _ h => h) (Or.inl ⟨by rfl, ?hyy18⟩) (by assumption) ?_
              case hyy18 =>
                intro w hSw
                (try dsimp only at hSw)
                go_simp
                try with_reducible rfl
              try simp only [Act.put, List.setIfInBounds_toArray, List.set_cons_zero, List.set_cons_succ, List.getElem_toArray, List.getElem_cons_zero, List.getElem_cons_succ]
              refine wpAnyH_take (i := 19) (v := ?vy19) rfl (by kernel_rfl) (by kernel_rfl) (by kernel_rfl) (fun _ _ _ h => h) (Or.inl ⟨by rfl, ?hyy19⟩) (by assumption) ?_
              case hyy19 =>
                intro w hSw
                (try dsimp only at hSw)
                go_simp
                try with_reducible rfl
              try simp only [Act.put, List.setIfInBounds_toArray, List.set_cons_zero, List.set_cons_succ, List.getElem_toArray, List.getElem_cons_zero, List.getElem_cons_succ]
              refine wpAnyH_take (i := 20) (v := ?vy20) rfl (by kernel_rfl) (by kernel_rfl) (by kernel_rfl) (fun _ _ _ h => h) (Or.inl ⟨by rfl, ?hyy20⟩) (by assumption) ?_
              case hyy20 =>
                intro w hSw
                (try dsimp only at hSw)
                go_simp
                try with_reducible rfl
              try simp only [Act.put, List.setIfInBounds_toArray, List.set_cons_zero, List.set_cons_succ, List.getElem_toArray, List.getElem_cons_zero, List.getElem_cons_succ]
              refine wpAnyH_take (i := 21) (v := ?vy21) rfl (by kernel_rfl) (by kernel_rfl) (by kernel_rfl) (fun _ _ _ h => h) (Or.inl ⟨by rfl, ?hyy21⟩) (by assumption) ?_
              case hyy21 =>
                intro w hSw
                (try dsimp only at hSw)
                go_simp
                try with_reducible rfl
              try simp only [Act.put, List.setIfInBounds_toArray, List.set_cons_zero, List.set_cons_succ, List.getElem_toArray, List.getElem_cons_zero, List.getElem_cons_succ]
              refine wpAnyH_take (i := 22) (v := ?vy22) rfl (by kernel_rfl) (by kernel_rfl) (by kernel_rfl) (fun _ _ _ h => h) (Or.inl ⟨by rfl, ?hyy22⟩) (by assumption) ?_
              case hyy22 =>
                intro w hSw
                (try dsimp only at hSw)
                go_simp
                try with_reducible rfl
              try simp only [Act.put, List.setIfInBounds_toArray, List.set_cons_zero, List.set_cons_succ, List.getElem_toArray, List.getElem_cons_zero, List.getElem_cons_succ]
              refine wpAnyH_take (i := 23) (v := ?vy23) rfl (by kernel_rfl) (by kernel_rfl) (by kernel_rfl) (fun _ _ _ h => h) (Or.inl ⟨by rfl, ?hyy23⟩) (by assumption) ?_
              case hyy23 =>
                intro w hSw
                (try dsimp only at hSw)
                go_simp
                try with_reducible rfl
              try simp only [Act.put, List.setIfInBounds_toArray, List.set_cons_zero, List.set_cons_succ, List.getElem_toArray, List.getElem_cons_zero, List.getElem_cons_succ]
              refine wpAnyH_take (i := 24) (v := ?vy24) rfl (by kernel_rfl) (by kernel_rfl) (by kernel_rfl) (fun _ _ _ h => h) (Or.inl ⟨by rfl, ?hyy24⟩) (by assumption) ?_
              case hyy24 =>
                intro w hSw
                (try dsimp only at hSw)
                go_simp
                try with_reducible rfl
              try simp only [Act.put, List.setIfInBounds_toArray, List.set_cons_zero, List.set_cons_succ, List.getElem_toArray, List.getElem_cons_zero, List.getElem_cons_succ]
              refine wpAnyH_take (i := 25) (v := ?vy25) rfl (by kernel_rfl) (by kernel_rfl) (by kernel_rfl) (fun _ _ _ h => h) (Or.inl ⟨by rfl, ?hyy25⟩) (by assumption) ?_
              case hyy25 =>
                intro w hSw
                (try dsimp only at hSw)
                go_simp
                try with_reducible rfl
              try simp only [Act.put, List.setIfInBounds_toArray, List.set_cons_zero, List.set_cons_succ, List.getElem_toArray, List.getElem_cons_zero, List.getElem_cons_succ]
              refine wpAnyH_take (i := 26) (v := ?vy26) rfl (by kernel_rfl) (by kernel_rfl) (by kernel_rfl) (fun _ _ _ h => h) (Or.inl ⟨by rfl, ?hyy26⟩) (by assumption) ?_
              case hyy26 =>
                intro w hSw
                (try dsimp only at hSw)
                go_simp
                try with_reducible rfl
              try simp only [Act.put, List.setIfInBounds_toArray, List.set_cons_zero, List.set_cons_succ, List.getElem_toArray, List.getElem_cons_zero, List.getElem_cons_succ]
              refine wpAnyH_take (i := 27) (v := ?vy27) rfl (by kernel_rfl) (by kernel_rfl) (by kernel_rfl) (fun _ _ _ h => h) (Or.inl ⟨by rfl, ?hyy27⟩) (by assumption) ?_
              case hyy27 =>
                intro w hSw
                (try dsimp only at hSw)
                go_simp
                try with_reducible rfl
              try simp only [Act.put, List.setIfInBounds_toArray, List.set_cons_zero, List.set_cons_succ, List.getElem_toArray, List.getElem_cons_zero, List.getElem_cons_succ]
              refine wpAnyH_take (i := 28) (v := ?vy28) rfl (by kernel_rfl) (by kernel_rfl) (by kernel_rfl) (fun _ _ _ h => h) (Or.inl ⟨by rfl, ?hyy28⟩) (by assumption) ?_
              case hyy28 =>
                intro w hSw
                (try dsimp only at hSw)
                go_simp
                try with_reducible rfl
              try simp only [Act.put, List.setIfInBounds_toArray, List.set_cons_zero, List.set_cons_succ, List.getElem_toArray, List.getElem_cons_zero, List.getElem_cons_succ]
              refine wpAnyH_take (i := 29) (v := ?vy29) rfl (by kernel_rfl) (by kernel_rfl) (by kernel_rfl) (fun _ _ _ h => h) (Or.inl ⟨by rfl, ?hyy29⟩) (by assumption) ?_
              case hyy29 =>
                intro w hSw
                (try dsimp only at hSw)
                go_simp
                try with_reducible rfl
              try simp only [Act.put, List.setIfInBounds_toArray, List.set_cons_zero, List.set_cons_succ, List.getElem_toArray, List.getElem_cons_zero, List.getElem_cons_succ]
              refine wpAnyH_take (i := 30) (v := ?vy30) rfl (by kernel_rfl) (by kernel_rfl) (by kernel_rfl) (fun _ _ _ h => h) (Or.inl ⟨by rfl, ?hyy30⟩) (by assumption) ?_
              case hyy30 =>
                intro w hSw
                (try dsimp only at hSw)
                go_simp
                try with_reducible rfl
              try simp only [Act.put, List.setIfInBounds_toArray, List.set_cons_zero, List.set_cons_succ, List.getElem_toArray, List.getElem_cons_zero, List.getElem_cons_succ]
              refine wpAnyH_done (by kernel_rfl) ?_ _
              have c6 := HKu.out.cell q6 (by simp)
              have k6 := HKu.out.cell g0 (by simp)
              have f6 : u0.frozen? ⟨G, cc, none⟩ = false := frozen_of ((HKu.out.block _ (lt_of_heap HG.out) (by simp)).trans HG.out) _
              have HGn : Hid ((u0.setCell ⟨G, cc, none⟩ (.int .i64 num)).heap[G]? = some (.cells ((ls.set cc num).map (Value.int .i64)).toArray 3 (0, 0)) ∧ Kept [G] WG (u0.setCell ⟨G, cc, none⟩ (.int .i64 num))) := by
                refine ⟨?_, ?_⟩
                · rw [block_set ((HKu.out.block _ (lt_of_heap HG.out) (by simp)).trans HG.out), List.map_set]; simp
                · exact (HL.out.2.2.1.trans HKu.out (by simp)).setCell (Or.inl (by simp)) _
              clear q6 g0 hHeld
              go_wp2_with fail
              go_roundw
              case rel => exact ⟨i + 1, ls.set cc num, by go_num, by omega, by simpa using HL.out.1, HGn.out.1, HGn.out.2, HNew.out⟩
              case measure => simp [intOf]; omega
          · have j1 : ¬ (i : Int) < (n : Int) := by omega
            go_wp2_with fail
            go_ret
            exact ⟨rfl, HKw.out.1.trans HL.out.2.2.1 (fun x hx => Or.inr (by rw [show x = G by simpa using hx]; exact HKw.out.2))⟩
      · have i1 : ¬ (n : Int) < (len0 : Int) := by omega
        go_wp2_with fail
        refine P.mono ?_
        rintro e w5 ⟨vA, rfl, rA, k5⟩
        obtain ⟨aA, cA, hvA, hcA, hcmA, -⟩ := rA.slice
        subst hvA
        rw [HRow.out.1] at rA hcA
        rw [HRow.out.1]
        clear P
        obtain ⟨WG, G, HWG, HKG, HBG⟩ := box1 w5 #[.int .i64 (-1), .int .i64 (-1), .int .i64 (-1), .int .i64 (-1)] 3
        have HA5 : Hid (Rr WG 0 (.slice aA n cA) M ∧ ∀ x, (Value.slice aA n cA).ownBlock = some x → x ≠ G) := ⟨(rA.low (Nat.zero_le _)).kept HKG.out.1 (by simp), fun x hx => by have := (rA.block x hx).2; have := HWG.out.2; omega⟩
        have HKw : Hid (Kept [] w WG ∧ w.heap.size ≤ G) := ⟨((HK.out.trans HJ.out.2.2.2.1 (by simp)).trans k5 (by simp)).trans HKG.out.1 (by simp), by
          have h1 := HWG.out.2
          have h2 := (((HK.out.trans HJ.out.2.2.2.1 (by simp)).trans k5 (by simp))).size
          omega⟩
        have hcA2 : cA ≤ 9223372036854775807 := by unfold maxLen at hcmA; omega
        clear rA k5 hcmA
        have nn : ((n : Int) != (n : Int)) = false := by simp
        go_upto_region 22 with fail
        rw [HWG.out.1, HWG.out.2]
        clear HWG HKG nn
        go_wp2_with fail
        go_loopw [13] (fun iv wr => ∃ (i : Nat) (ls : List Int), iv = .int .i64 (i : Int) ∧ i ≤ n ∧ Hid (ls.length = 4 ∧ wr.heap[G]? = some (.cells (ls.map (Value.int .i64)).toArray 3 (0, 0)) ∧ Kept [G] WG wr ∧ ∀ c : Nat, c < 4 → ls[c]? = some (-1) ∨ ∃ (j : Nat) (hj : j < M.length), j < i ∧ (M[j]).core = (c : Int) ∧ ls[c]? = some (M[j]).num)) (fun iv _ => (n - intOf iv).toNat)
        case atStart => exact ⟨0, [-1, -1, -1, -1], rfl, by omega, rfl, HBG.out, Kept.refl _ _, fun c hc => Or.inl (by
          rcases (show c = 0 ∨ c = 1 ∨ c = 2 ∨ c = 3 by omega) with rfl | rfl | rfl | rfl <;> rfl)⟩
        case round =>
          obtain ⟨i, ls, rfl, hile, HL⟩ := hrel
          by_cases hlt : i < n
          · have j0 : (0 : Int) ≤ (i : Int) := by omega
            have j1 : (i : Int) < (n : Int) := by omega
            have hiM : i < M.length := by rw [HRow.out.1]; exact hlt
            obtain ⟨cc, hcC, hcore, hnum0⟩ := HRow.out.2.1 _ (List.getElem_mem hiM)
            have hcc4 : cc < 4 := by have := HJ.out.2.2.1; omega
            obtain ⟨r, hr⟩ : ∃ r, M[i] = r := ⟨_, rfl⟩
            have HRe : Hid (M[i] = r) := hr
            obtain ⟨gm, hga, q0, -, -, q3, -, -, q6, -, -, -⟩ := (HA5.out.1.kept HL.out.2.2.1 (fun x hx e => HA5.out.2 x e (by simpa using hx))).ten rfl hiM hr
            rw [hr] at hcore hnum0
            rw [hcore] at q3
            obtain ⟨num, hnum⟩ : ∃ num, r.num = num := ⟨_, rfl⟩
            obtain ⟨ra, hra⟩ : ∃ ra, r.a = ra := ⟨_, rfl⟩
            rw [hnum] at q6 hnum0
            rw [hra] at q0
            have hlc : cc < ls.length := by rw [HL.out.1]; exact hcc4
            obtain ⟨lv, hlv⟩ : ∃ lv, ls[cc] = lv := ⟨_, rfl⟩
            have hls : ls[cc]? = some lv := by rw [List.getElem?_eq_getElem hlc, hlv]
            have hbig : lv < num := by
              rcases HL.out.2.2.2 cc hcc4 with h1 | ⟨j, hj, hji, hjc, h1⟩
              · rw [hls] at h1; have := Option.some.inj h1; omega
              · rw [hls] at h1
                have e1 := Option.some.inj h1
                have := (List.pairwise_iff_getElem.1 HRow.out.2.2.1) j i hj hiM hji (by rw [hjc, hr, hcore])
                rw [hr, hnum] at this
                omega
            have HG : Hid (wr.heap[G]? = some (.cells (ls.map (Value.int .i64)).toArray 3 (0, 0))) := HL.out.2.1
            have g0 : wr.cell? ⟨G, cc, none⟩ = some (.int .i64 lv) := by rw [cellB HG.out]; simp [hls]
            have c0 : (0 : Int) ≤ (cc : Int) := by omega
            have c1 : (cc : Int) < 4 := by omega
            have HNew : Hid (∀ c : Nat, c < 4 → (ls.set cc num)[c]? = some (-1) ∨ ∃ (j : Nat) (hj : j < M.length), j < i + 1 ∧ (M[j]).core = (c : Int) ∧ (ls.set cc num)[c]? = some (M[j]).num) := fun c hc => by
              by_cases e : cc = c
              · subst e
                exact Or.inr ⟨i, hiM, by omega, by rw [hr]; exact hcore, by rw [List.getElem?_set_self hlc, hr, hnum]⟩
              · rw [List.getElem?_set_ne e]
                rcases HL.out.2.2.2 c hc with h1 | ⟨j, hj, hji, hjc, h1⟩
                · exact Or.inl h1
                · exact Or.inr ⟨j, hj, by omega, hjc, h1⟩
            have l1 : ¬ num ≤ lv := by omega
            have d1 : decide (num ≤ lv) = false := decide_eq_false l1
            by_cases hi0 : i = 0
            · subst hi0
              rw [Nat.zero_mul, Nat.zero_add] at q6
              rw [Nat.zero_mul] at q0 q3
              rw [Nat.zero_add] at q3
              subst hga
              clear hr hnum hra hlv hls hcore
              go_upto_region 26 with fail
              refine wp_region_held_drew (S := fun w' => w'.cell? ⟨gm, 6, none⟩ = some (.int .i64 num) ∧ w'.cell? ⟨G, cc, none⟩ = some (.int .i64 lv)) (by kernel_rfl) ?_ (fun hHeld => ?_)
              · exact ⟨q6, g0⟩
              obtain ⟨u0, hu0⟩ : ∃ u0, wr.drew = u0 := ⟨_, rfl⟩
              have HKu : Hid (Kept [] wr u0) := by rw [← hu0]; exact (Kept.refl [] wr).drew
              rw [hu0] at hHeld ⊢
              clear hu0
              refine wpAnyH_take (i := 0) (v := ?vg0) rfl (by kernel_rfl) (by kernel_rfl) (by kernel_rfl) (fun _ _ _ h => h) (Or.inl ⟨by rfl, ?hyg0⟩) (by assumption) ?_
              case hyg0 =>
                intro w hSw
                (try dsimp only at hSw)
                go_simp
                try with_reducible rfl
              try simp only [Act.put, List.setIfInBounds_toArray, List.set_cons_zero, List.set_cons_succ, List.getElem_toArray, List.getElem_cons_zero, List.getElem_cons_succ]
              refine wpAnyH_take (i := 1) (v := ?vg1) rfl (by kernel_rfl) (by kernel_rfl) (by kernel_rfl) (fun _ _ _ h => h) (Or.inl ⟨by rfl, ?hyg1⟩) (by assumption) ?_
              case hyg1 =>
                intro w hSw
                (try dsimp only at hSw)
                go_simp
                try with_reducible rfl
              try simp only [Act.put, List.setIfInBounds_toArray, List.set_cons_zero, List.set_cons_succ, List.getElem_toArray, List.getElem_cons_zero, List.getElem_cons_succ]
              refine wpAnyH_take (i := 2) (v := ?vg2) rfl (by kernel_rfl) (by kernel_rfl) (by kernel_rfl) (fun _ _ _ h => h) (Or.inl ⟨by rfl, ?hyg2⟩) (by assumption) ?_
              case hyg2 =>
                intro w hSw
                (try dsimp only at hSw)
                go_simp
                try with_reducible rfl
              try simp only [Act.put, List.setIfInBounds_toArray, List.set_cons_zero, List.set_cons_succ, List.getElem_toArray, List.getElem_cons_zero, List.getElem_cons_succ]
              refine wpAnyH_take (i := 3) (v := ?vg3) rfl (by kernel_rfl) (by kernel_rfl) (by kernel_rfl) (fun _ _ _ h => h) (Or.inl ⟨by rfl, ?hyg3⟩) (by assumption) ?_
              case hyg3 =>
                intro w hSw
                (try dsimp only at hSw)
                go_simp
                try with_reducible rfl
              try simp only [Act.put, List.setIfInBounds_toArray, List.set_cons_zero, List.set_cons_succ, List.getElem_toArray, List.getElem_cons_zero, List.getElem_cons_succ]
              refine wpAnyH_take (i := 4) (v := ?vg4) rfl (by kernel_rfl) (by kernel_rfl) (by kernel_rfl) (fun _ _ _ h => h) (Or.inl ⟨by rfl, ?hyg4⟩) (by assumption) ?_
              case hyg4 =>
                intro w hSw
                (try dsimp only at hSw)
                go_simp
                try with_reducible rfl
              try simp only [Act.put, List.setIfInBounds_toArray, List.set_cons_zero, List.set_cons_succ, List.getElem_toArray, List.getElem_cons_zero, List.getElem_cons_succ]
              refine wpAnyH_take (i := 5) (v := ?vg5) rfl (by kernel_rfl) (by kernel_rfl) (by kernel_rfl) (fun _ _ _ h => h) (Or.inl ⟨by rfl, ?hyg5⟩) (by assumption) ?_
              case hyg5 =>
                intro w hSw
                (try dsimp only at hSw)
                go_simp
                try with_reducible rfl
              try simp only [Act.put, List.setIfInBounds_toArray, List.set_cons_zero, List.set_cons_succ, List.getElem_toArray, List.getElem_cons_zero, List.getElem_cons_succ]
              refine wpAnyH_take (i := 6) (v := ?vg6) rfl (by kernel_rfl) (by kernel_rfl) (by kernel_rfl) (fun _ _ _ h => h) (Or.inl ⟨by rfl, ?hyg6⟩) (by assumption) ?_
              case hyg6 =>
                intro w hSw
                (try dsimp only at hSw)
                go_simp
                try with_reducible rfl
              try simp only [Act.put, List.setIfInBounds_toArray, List.set_cons_zero, List.set_cons_succ, List.getElem_toArray, List.getElem_cons_zero, List.getElem_cons_succ]
              refine wpAnyH_take (i := 7) (v := ?vg7) rfl (by kernel_rfl) (by kernel_rfl) (by kernel_rfl) (fun _ _ _ h => h) (Or.inl ⟨by rfl, ?hyg7⟩) (by assumption) ?_
              case hyg7 =>
                intro w hSw
                (try dsimp only at hSw)
                go_simp
                try with_reducible rfl
              try simp only [Act.put, List.setIfInBounds_toArray, List.set_cons_zero, List.set_cons_succ, List.getElem_toArray, List.getElem_cons_zero, List.getElem_cons_succ]
              refine wpAnyH_take (i := 8) (v := ?vg8) rfl (by kernel_rfl) (by kernel_rfl) (by kernel_rfl) (fun _ _ _ h => h) (Or.inl ⟨by rfl, ?hyg8⟩) (by assumption) ?_
              case hyg8 =>
                intro w hSw
                (try dsimp only at hSw)
                go_simp
                try with_reducible rfl
              try simp only [Act.put, List.setIfInBounds_toArray, List.set_cons_zero, List.set_cons_succ, List.getElem_toArray, List.getElem_cons_zero, List.getElem_cons_succ]
              refine wpAnyH_take (i := 9) (v := ?vg9) rfl (by kernel_rfl) (by kernel_rfl) (by kernel_rfl) (fun _ _ _ h => h) (Or.inl ⟨by rfl, ?hyg9⟩) (by assumption) ?_
              case hyg9 =>
                intro w hSw
                (try dsimp only at hSw)
                go_simp
                try with_reducible rfl
              try simp only [Act.put, List.setIfInBounds_toArray, List.set_cons_zero, List.set_cons_succ, List.getElem_toArray, List.getElem_cons_zero, List.getElem_cons_succ]
              refine wpAnyH_take (i := 10) (v := ?vg10) rfl (by kernel_rfl) (by kernel_rfl) (by kernel_rfl) (fun _ _ _ h => h) (Or.inl ⟨by rfl, ?hyg10⟩) (by assumption) ?_
              case hyg10 =>
                intro w hSw
                (try dsimp only at hSw)
                go_simp
                try with_reducible rfl
              try simp only [Act.put, List.setIfInBounds_toArray, List.set_cons_zero, List.set_cons_succ, List.getElem_toArray, List.getElem_cons_zero, List.getElem_cons_succ]
              refine wpAnyH_take (i := 11) (v := ?vg11) rfl (by kernel_rfl) (by kernel_rfl) (by kernel_rfl) (fun _ _ _ h => h) (Or.inl ⟨by rfl, ?hyg11⟩) (by assumption) ?_
              case hyg11 =>
                intro w hSw
                (try dsimp only at hSw)
                go_simp
                try with_reducible rfl
              try simp only [Act.put, List.setIfInBounds_toArray, List.set_cons_zero, List.set_cons_succ, List.getElem_toArray, List.getElem_cons_zero, List.getElem_cons_succ]
              refine wpAnyH_take (i := 12) (v := ?vg12) rfl (by kernel_rfl) (by kernel_rfl) (by kernel_rfl) (fun _ _ _ h => h) (Or.inl ⟨by rfl, ?hyg12⟩) (by assumption) ?_
              case hyg12 =>
                intro w hSw
                (try dsimp only at hSw)
                go_simp
                try with_reducible rfl
              try simp only [Act.put, List.setIfInBounds_toArray, List.set_cons_zero, List.set_cons_succ, List.getElem_toArray, List.getElem_cons_zero, List.getElem_cons_succ]
              refine wpAnyH_take (i := 13) (v := ?vg13) rfl (by kernel_rfl) (by kernel_rfl) (by kernel_rfl) (fun _ _ _ h => h) (Or.inl ⟨by rfl, ?hyg13⟩) (by assumption) ?_
              case hyg13 =>
                intro w hSw
                (try dsimp only at hSw)
                go_simp
                try with_reducible rfl
              try simp only [Act.put, List.setIfInBounds_toArray, List.set_cons_zero, List.set_cons_succ, List.getElem_toArray, List.getElem_cons_zero, List.getElem_cons_succ]
              refine wpAnyH_take (i := 14) (v := ?vg14) rfl (by kernel_rfl) (by kernel_rfl) (by kernel_rfl) (fun _ _ _ h => h) (Or.inl ⟨by rfl, ?hyg14⟩) (by assumption) ?_
              case hyg14 =>
                intro w hSw
                (try dsimp only at hSw)
                go_simp
                try with_reducible rfl
              try simp only [Act.put, List.setIfInBounds_toArray, List.set_cons_zero, List.set_cons_succ, List.getElem_toArray, List.getElem_cons_zero, List.getElem_cons_succ]
              refine wpAnyH_take (i := 15) (v := undef) rfl (by kernel_rfl) (by kernel_rfl) (by kernel_rfl) (fun _ _ _ h => h) (Or.inr ⟨by rfl, rfl⟩) (by assumption) ?_
              try simp only [Act.put, List.setIfInBounds_toArray, List.set_cons_zero, List.set_cons_succ, List.getElem_toArray, List.getElem_cons_zero, List.getElem_cons_succ]
              refine wpAnyH_take (i := 16) (v := undef) rfl (by kernel_rfl) (by kernel_rfl) (by kernel_rfl) (fun _ _ _ h => h) (Or.inr ⟨by rfl, rfl⟩) (by assumption) ?_
              try simp only [Act.put, List.setIfInBounds_toArray, List.set_cons_zero, List.set_cons_succ, List.getElem_toArray, List.getElem_cons_zero, List.getElem_cons_succ]
              refine wpAnyH_take (i := 17) (v := undef) rfl (by kernel_rfl) (by kernel_rfl) (by kernel_rfl) (fun _ _ _ h => h) (Or.inr ⟨by rfl, rfl⟩) (by assumption) ?_
              try simp only [Act.put, List.setIfInBounds_toArray, List.set_cons_zero, List.set_cons_succ, List.getElem_toArray, List.getElem_cons_zero, List.getElem_cons_succ]
              refine wpAnyH_take (i := 18) (v := undef) rfl (by kernel_rfl) (by kernel_rfl) (by kernel_rfl) (fun _ _ _ h => h) (Or.inr ⟨by rfl, rfl⟩) (by assumption) ?_
              try simp only [Act.put, List.setIfInBounds_toArray, List.set_cons_zero, List.set_cons_succ, List.getElem_toArray, List.getElem_cons_zero, List.getElem_cons_succ]
              refine wpAnyH_take (i := 19) (v := undef) rfl (by kernel_rfl) (by kernel_rfl) (by kernel_rfl) (fun _ _ _ h => h) (Or.inr ⟨by rfl, rfl⟩) (by assumption) ?_
              try simp only [Act.put, List.setIfInBounds_toArray, List.set_cons_zero, List.set_cons_succ, List.getElem_toArray, List.getElem_cons_zero, List.getElem_cons_succ]
              refine wpAnyH_take (i := 20) (v := undef) rfl (by kernel_rfl) (by kernel_rfl) (by kernel_rfl) (fun _ _ _ h => h) (Or.inr ⟨by rfl, rfl⟩) (by assumption) ?_
              try simp only [Act.put, List.setIfInBounds_toArray, List.set_cons_zero, List.set_cons_succ, List.getElem_toArray, List.getElem_cons_zero, List.getElem_cons_succ]
              refine wpAnyH_take (i := 21) (v := undef) rfl (by kernel_rfl) (by kernel_rfl) (by kernel_rfl) (fun _ _ _ h => h) (Or.inr ⟨by rfl, rfl⟩) (by assumption) ?_
              try simp only [Act.put, List.setIfInBounds_toArray, List.set_cons_zero, List.set_cons_succ, List.getElem_toArray, List.getElem_cons_zero, List.getElem_cons_succ]
              refine wpAnyH_take (i := 22) (v := undef) rfl (by kernel_rfl) (by kernel_rfl) (by kernel_rfl) (fun _ _ _ h => h) (Or.inr ⟨by rfl, rfl⟩) (by assumption) ?_
              try simp only [Act.put, List.setIfInBounds_toArray, List.set_cons_zero, List.set_cons_succ, List.getElem_toArray, List.getElem_cons_zero, List.getElem_cons_succ]
              refine wpAnyH_take (i := 23) (v := undef) rfl (by kernel_rfl) (by kernel_rfl) (by kernel_rfl) (fun _ _ _ h => h) (Or.inr ⟨by rfl, rfl⟩) (by assumption) ?_
              try simp only [Act.put, List.setIfInBounds_toArray, List.set_cons_zero, List.set_cons_succ, List.getElem_toArray, List.getElem_cons_zero, List.getElem_cons_succ]
              refine wpAnyH_take (i := 24) (v := undef) rfl (by kernel_rfl) (by kernel_rfl) (by kernel_rfl) (fun _ _ _ h => h) (Or.inr ⟨by rfl, rfl⟩) (by assumption) ?_
              try simp only [Act.put, List.setIfInBounds_toArray, List.set_cons_zero, List.set_cons_succ, List.getElem_toArray, List.getElem_cons_zero, List.getElem_cons_succ]
              refine wpAnyH_take (i := 25) (v := undef) rfl (by kernel_rfl) (by kernel_rfl) (by kernel_rfl) (fun _ _ _ h => h) (Or.inr ⟨by rfl, rfl⟩) (by assumption) ?_
              try simp only [Act.put, List.setIfInBounds_toArray, List.set_cons_zero, List.set_cons_succ, List.getElem_toArray, List.getElem_cons_zero, List.getElem_cons_succ]
              refine wpAnyH_take (i := 26) (v := undef) rfl (by kernel_rfl) (by kernel_rfl) (by kernel_rfl) (fun _ _ _ h => h) (Or.inr ⟨by rfl, rfl⟩) (by assumption) ?_
              try simp only [Act.put, List.setIfInBounds_toArray, List.set_cons_zero, List.set_cons_succ, List.getElem_toArray, List.getElem_cons_zero, List.getElem_cons_succ]
              refine wpAnyH_take (i := 27) (v := undef) rfl (by kernel_rfl) (by kernel_rfl) (by kernel_rfl) (fun _ _ _ h => h) (Or.inr ⟨by rfl, rfl⟩) (by assumption) ?_
              try simp only [Act.put, List.setIfInBounds_toArray, List.set_cons_zero, List.set_cons_succ, List.getElem_toArray, List.getElem_cons_zero, List.getElem_cons_succ]
              refine wpAnyH_take (i := 28) (v := undef) rfl (by kernel_rfl) (by kernel_rfl) (by kernel_rfl) (fun _ _ _ h => h) (Or.inr ⟨by rfl, rfl⟩) (by assumption) ?_
              try simp only [Act.put, List.setIfInBounds_toArray, List.set_cons_zero, List.set_cons_succ, List.getElem_toArray, List.getElem_cons_zero, List.getElem_cons_succ]
              refine wpAnyH_take (i := 29) (v := ?vg29) rfl (by kernel_rfl) (by kernel_rfl) (by kernel_rfl) (fun _ _ _ h => h) (Or.inl ⟨by rfl, ?hyg29⟩) (by assumption) ?_
              case hyg29 =>
                intro w hSw
                (try dsimp only at hSw)
                go_simp
                try with_reducible rfl
              try simp only [Act.put, List.setIfInBounds_toArray, List.set_cons_zero, List.set_cons_succ, List.getElem_toArray, List.getElem_cons_zero, List.getElem_cons_succ]
              refine wpAnyH_take (i := 30) (v := ?vg30) rfl (by kernel_rfl) (by kernel_rfl) (by kernel_rfl) (fun _ _ _ h => h) (Or.inl ⟨by rfl, ?hyg30⟩) (by assumption) ?_
              case hyg30 =>
                intro w hSw
                (try dsimp only at hSw)
                go_simp
                try with_reducible rfl
              try simp only [Act.put, List.setIfInBounds_toArray, List.set_cons_zero, List.set_cons_succ, List.getElem_toArray, List.getElem_cons_zero, List.getElem_cons_succ]
              refine wpAnyH_done (by kernel_rfl) ?_ _
              have c6 := HKu.out.cell q6 (by simp)
              have k6 := HKu.out.cell g0 (by simp)
              have f6 : u0.frozen? ⟨G, cc, none⟩ = false := frozen_of ((HKu.out.block _ (lt_of_heap HG.out) (by simp)).trans HG.out) _
              have HGn : Hid ((u0.setCell ⟨G, cc, none⟩ (.int .i64 num)).heap[G]? = some (.cells ((ls.set cc num).map (Value.int .i64)).toArray 3 (0, 0)) ∧ Kept [G] WG (u0.setCell ⟨G, cc, none⟩ (.int .i64 num))) := by
                refine ⟨?_, ?_⟩
                · rw [block_set ((HKu.out.block _ (lt_of_heap HG.out) (by simp)).trans HG.out), List.map_set]; simp
                · exact (HL.out.2.2.1.trans HKu.out (by simp)).setCell (Or.inl (by simp)) _
              clear q6 g0 hHeld
              go_wp2_with fail
              go_roundw
              case rel => exact ⟨0 + 1, ls.set cc num, by go_num, by omega, by simpa using HL.out.1, HGn.out.1, HGn.out.2, HNew.out⟩
              case measure => simp [intOf]; omega
            · obtain ⟨j, hij⟩ : ∃ j, i = j + 1 := ⟨i - 1, by omega⟩
              have hjM : j < M.length := by omega
              obtain ⟨rq, hrq⟩ : ∃ rq, M[j] = rq := ⟨_, rfl⟩
              obtain ⟨gm', hga', p0, -⟩ := (HA5.out.1.kept HL.out.2.2.1 (fun x hx e => HA5.out.2 x e (by simpa using hx))).ten rfl hjM hrq
              rw [hga] at hga'
              simp only [Option.some.injEq, Addr.mk.injEq, and_true] at hga'
              subst hga'
              obtain ⟨rp, hrp⟩ : ∃ rp, rq.a = rp := ⟨_, rfl⟩
              rw [hrp] at p0
              have hle : rp ≤ ra := by
                have := (List.pairwise_iff_getElem.1 HRow.out.2.2.2) j i hjM hiM (by omega)
                rw [hr, hrq, hra, hrp] at this
                exact this
              have l2 : 0 < i := by omega
              have d2 : decide (0 < i) = true := decide_eq_true l2
              have l3 : ¬ ra < rp := by omega
              have d3 : decide (ra < rp) = false := decide_eq_false l3
              have hij2 : (i : Int) - 1 = (j : Int) := by omega
              have hwj : IntKind.i64.wrap (j : Int) = (j : Int) := by rw [IntKind.wrap_i64]; omega
              have k0 : (0 : Int) ≤ (j : Int) := by omega
              have k1 : (j : Int) < (n : Int) := by omega
              subst hga
              clear hi0 hr hnum hra hlv hls hcore hij hrq hrp
              go_upto_region 26 with fail
              refine wp_region_held_drew (S := fun w' => w'.cell? ⟨gm, i * 10 + 6, none⟩ = some (.int .i64 num) ∧ w'.cell? ⟨G, cc, none⟩ = some (.int .i64 lv) ∧ w'.cell? ⟨gm, i * 10, none⟩ = some (.int .i64 ra) ∧ w'.cell? ⟨gm, j * 10, none⟩ = some (.int .i64 rp)) (by kernel_rfl) ?_ (fun hHeld => ?_)
              · exact ⟨q6, g0, q0, p0⟩
              obtain ⟨u0, hu0⟩ : ∃ u0, wr.drew = u0 := ⟨_, rfl⟩
              have HKu : Hid (Kept [] wr u0) := by rw [← hu0]; exact (Kept.refl [] wr).drew
              rw [hu0] at hHeld ⊢
              clear hu0
              refine wpAnyH_take (i := 0) (v := ?vh0) rfl (by kernel_rfl) (by kernel_rfl) (by kernel_rfl) (fun _ _ _ h => h) (Or.inl ⟨by rfl, ?hyh0⟩) (by assumption) ?_
              case hyh0 =>
                intro w hSw
                (try dsimp only at hSw)
                go_simp
                try with_reducible rfl
              try simp only [Act.put, List.setIfInBounds_toArray, List.set_cons_zero, List.set_cons_succ, List.getElem_toArray, List.getElem_cons_zero, List.getElem_cons_succ]
              refine wpAnyH_take (i := 1) (v := ?vh1) rfl (by kernel_rfl) (by kernel_rfl) (by kernel_rfl) (fun _ _ _ h => h) (Or.inl ⟨by rfl, ?hyh1⟩) (by assumption) ?_
              case hyh1 =>
                intro w hSw
                (try dsimp only at hSw)
                go_simp
                try with_reducible rfl
              try simp only [Act.put, List.setIfInBounds_toArray, List.set_cons_zero, List.set_cons_succ, List.getElem_toArray, List.getElem_cons_zero, List.getElem_cons_succ]
              refine wpAnyH_take (i := 2) (v := ?vh2) rfl (by kernel_rfl) (by kernel_rfl) (by kernel_rfl) (fun _ _ _ h => h) (Or.inl ⟨by rfl, ?hyh2⟩) (by assumption) ?_
              case hyh2 =>
                intro w hSw
                (try dsimp only at hSw)
                go_simp
                try with_reducible rfl
              try simp only [Act.put, List.setIfInBounds_toArray, List.set_cons_zero, List.set_cons_succ, List.getElem_toArray, List.getElem_cons_zero, List.getElem_cons_succ]
              refine wpAnyH_take (i := 3) (v := ?vh3) rfl (by kernel_rfl) (by kernel_rfl) (by kernel_rfl) (fun _ _ _ h => h) (Or.inl ⟨by rfl, ?hyh3⟩) (by assumption) ?_
              case hyh3 =>
                intro w hSw
                (try dsimp only at hSw)
                go_simp
                try with_reducible rfl
              try simp only [Act.put, List.setIfInBounds_toArray, List.set_cons_zero, List.set_cons_succ, List.getElem_toArray, List.getElem_cons_zero, List.getElem_cons_succ]
              refine wpAnyH_take (i := 4) (v := ?vh4) rfl (by kernel_rfl) (by kernel_rfl) (by kernel_rfl) (fun _ _ _ h => h) (Or.inl ⟨by rfl, ?hyh4⟩) (by assumption) ?_
              case hyh4 =>
                intro w hSw
                (try dsimp only at hSw)
                go_simp
                try with_reducible rfl
              try simp only [Act.put, List.setIfInBounds_toArray, List.set_cons_zero, List.set_cons_succ, List.getElem_toArray, List.getElem_cons_zero, List.getElem_cons_succ]
              refine wpAnyH_take (i := 5) (v := ?vh5) rfl (by kernel_rfl) (by kernel_rfl) (by kernel_rfl) (fun _ _ _ h => h) (Or.inl ⟨by rfl, ?hyh5⟩) (by assumption) ?_
              case hyh5 =>
                intro w hSw
                (try dsimp only at hSw)
                go_simp
                try with_reducible rfl
              try simp only [Act.put, List.setIfInBounds_toArray, List.set_cons_zero, List.set_cons_succ, List.getElem_toArray, List.getElem_cons_zero, List.getElem_cons_succ]
              refine wpAnyH_take (i := 6) (v := ?vh6) rfl (by kernel_rfl) (by kernel_rfl) (by kernel_rfl) (fun _ _ _ h => h) (Or.inl ⟨by rfl, ?hyh6⟩) (by assumption) ?_
              case hyh6 =>
                intro w hSw
                (try dsimp only at hSw)
                go_simp
                try with_reducible rfl
              try simp only [Act.put, List.setIfInBounds_toArray, List.set_cons_zero, List.set_cons_succ, List.getElem_toArray, List.getElem_cons_zero, List.getElem_cons_succ]
              refine wpAnyH_take (i := 7) (v := ?vh7) rfl (by kernel_rfl) (by kernel_rfl) (by kernel_rfl) (fun _ _ _ h => h) (Or.inl ⟨by rfl, ?hyh7⟩) (by assumption) ?_
              case hyh7 =>
                intro w hSw
                (try dsimp only at hSw)
                go_simp
                try with_reducible rfl
              try simp only [Act.put, List.setIfInBounds_toArray, List.set_cons_zero, List.set_cons_succ, List.getElem_toArray, List.getElem_cons_zero, List.getElem_cons_succ]
              refine wpAnyH_take (i := 8) (v := ?vh8) rfl (by kernel_rfl) (by kernel_rfl) (by kernel_rfl) (fun _ _ _ h => h) (Or.inl ⟨by rfl, ?hyh8⟩) (by assumption) ?_
              case hyh8 =>
                intro w hSw
                (try dsimp only at hSw)
                go_simp
                try with_reducible rfl
              try simp only [Act.put, List.setIfInBounds_toArray, List.set_cons_zero, List.set_cons_succ, List.getElem_toArray, List.getElem_cons_zero, List.getElem_cons_succ]
              refine wpAnyH_take (i := 9) (v := ?vh9) rfl (by kernel_rfl) (by kernel_rfl) (by kernel_rfl) (fun _ _ _ h => h) (Or.inl ⟨by rfl, ?hyh9⟩) (by assumption) ?_
              case hyh9 =>
                intro w hSw
                (try dsimp only at hSw)
                go_simp
                try with_reducible rfl
              try simp only [Act.put, List.setIfInBounds_toArray, List.set_cons_zero, List.set_cons_succ, List.getElem_toArray, List.getElem_cons_zero, List.getElem_cons_succ]
              refine wpAnyH_take (i := 10) (v := ?vh10) rfl (by kernel_rfl) (by kernel_rfl) (by kernel_rfl) (fun _ _ _ h => h) (Or.inl ⟨by rfl, ?hyh10⟩) (by assumption) ?_
              case hyh10 =>
                intro w hSw
                (try dsimp only at hSw)
                go_simp
                try with_reducible rfl
              try simp only [Act.put, List.setIfInBounds_toArray, List.set_cons_zero, List.set_cons_succ, List.getElem_toArray, List.getElem_cons_zero, List.getElem_cons_succ]
              refine wpAnyH_take (i := 11) (v := ?vh11) rfl (by kernel_rfl) (by kernel_rfl) (by kernel_rfl) (fun _ _ _ h => h) (Or.inl ⟨by rfl, ?hyh11⟩) (by assumption) ?_
              case hyh11 =>
                intro w hSw
                (try dsimp only at hSw)
                go_simp
                try with_reducible rfl
              try simp only [Act.put, List.setIfInBounds_toArray, List.set_cons_zero, List.set_cons_succ, List.getElem_toArray, List.getElem_cons_zero, List.getElem_cons_succ]
              refine wpAnyH_take (i := 12) (v := ?vh12) rfl (by kernel_rfl) (by kernel_rfl) (by kernel_rfl) (fun _ _ _ h => h) (Or.inl ⟨by rfl, ?hyh12⟩) (by assumption) ?_
              case hyh12 =>
                intro w hSw
                (try dsimp only at hSw)
                go_simp
                try with_reducible rfl
              try simp only [Act.put, List.setIfInBounds_toArray, List.set_cons_zero, List.set_cons_succ, List.getElem_toArray, List.getElem_cons_zero, List.getElem_cons_succ]
              refine wpAnyH_take (i := 13) (v := ?vh13) rfl (by kernel_rfl) (by kernel_rfl) (by kernel_rfl) (fun _ _ _ h => h) (Or.inl ⟨by rfl, ?hyh13⟩) (by assumption) ?_
              case hyh13 =>
                intro w hSw
                (try dsimp only at hSw)
                go_simp
                try with_reducible rfl
              try simp only [Act.put, List.setIfInBounds_toArray, List.set_cons_zero, List.set_cons_succ, List.getElem_toArray, List.getElem_cons_zero, List.getElem_cons_succ]
              refine wpAnyH_take (i := 14) (v := ?vh14) rfl (by kernel_rfl) (by kernel_rfl) (by kernel_rfl) (fun _ _ _ h => h) (Or.inl ⟨by rfl, ?hyh14⟩) (by assumption) ?_
              case hyh14 =>
                intro w hSw
                (try dsimp only at hSw)
                go_simp
                try with_reducible rfl
              try simp only [Act.put, List.setIfInBounds_toArray, List.set_cons_zero, List.set_cons_succ, List.getElem_toArray, List.getElem_cons_zero, List.getElem_cons_succ]
              refine wpAnyH_take (i := 15) (v := ?vh15) rfl (by kernel_rfl) (by kernel_rfl) (by kernel_rfl) (fun _ _ _ h => h) (Or.inl ⟨by rfl, ?hyh15⟩) (by assumption) ?_
              case hyh15 =>
                intro w hSw
                (try dsimp only at hSw)
                go_simp
                try with_reducible rfl
              try simp only [Act.put, List.setIfInBounds_toArray, List.set_cons_zero, List.set_cons_succ, List.getElem_toArray, List.getElem_cons_zero, List.getElem_cons_succ]
              refine wpAnyH_take (i := 16) (v := ?vh16) rfl (by kernel_rfl) (by kernel_rfl) (by kernel_rfl) (fun _ _ _ h => h) (Or.inl ⟨by rfl, ?hyh16⟩) (by assumption) ?_
              case hyh16 =>
                intro w hSw
                (try dsimp only at hSw)
                go_simp
                try with_reducible rfl
              try simp only [Act.put, List.setIfInBounds_toArray, List.set_cons_zero, List.set_cons_succ, List.getElem_toArray, List.getElem_cons_zero, List.getElem_cons_succ]
              refine wpAnyH_take (i := 17) (v := ?vh17) rfl (by kernel_rfl) (by kernel_rfl) (by kernel_rfl) (fun _ _ _ h => h) (Or.inl ⟨by rfl, ?hyh17⟩) (by assumption) ?_
              case hyh17 =>
                intro w hSw
                (try dsimp only at hSw)
                go_simp
                try with_reducible rfl
              try simp only [Act.put, List.setIfInBounds_toArray, List.set_cons_zero, List.set_cons_succ, List.getElem_toArray, List.getElem_cons_zero, List.getElem_cons_succ]
              refine wpAnyH_take (i := 18) (v := ?vh18) rfl (by kernel_rfl) (by kernel_rfl) (by kernel_rfl) (fun _ _ _ h => h) (Or.inl ⟨by rfl, ?hyh18⟩) (by assumption) ?_
              case hyh18 =>
                intro w hSw
                (try dsimp only at hSw)
                go_simp
                try with_reducible rfl
              try simp only [Act.put, List.setIfInBounds_toArray, List.set_cons_zero, List.set_cons_succ, List.getElem_toArray, List.getElem_cons_zero, List.getElem_cons_succ]
              refine wpAnyH_take (i := 19) (v := ?vh19) rfl (by kernel_rfl) (by kernel_rfl) (by kernel_rfl) (fun _ _ _ h => h) (Or.inl ⟨by rfl, ?hyh19⟩) (by assumption) ?_
              case hyh19 =>
                intro w hSw
                (try dsimp only at hSw)
                go_simp
                try with_reducible rfl
              try simp only [Act.put, List.setIfInBounds_toArray, List.set_cons_zero, List.set_cons_succ, List.getElem_toArray, List.getElem_cons_zero, List.getElem_cons_succ]
              refine wpAnyH_take (i := 20) (v := ?vh20) rfl (by kernel_rfl) (by kernel_rfl) (by kernel_rfl) (fun _ _ _ h => h) (Or.inl ⟨by rfl, ?hyh20⟩) (by assumption) ?_
              case hyh20 =>
                intro w hSw
                (try dsimp only at hSw)
                go_simp
                try with_reducible rfl
              try simp only [Act.put, List.setIfInBounds_toArray, List.set_cons_zero, List.set_cons_succ, List.getElem_toArray, List.getElem_cons_zero, List.getElem_cons_succ]
              refine wpAnyH_take (i := 21) (v := ?vh21) rfl (by kernel_rfl) (by kernel_rfl) (by kernel_rfl) (fun _ _ _ h => h) (Or.inl ⟨by rfl, ?hyh21⟩) (by assumption) ?_
              case hyh21 =>
                intro w hSw
                (try dsimp only at hSw)
                go_simp
                try with_reducible rfl
              try simp only [Act.put, List.setIfInBounds_toArray, List.set_cons_zero, List.set_cons_succ, List.getElem_toArray, List.getElem_cons_zero, List.getElem_cons_succ]
              refine wpAnyH_take (i := 22) (v := ?vh22) rfl (by kernel_rfl) (by kernel_rfl) (by kernel_rfl) (fun _ _ _ h => h) (Or.inl ⟨by rfl, ?hyh22⟩) (by assumption) ?_
              case hyh22 =>
                intro w hSw
                (try dsimp only at hSw)
                go_simp
                try with_reducible rfl
              try simp only [Act.put, List.setIfInBounds_toArray, List.set_cons_zero, List.set_cons_succ, List.getElem_toArray, List.getElem_cons_zero, List.getElem_cons_succ]
              refine wpAnyH_take (i := 23) (v := ?vh23) rfl (by kernel_rfl) (by kernel_rfl) (by kernel_rfl) (fun _ _ _ h => h) (Or.inl ⟨by rfl, ?hyh23⟩) (by assumption) ?_
              case hyh23 =>
                intro w hSw
                (try dsimp only at hSw)
                go_simp
                try with_reducible rfl
              try simp only [Act.put, List.setIfInBounds_toArray, List.set_cons_zero, List.set_cons_succ, List.getElem_toArray, List.getElem_cons_zero, List.getElem_cons_succ]
              refine wpAnyH_take (i := 24) (v := ?vh24) rfl (by kernel_rfl) (by kernel_rfl) (by kernel_rfl) (fun _ _ _ h => h) (Or.inl ⟨by rfl, ?hyh24⟩) (by assumption) ?_
              case hyh24 =>
                intro w hSw
                (try dsimp only at hSw)
                go_simp
                try with_reducible rfl
              try simp only [Act.put, List.setIfInBounds_toArray, List.set_cons_zero, List.set_cons_succ, List.getElem_toArray, List.getElem_cons_zero, List.getElem_cons_succ]
              refine wpAnyH_take (i := 25) (v := ?vh25) rfl (by kernel_rfl) (by kernel_rfl) (by kernel_rfl) (fun _ _ _ h => h) (Or.inl ⟨by rfl, ?hyh25⟩) (by assumption) ?_
              case hyh25 =>
                intro w hSw
                (try dsimp only at hSw)
                go_simp
                try with_reducible rfl
              try simp only [Act.put, List.setIfInBounds_toArray, List.set_cons_zero, List.set_cons_succ, List.getElem_toArray, List.getElem_cons_zero, List.getElem_cons_succ]
              refine wpAnyH_take (i := 26) (v := ?vh26) rfl (by kernel_rfl) (by kernel_rfl) (by kernel_rfl) (fun _ _ _ h => h) (Or.inl ⟨by rfl, ?hyh26⟩) (by assumption) ?_
              case hyh26 =>
                intro w hSw
                (try dsimp only at hSw)
                go_simp
                try with_reducible rfl
              try simp only [Act.put, List.setIfInBounds_toArray, List.set_cons_zero, List.set_cons_succ, List.getElem_toArray, List.getElem_cons_zero, List.getElem_cons_succ]
              refine wpAnyH_take (i := 27) (v := ?vh27) rfl (by kernel_rfl) (by kernel_rfl) (by kernel_rfl) (fun _ _ _ h => h) (Or.inl ⟨by rfl, ?hyh27⟩) (by assumption) ?_
              case hyh27 =>
                intro w hSw
                (try dsimp only at hSw)
                go_simp
                try with_reducible rfl
              try simp only [Act.put, List.setIfInBounds_toArray, List.set_cons_zero, List.set_cons_succ, List.getElem_toArray, List.getElem_cons_zero, List.getElem_cons_succ]
              refine wpAnyH_take (i := 28) (v := ?vh28) rfl (by kernel_rfl) (by kernel_rfl) (by kernel_rfl) (fun _ _ _ h => h) (Or.inl ⟨by rfl, ?hyh28⟩) (by assumption) ?_
              case hyh28 =>
                intro w hSw
                (try dsimp only at hSw)
                go_simp
                try with_reducible rfl
              try simp only [Act.put, List.setIfInBounds_toArray, List.set_cons_zero, List.set_cons_succ, List.getElem_toArray, List.getElem_cons_zero, List.getElem_cons_succ]
              refine wpAnyH_take (i := 29) (v := ?vh29) rfl (by kernel_rfl) (by kernel_rfl) (by kernel_rfl) (fun _ _ _ h => h) (Or.inl ⟨by rfl, ?hyh29⟩) (by assumption) ?_
              case hyh29 =>
                intro w hSw
                (try dsimp only at hSw)
                go_simp
                try with_reducible rfl
              try simp only [Act.put, List.setIfInBounds_toArray, List.set_cons_zero, List.set_cons_succ, List.getElem_toArray, List.getElem_cons_zero, List.getElem_cons_succ]
              refine wpAnyH_take (i := 30) (v := ?vh30) rfl (by kernel_rfl) (by kernel_rfl) (by kernel_rfl) (fun _ _ _ h => h) (Or.inl ⟨by rfl, ?hyh30⟩) (by assumption) ?_
              case hyh30 =>
                intro w hSw
                (try dsimp only at hSw)
                go_simp
                try with_reducible rfl
              try simp only [Act.put, List.setIfInBounds_toArray, List.set_cons_zero, List.set_cons_succ, List.getElem_toArray, List.getElem_cons_zero, List.getElem_cons_succ]
              refine wpAnyH_done (by kernel_rfl) ?_ _
              have c6 := HKu.out.cell q6 (by simp)
              have k6 := HKu.out.cell g0 (by simp)
              have f6 : u0.frozen? ⟨G, cc, none⟩ = false := frozen_of ((HKu.out.block _ (lt_of_heap HG.out) (by simp)).trans HG.out) _
              have HGn : Hid ((u0.setCell ⟨G, cc, none⟩ (.int .i64 num)).heap[G]? = some (.cells ((ls.set cc num).map (Value.int .i64)).toArray 3 (0, 0)) ∧ Kept [G] WG (u0.setCell ⟨G, cc, none⟩ (.int .i64 num))) := by
                refine ⟨?_, ?_⟩
                · rw [block_set ((HKu.out.block _ (lt_of_heap HG.out) (by simp)).trans HG.out), List.map_set]; simp
                · exact (HL.out.2.2.1.trans HKu.out (by simp)).setCell (Or.inl (by simp)) _
              clear q6 g0 hHeld
              go_wp2_with fail
              go_roundw
              case rel => exact ⟨i + 1, ls.set cc num, by go_num, by omega, by simpa using HL.out.1, HGn.out.1, HGn.out.2, HNew.out⟩
              case measure => simp [intOf]; omega
          · have j1 : ¬ (i : Int) < (n : Int) := by omega
            go_wp2_with fail
            go_ret
            exact ⟨rfl, HKw.out.1.trans HL.out.2.2.1 (fun x hx => Or.inr (by rw [show x = G by simpa using hx]; exact HKw.out.2))⟩

end Go.Proofs.Ytlecpeofjabndaa
