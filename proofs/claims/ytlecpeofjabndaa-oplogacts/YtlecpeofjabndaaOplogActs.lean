/-
  OplogActs returns true for every number of cores and every slice of acts: logs under any calls (Add, Drop, Merge) answer as the document's, stamps, records and codes, and share no memory with what they told.
-/
import Derived.Test.YtlecpeofjabndaaRows
import Derived.Test.YtlecpeofjabndaaOi
import Derived.WalkKit
import Derived.ProofKit
import Derived.OpenShut
import Derived.ShutString
import Derived.ChangeOld
import Derived.Below
import Derived.Deep.Slices
import Derived.Deep.CutRange
import Derived.Deep.CutBlock
import Derived.BigQuiet
import Derived.SizedLaws
namespace Go.Proofs.Ytlecpeofjabndaa.oplogActs
open Go.ChangeShapes Go.WideShapes Go.ChangeAt Go.RowKit
open Go.ChangeMaps (open_string shut_string)
set_option linter.unusedVariables false

theorem own : ownKnob Try.prog.godebug = none := by kernel_rfl
theorem laidOut : laidOutB Try.prog = true := by kernel_rfl

set_option linter.unusedSimpArgs false
set_option maxRecDepth 100000 in
set_option maxHeartbeats 16000000 in
theorem main (z : Int) (a0 : Option Addr) (len0 cap0 : Nat) (w : World) (ha : IsActs w a0 len0) :
    Calls Try.prog 3 #[.int .i64 z, .slice a0 len0 cap0] w fun e w' => e = .returned (.bool true) ∧ Kept [] w w' := by
  by_cases hz : z < 1 ∨ 8 < z
  · clear ha
    go_enter Try.func3, Try.ntmps3
    go_wp2_with fail
    refine (p_new_bad z hz w).mono ?_
    rintro e w1 ⟨rfl, hw⟩
    have hw2 := hw.symm
    subst hw2
    clear hw
    go_wp2_with fail
    refine (r_new_bad z hz w).mono ?_
    rintro e w1 ⟨rfl, hw⟩
    have hw2 := hw.symm
    subst hw2
    clear hw
    go_wp2_with fail
    refine (num 1700 _).mono ?_
    rintro e wn ⟨rfl, hwn⟩
    have hwn2 := hwn.symm
    subst hwn2
    clear hwn
    go_wp2_with fail
    refine (awake_any w).mono ?_
    rintro e w1 ⟨rfl, hk⟩
    have HK : Hid (_) := hk
    clear hk
    go_wp2_with fail
    go_ret
    exact ⟨rfl, HK.out⟩
  obtain ⟨n, rfl⟩ : ∃ n : Nat, z = (n : Int) := ⟨z.toNat, by omega⟩
  have hn1 : 1 ≤ n := by omega
  have hn8 : n ≤ 8 := by omega
  have HA : Hid (IsActs w a0 len0) := ha
  have hl63 : len0 ≤ 9223372036854775807 := ha.1
  clear ha hz
  go_enter Try.func3, Try.ntmps3
  go_wp2_with fail
  refine (p_new n hn1 hn8 w).mono ?_
  rintro e w1 ⟨p, g, rfl, hlo, k1⟩
  have HL1 : Hid (Lo w.heap.size w1 p g (freshC n n)) := hlo
  have HK1 : Hid (Kept [] w w1) := k1
  clear hlo k1
  go_wp2_with fail
  refine (r_new n hn1 hn8 w1).mono ?_
  rintro e w2 ⟨q, gc, gl, rfl, hre, k2⟩
  have HJ2 : Hid (Jn w.heap.size w2 p g q gc gl (freshC n n) (freshC n n)) := Jn.fresh (HL1.out.kept0 k2) (hre.low HK1.out.size) (fun x hx hm => by
    have h1 := (HL1.out.lt x hx).2
    have h2 := (hre.lt x hm).1
    omega)
  have HK2 : Hid (Kept [] w w2) := HK1.out.trans k2 (by simp)
  clear hre k2 HL1 HK1
  go_wp2_with fail
  refine (num 0 _).mono ?_
  rintro e wn ⟨rfl, hwn⟩
  have hwn2 := hwn.symm
  subst hwn2
  clear hwn
  go_wp2_with fail
  go_loopw [9] (fun ix w9 => ∃ i : Nat, ix = .int .i64 (i : Int) ∧ i ≤ len0 ∧ i ≤ 200 ∧ Hid (∃ C D, Jn w.heap.size w9 p g q gc gl C D ∧ C.length = n ∧ Kept [] w w9)) (fun ix _ => (200 - intOf ix).toNat)
  case atStart => exact ⟨0, rfl, by omega, by omega, _, _, HJ2.out, freshC_length n n, HK2.out⟩
  case round =>
    clear HJ2 HK2
    obtain ⟨i, rfl, hi1, hi2, HI⟩ := hrel
    obtain ⟨C, D, hJ, hCn, hKw⟩ := HI.out
    have HJ : Hid (Jn w.heap.size wr p g q gc gl C D) := hJ
    have HCn : Hid (C.length = n) := hCn
    have HKw : Hid (Kept [] w wr) := hKw
    clear hJ hCn hKw HI
    by_cases hlt : i < len0 ∧ i < 200
    · obtain ⟨hlt, hlt2⟩ := hlt
      have i1 : (0 : Int) ≤ (i : Int) := by omega
      have i2 : (i : Int) < (len0 : Int) := by omega
      have i3 : (i : Int) < 200 := by omega
      obtain ⟨A, hA⟩ := HA.out.2
      obtain ⟨B, ofs, rfl, hsm, hcs⟩ := hA i hlt
      obtain ⟨x, hx⟩ : ∃ x, A i = x := ⟨_, rfl⟩
      rw [hx] at hsm hcs
      obtain ⟨kd, kind, core, fd, off, nm, p1, p2, dat, sa, sk⟩ := x
      have HSm : Hid (p1.size ≤ 140737488351232 ∧ p2.size ≤ 140737488351232 ∧ dat.size ≤ 140737488351232) := hsm
      have c0 : wr.cell? ⟨B, ofs + i * 11, none⟩ = some (.int .i64 kd) := HKw.out.cell (by have := hcs 0 _ rfl; simpa [Nat.add_assoc] using this) (by simp)
      have c1 : wr.cell? ⟨B, ofs + i * 11 + 1, none⟩ = some (.int .i64 kind) := HKw.out.cell (by have := hcs 1 _ rfl; simpa [Nat.add_assoc] using this) (by simp)
      have c2 : wr.cell? ⟨B, ofs + i * 11 + 2, none⟩ = some (.int .i64 core) := HKw.out.cell (by have := hcs 2 _ rfl; simpa [Nat.add_assoc] using this) (by simp)
      have c3 : wr.cell? ⟨B, ofs + i * 11 + 3, none⟩ = some (.int .i64 fd) := HKw.out.cell (by have := hcs 3 _ rfl; simpa [Nat.add_assoc] using this) (by simp)
      have c4 : wr.cell? ⟨B, ofs + i * 11 + 4, none⟩ = some (.int .i64 off) := HKw.out.cell (by have := hcs 4 _ rfl; simpa [Nat.add_assoc] using this) (by simp)
      have c5 : wr.cell? ⟨B, ofs + i * 11 + 5, none⟩ = some (.int .i64 nm) := HKw.out.cell (by have := hcs 5 _ rfl; simpa [Nat.add_assoc] using this) (by simp)
      have c6 : wr.cell? ⟨B, ofs + i * 11 + 6, none⟩ = some (.string p1) := HKw.out.cell (by have := hcs 6 _ rfl; simpa [Nat.add_assoc] using this) (by simp)
      have c7 : wr.cell? ⟨B, ofs + i * 11 + 7, none⟩ = some (.string p2) := HKw.out.cell (by have := hcs 7 _ rfl; simpa [Nat.add_assoc] using this) (by simp)
      have c8 : wr.cell? ⟨B, ofs + i * 11 + 8, none⟩ = some (.string dat) := HKw.out.cell (by have := hcs 8 _ rfl; simpa [Nat.add_assoc] using this) (by simp)
      have c9 : wr.cell? ⟨B, ofs + i * 11 + 9, none⟩ = some (.int .i64 sa) := HKw.out.cell (by have := hcs 9 _ rfl; simpa [Nat.add_assoc] using this) (by simp)
      have c10 : wr.cell? ⟨B, ofs + i * 11 + 10, none⟩ = some (.int .i64 sk) := HKw.out.cell (by have := hcs 10 _ rfl; simpa [Nat.add_assoc] using this) (by simp)
      obtain ⟨W0, X, HW0, HKX, HX0⟩ := box1 wr #[.int .i64 kd, .int .i64 kind, .int .i64 core, .int .i64 fd, .int .i64 off, .int .i64 nm, .string p1, .string p2, .string dat, .int .i64 sa, .int .i64 sk] 37
      have HXw : Hid (wr.heap.size = X) := HW0.out.2
      clear hA hx hcs hsm HA
      go_upto_region 13 with fail
      rw [HW0.out.1, HW0.out.2]
      clear HW0 c0 c1 c2 c3 c4 c5 c6 c7 c8 c9 c10
      have HJ0 : Hid (Jn w.heap.size W0 p g q gc gl C D) := HJ.out.kept0 HKX.out.1
      have HK0 : Hid (Kept [] w W0) := HKw.out.trans HKX.out.1 (by simp)
      have HXn : Hid (X ∉ bl p g C ∧ X ∉ rb q gc gl D) := HJ.out.new (by have := HXw.out; omega)
      by_cases k6 : kd < 6
      · have d6 : decide (kd < 6) = true := decide_eq_true k6
        as_aux_lemma =>
          obtain ⟨ra, rk, rc, hP⟩ := add_both HJ0.out (Nat.le_trans HK0.out.size (Nat.le_refl _)) kind core fd off nm p1 p2 dat sa sk HSm.out
          have x0 : W0.cell? ⟨X, 0, none⟩ = some (.int .i64 kd) := cellB HX0.out
          have x1 : W0.cell? ⟨X, 1, none⟩ = some (.int .i64 kind) := cellB HX0.out
          have x2 : W0.cell? ⟨X, 2, none⟩ = some (.int .i64 core) := cellB HX0.out
          have x3 : W0.cell? ⟨X, 3, none⟩ = some (.int .i64 fd) := cellB HX0.out
          have x4 : W0.cell? ⟨X, 4, none⟩ = some (.int .i64 off) := cellB HX0.out
          have x5 : W0.cell? ⟨X, 5, none⟩ = some (.int .i64 nm) := cellB HX0.out
          have x6 : W0.cell? ⟨X, 6, none⟩ = some (.string p1) := cellB HX0.out
          have x7 : W0.cell? ⟨X, 7, none⟩ = some (.string p2) := cellB HX0.out
          have x8 : W0.cell? ⟨X, 8, none⟩ = some (.string dat) := cellB HX0.out
          have x9 : W0.cell? ⟨X, 9, none⟩ = some (.int .i64 sa) := cellB HX0.out
          have x10 : W0.cell? ⟨X, 10, none⟩ = some (.int .i64 sk) := cellB HX0.out
          go_wp2_with fail
          refine hP.mono ?_
          rintro e w1 ⟨rfl, k1, hQ⟩
          have HQ : Hid (_) := hQ
          have HK1 : Hid (Kept (bl p g C) W0 w1) := k1
          clear hP k1 hQ x0 x1 x2 x3 x4 x5 x6 x7 x8 x9 x10
          have HX1 : Hid (_) := (HK1.out.block X (lt_of_heap HX0.out) HXn.out.1).trans HX0.out
          obtain ⟨W1, Y1, HW1, HKY1, HBY1⟩ := box1 w1 #[.int .i64 ra, .int .i64 rk] 35
          have HX2 : Hid (_) := (HKY1.out.1.block X (lt_of_heap HX1.out) (by simp)).trans HX1.out
          go_upto_region 15 with fail
          rw [HW1.out.1, HW1.out.2]
          have HY1w : Hid (w1.heap.size = Y1) := HW1.out.2
          clear HW1
          have x1 : W1.cell? ⟨X, 1, none⟩ = some (.int .i64 kind) := cellB HX2.out
          have x2 : W1.cell? ⟨X, 2, none⟩ = some (.int .i64 core) := cellB HX2.out
          have x3 : W1.cell? ⟨X, 3, none⟩ = some (.int .i64 fd) := cellB HX2.out
          have x4 : W1.cell? ⟨X, 4, none⟩ = some (.int .i64 off) := cellB HX2.out
          have x5 : W1.cell? ⟨X, 5, none⟩ = some (.int .i64 nm) := cellB HX2.out
          have x6 : W1.cell? ⟨X, 6, none⟩ = some (.string p1) := cellB HX2.out
          have x7 : W1.cell? ⟨X, 7, none⟩ = some (.string p2) := cellB HX2.out
          have x8 : W1.cell? ⟨X, 8, none⟩ = some (.string dat) := cellB HX2.out
          have x9 : W1.cell? ⟨X, 9, none⟩ = some (.int .i64 sa) := cellB HX2.out
          have x10 : W1.cell? ⟨X, 10, none⟩ = some (.int .i64 sk) := cellB HX2.out
          go_wp2_with fail
          refine (HQ.out W1 HKY1.out.1).mono ?_
          rintro e w3 ⟨rfl, k3, C2, D2, hJ3, hC2⟩
          have HJ3 : Hid (Jn w.heap.size w3 p g q gc gl C2 D2 ∧ C2.length = n) := ⟨hJ3, hC2.trans HCn.out⟩
          have HK3 : Hid (Kept (rb q gc gl D) W1 w3) := k3
          clear k3 hJ3 hC2 HQ x1 x2 x3 x4 x5 x6 x7 x8 x9 x10
          have HY3 : Hid (w3.heap[Y1]? = some (.cells #[.int .i64 ra, .int .i64 rk] 35 (0, 0))) := by
            refine (HK3.out.block Y1 (lt_of_heap HBY1.out) (fun hm => ?_)).trans HBY1.out
            have h1 := (HJ0.out.re.lt Y1 hm).2
            have h2 := HK1.out.size
            have h3 := HY1w.out
            omega
          have HKw3 : Hid (Kept [] w w3) := by
            have e1 : ∀ x ∈ bl p g C, w.heap.size ≤ x := fun x hx => (HJ0.out.lo.lt x hx).1
            have e2 : ∀ x ∈ rb q gc gl D, w.heap.size ≤ x := fun x hx => (HJ0.out.re.lt x hx).1
            exact ((HK0.out.trans HK1.out (fun x hx => Or.inr (e1 x hx))).trans HKY1.out.1 (by simp)).trans HK3.out (fun x hx => Or.inr (e2 x hx))
          obtain ⟨W3, Y3, HW3, HKY3, HBY3⟩ := box1 w3 #[.int .i64 ra, .int .i64 rk] 35
          go_upto_region 16 with fail
          rw [HW3.out.1, HW3.out.2]
          clear HW3
          have HY4 : Hid (_) := (HKY3.out.1.block Y1 (lt_of_heap HY3.out) (by simp)).trans HY3.out
          have y0 : W3.cell? ⟨Y1, 0, none⟩ = some (.int .i64 ra) := cellB HY4.out
          have y1 : W3.cell? ⟨Y1, 1, none⟩ = some (.int .i64 rk) := cellB HY4.out
          have y2 : W3.cell? ⟨Y3, 0, none⟩ = some (.int .i64 ra) := cellB HBY3.out
          have y3 : W3.cell? ⟨Y3, 1, none⟩ = some (.int .i64 rk) := cellB HBY3.out
          have hne : ∀ w, (binOp .neq 35 (.agg #[.int .i64 ra, .int .i64 rk]) (.agg #[.int .i64 ra, .int .i64 rk])).run Try.prog w = .ok (.bool false) w := fun w => by
            have := neq_st ra rk ra rk w
            simpa using this
          go_wp2_with fail
          refine (num rc _).mono ?_
          rintro e wn ⟨rfl, hwn⟩
          have hwn2 := hwn.symm
          subst hwn2
          clear hwn
          clear y0 y1 y2 y3 hne
          go_wp2_with fail
          go_roundw
          case rel => exact ⟨i + 1, by go_num, by omega, by omega, C2, D2, HJ3.out.1.kept0 HKY3.out.1, HJ3.out.2, HKw3.out.trans HKY3.out.1 (by simp)⟩
          case measure => simp [intOf]; omega
      by_cases k7 : kd = 6
      · subst k7
        as_aux_lemma =>
          have x0 : W0.cell? ⟨X, 0, none⟩ = some (.int .i64 6) := cellB HX0.out
          go_upto_region 19 with fail
          refine wp_region_held_drew (S := fun w' => w'.cell? ⟨X, 9, none⟩ = some (.int .i64 sa) ∧ w'.cell? ⟨X, 10, none⟩ = some (.int .i64 sk)) (by kernel_rfl) ?_ (fun hHeld => ?_)
          · exact ⟨cellB HX0.out, cellB HX0.out⟩
          obtain ⟨u0, hu0⟩ : ∃ u, W0.drew = u := ⟨_, rfl⟩
          have HKu : Hid (Kept [] W0 u0) := by rw [← hu0]; exact (Kept.refl [] W0).drew
          rw [hu0] at hHeld ⊢
          clear hu0
          have HJu : Hid (Jn w.heap.size u0 p g q gc gl C D) := HJ0.out.kept0 HKu.out
          have HXu : Hid (_) := (HKu.out.block X (lt_of_heap HX0.out) (by simp)).trans HX0.out
          obtain ⟨m, hP⟩ := drop_both HJu.out (Nat.le_trans HK0.out.size HKu.out.size) sa sk
          refine wpAnyH_take (i := 0) (v := ?vd0) rfl (by kernel_rfl) (by kernel_rfl) (by kernel_rfl) (fun _ _ _ h => h) (Or.inl ⟨by rfl, ?hyd0⟩) (by assumption) ?_
          case hyd0 =>
            intro w hSw
            (try dsimp only at hSw)
            go_simp
            try with_reducible rfl
          try simp only [Act.put, List.setIfInBounds_toArray, List.set_cons_zero, List.set_cons_succ, List.getElem_toArray, List.getElem_cons_zero, List.getElem_cons_succ]
          refine wpAnyH_take (i := 1) (v := ?vd1) rfl (by kernel_rfl) (by kernel_rfl) (by kernel_rfl) (fun _ _ _ h => h) (Or.inl ⟨by rfl, ?hyd1⟩) (by assumption) ?_
          case hyd1 =>
            intro w hSw
            (try dsimp only at hSw)
            go_simp
            try with_reducible rfl
          try simp only [Act.put, List.setIfInBounds_toArray, List.set_cons_zero, List.set_cons_succ, List.getElem_toArray, List.getElem_cons_zero, List.getElem_cons_succ]
          refine wpAnyH_take (i := 2) (v := ?vd2) rfl (by kernel_rfl) (by kernel_rfl) (by kernel_rfl) (fun _ _ _ h => h) (Or.inl ⟨by rfl, ?hyd2⟩) (by assumption) ?_
          case hyd2 =>
            intro w hSw
            (try dsimp only at hSw)
            go_simp
            try with_reducible rfl
          try simp only [Act.put, List.setIfInBounds_toArray, List.set_cons_zero, List.set_cons_succ, List.getElem_toArray, List.getElem_cons_zero, List.getElem_cons_succ]
          refine wpAnyH_take (i := 4) (v := ?vd4) rfl (by kernel_rfl) (by kernel_rfl) (by kernel_rfl) (fun _ _ _ h => h) (Or.inl ⟨by rfl, ?hyd4⟩) (by assumption) ?_
          case hyd4 =>
            intro w hSw
            (try dsimp only at hSw)
            go_simp
            try with_reducible rfl
          try simp only [Act.put, List.setIfInBounds_toArray, List.set_cons_zero, List.set_cons_succ, List.getElem_toArray, List.getElem_cons_zero, List.getElem_cons_succ]
          refine wpAnyH_take (i := 5) (v := ?vd5) rfl (by kernel_rfl) (by kernel_rfl) (by kernel_rfl) (fun _ _ _ h => h) (Or.inl ⟨by rfl, ?hyd5⟩) (by assumption) ?_
          case hyd5 =>
            intro w hSw
            (try dsimp only at hSw)
            go_simp
            try with_reducible rfl
          try simp only [Act.put, List.setIfInBounds_toArray, List.set_cons_zero, List.set_cons_succ, List.getElem_toArray, List.getElem_cons_zero, List.getElem_cons_succ]
          refine wpAnyH_take (i := 6) (v := ?vd6) rfl (by kernel_rfl) (by kernel_rfl) (by kernel_rfl) (fun _ _ _ h => h) (Or.inl ⟨by rfl, ?hyd6⟩) (by assumption) ?_
          case hyd6 =>
            intro w hSw
            (try dsimp only at hSw)
            go_simp
            try with_reducible rfl
          try simp only [Act.put, List.setIfInBounds_toArray, List.set_cons_zero, List.set_cons_succ, List.getElem_toArray, List.getElem_cons_zero, List.getElem_cons_succ]
          refine wpAnyH_ready (rs := [3]) (by kernel_rfl) (by simp) ?_
          refine AllReadyH.cons rfl (fun K hK => ?_) AllReadyH.nil
          go_simp
          refine hP.mono ?_
          rintro e w1 ⟨rfl, k1, hQ⟩
          have HQ : Hid (_) := hQ
          have HK1 : Hid (Kept (bl p g C) u0 w1) := k1
          have HX1 : Hid (_) := (k1.block X (lt_of_heap HXu.out) HXn.out.1).trans HXu.out
          clear k1 hQ
          go_wp2_with fail
          refine hK.out _ _ ?_ (fun hHeld => ?_)
          · exact ⟨cellB HX1.out, cellB HX1.out⟩
          clear hK K
          try simp only [Act.put, List.setIfInBounds_toArray, List.set_cons_zero, List.set_cons_succ, List.getElem_toArray, List.getElem_cons_zero, List.getElem_cons_succ]
          refine wpAnyH_ready (rs := [7]) (by kernel_rfl) (by simp) ?_
          refine AllReadyH.cons rfl (fun K hK => ?_) AllReadyH.nil
          go_simp
          refine (HQ.out w1 (Kept.refl _ _)).mono ?_
          rintro e w3 ⟨rfl, k3, C2, D2, hJ3, hC2⟩
          have HJ3 : Hid (Jn w.heap.size w3 p g q gc gl C2 D2 ∧ C2.length = n) := ⟨hJ3, hC2.trans HCn.out⟩
          have HK3 : Hid (Kept (rb q gc gl D) w1 w3) := k3
          have HX3 : Hid (_) := (k3.block X (lt_of_heap HX1.out) HXn.out.2).trans HX1.out
          clear k3 hJ3 hC2
          go_wp2_with fail
          refine hK.out _ _ ?_ (fun hHeld => ?_)
          · exact ⟨cellB HX3.out, cellB HX3.out⟩
          clear hK K
          try simp only [Act.put, List.setIfInBounds_toArray, List.set_cons_zero, List.set_cons_succ, List.getElem_toArray, List.getElem_cons_zero, List.getElem_cons_succ]
          refine wpAnyH_take (i := 8) (v := ?vd8) rfl (by kernel_rfl) (by kernel_rfl) (by kernel_rfl) (fun _ _ _ h => h) (Or.inl ⟨by rfl, ?hyd8⟩) (by assumption) ?_
          case hyd8 =>
            intro w hSw
            (try dsimp only at hSw)
            go_simp
            try with_reducible rfl
          try simp only [Act.put, List.setIfInBounds_toArray, List.set_cons_zero, List.set_cons_succ, List.getElem_toArray, List.getElem_cons_zero, List.getElem_cons_succ]
          refine wpAnyH_done (by kernel_rfl) ?_ _
          have HKw3 : Hid (Kept [] w w3) := by
            have e1 : ∀ x ∈ bl p g C, w.heap.size ≤ x := fun x hx => (HJ0.out.lo.lt x hx).1
            have e2 : ∀ x ∈ rb q gc gl D, w.heap.size ≤ x := fun x hx => (HJ0.out.re.lt x hx).1
            exact ((HK0.out.trans HKu.out (by simp)).trans HK1.out (fun x hx => Or.inr (e1 x hx))).trans HK3.out (fun x hx => Or.inr (e2 x hx))
          clear hHeld x0 hP
          go_wp2_with fail
          go_roundw
          case rel => exact ⟨i + 1, by go_num, by omega, by omega, C2, D2, HJ3.out.1, HJ3.out.2, HKw3.out⟩
          case measure => simp [intOf]; omega
      · have d6 : decide (kd < 6) = false := decide_eq_false k6
        have d7 : (kd == 6) = false := beq_eq_false_iff_ne.2 k7
        as_aux_lemma =>
          have x0 : W0.cell? ⟨X, 0, none⟩ = some (.int .i64 kd) := cellB HX0.out
          go_wp2_with fail
          refine (p_merged HJ0.out).mono ?_
          rintro e w3 ⟨rfl, k3⟩
          have HK3 : Hid (_) := k3
          clear k3 x0
          go_wp2_with fail
          go_roundw
          case rel => exact ⟨i + 1, by go_num, by omega, by omega, C, D, HJ0.out.kept0 HK3.out, HCn.out, HK0.out.trans HK3.out (by simp)⟩
          case measure => simp [intOf]; omega
    · have HJL : Hid (Jn w.heap.size wr p g q gc gl C D ∧ Kept [] w wr) := ⟨HJ.out, HKw.out⟩
      clear HJ HKw HA
      by_cases h1 : i < len0
      · have i2 : (i : Int) < (len0 : Int) := by omega
        have i3 : ¬ (i : Int) < 200 := by omega
        clear hlt hi1 hi2 h1
        go_wp2_with fail
        as_aux_lemma =>
          go_loopw [15] (fun cx w9 => ∃ c : Nat, cx = .int .i64 (c : Int) ∧ c ≤ n ∧ Hid (Jn w.heap.size w9 p g q gc gl C D ∧ Kept [] w w9)) (fun cx _ => (n - intOf cx).toNat)
          case atStart => exact ⟨0, rfl, by omega, HJL.out.1, HJL.out.2⟩
          case round =>
            clear HJL
            obtain ⟨c, rfl, hc, HI⟩ := hrel
            by_cases hcn : c < n
            · have j0 : (0 : Int) ≤ (c : Int) := by omega
              have j1 : (c : Int) < (n : Int) := by omega
              have hcC : c < C.length := by rw [HCn.out]; exact hcn
              have hcD : c < D.length := by rw [HI.out.1.len]; exact hcC
              go_wp2_with fail
              refine (p_core HI.out.1.lo hcC).mono ?_
              rintro e w1 ⟨v, rfl, hr, k1⟩
              have hsame := HI.out.1.same c hcC hcD
              obtain ⟨R, hR⟩ : ∃ R, (C[c]).R = R := ⟨_, rfl⟩
              obtain ⟨a, ha⟩ : ∃ a, (C[c]).a = a := ⟨_, rfl⟩
              obtain ⟨k, hk⟩ : ∃ k, (C[c]).k = k := ⟨_, rfl⟩
              obtain ⟨l, hl⟩ : ∃ l, R.length = l := ⟨_, rfl⟩
              rw [hR, ha, hk] at hsame
              rw [hR] at hr
              have HA : Hid ((C[c]).a = a ∧ (C[c]).k = k) := ⟨ha, hk⟩
              obtain ⟨av, cv, hv, -, -, -⟩ := hr.slice
              rw [hl] at hv
              subst hv
              have hlen := HI.out.1.lo.len c hcC
              rw [hR, hl] at hlen
              have HR1 : Hid (Rr w1 wr.heap.size (.slice av l cv) R ∧ R.length = l ∧ R.length ≤ 100000) := ⟨hr, hl, by omega⟩
              have HK1 : Hid (Kept [] wr w1) := k1
              have HJ1 : Hid (Jn w.heap.size w1 p g q gc gl C D) := HI.out.1.kept0 k1
              obtain ⟨bv, dv, hv2, hcl, hcm, -⟩ := (HJ1.out.re.each c hcD).slice
              rw [hsame.1, hl] at hv2
              have HR2 : Hid (Rr w1 w.heap.size (.slice bv l dv) R) := by have := HJ1.out.re.each c hcD; rw [hv2, hsame.1] at this; exact this
              have hDn : D.length = n := by rw [HJ1.out.len]; exact HCn.out
              have HS1 : Hid (w1.cell? ⟨q, 0, none⟩ = some (.slice (some ⟨gc, 0, none⟩) n n) ∧ w1.cell? ⟨gc, c, none⟩ = some (.slice bv l dv) ∧ w1.cell? ⟨q, 1, none⟩ = some (.slice (some ⟨gl, 0, none⟩) n n) ∧ w1.cell? ⟨gl, c * 2, none⟩ = some (.int .i64 a) ∧ w1.cell? ⟨gl, c * 2 + 1, none⟩ = some (.int .i64 k)) := by
                obtain ⟨y1, y2⟩ := HJ1.out.re.last hcD
                rw [hsame.2.1] at y1
                rw [hsame.2.2] at y2
                obtain ⟨y3, y4⟩ := HJ1.out.re.box
                rw [hDn] at y3 y4
                exact ⟨y3, by rw [← hv2]; exact HJ1.out.re.row hcD, y4, y1, y2⟩
              have hne : ∀ w, (binOp .neq 35 (.agg #[.int .i64 a, .int .i64 k]) (.agg #[.int .i64 a, .int .i64 k])).run Try.prog w = .ok (.bool false) w := fun w => by
                have := neq_st a k a k w
                simpa using this
              clear hr k1 hR ha hk hl hsame hv2 hcl hcm hDn
              go_upto_region 25 with fail
              refine wp_region_held_drew (S := fun w' => w'.cell? ⟨q, 0, none⟩ = some (.slice (some ⟨gc, 0, none⟩) n n) ∧ w'.cell? ⟨gc, c, none⟩ = some (.slice bv l dv) ∧ w'.cell? ⟨q, 1, none⟩ = some (.slice (some ⟨gl, 0, none⟩) n n) ∧ w'.cell? ⟨gl, c * 2, none⟩ = some (.int .i64 a) ∧ w'.cell? ⟨gl, c * 2 + 1, none⟩ = some (.int .i64 k)) (by kernel_rfl) ?_ (fun hHeld => ?_)
              · exact HS1.out
              obtain ⟨u0, hu0⟩ : ∃ u, w1.drew = u := ⟨_, rfl⟩
              have HKu : Hid (Kept [] w1 u0) := by rw [← hu0]; exact (Kept.refl [] w1).drew
              rw [hu0] at hHeld ⊢
              clear hu0
              refine wpAnyH_take (i := 0) (v := ?ve0) rfl (by kernel_rfl) (by kernel_rfl) (by kernel_rfl) (fun _ _ _ h => h) (Or.inl ⟨by rfl, ?hye0⟩) (by assumption) ?_
              case hye0 =>
                intro w hSw
                (try dsimp only at hSw)
                go_simp
                try with_reducible rfl
              try simp only [Act.put, List.setIfInBounds_toArray, List.set_cons_zero, List.set_cons_succ, List.getElem_toArray, List.getElem_cons_zero, List.getElem_cons_succ]
              refine wpAnyH_take (i := 1) (v := ?ve1) rfl (by kernel_rfl) (by kernel_rfl) (by kernel_rfl) (fun _ _ _ h => h) (Or.inl ⟨by rfl, ?hye1⟩) (by assumption) ?_
              case hye1 =>
                intro w hSw
                (try dsimp only at hSw)
                go_simp
                try with_reducible rfl
              try simp only [Act.put, List.setIfInBounds_toArray, List.set_cons_zero, List.set_cons_succ, List.getElem_toArray, List.getElem_cons_zero, List.getElem_cons_succ]
              refine wpAnyH_take (i := 2) (v := ?ve2) rfl (by kernel_rfl) (by kernel_rfl) (by kernel_rfl) (fun _ _ _ h => h) (Or.inl ⟨by rfl, ?hye2⟩) (by assumption) ?_
              case hye2 =>
                intro w hSw
                (try dsimp only at hSw)
                go_simp
                try with_reducible rfl
              try simp only [Act.put, List.setIfInBounds_toArray, List.set_cons_zero, List.set_cons_succ, List.getElem_toArray, List.getElem_cons_zero, List.getElem_cons_succ]
              refine wpAnyH_take (i := 3) (v := ?ve3) rfl (by kernel_rfl) (by kernel_rfl) (by kernel_rfl) (fun _ _ _ h => h) (Or.inl ⟨by rfl, ?hye3⟩) (by assumption) ?_
              case hye3 =>
                intro w hSw
                (try dsimp only at hSw)
                go_simp
                try with_reducible rfl
              try simp only [Act.put, List.setIfInBounds_toArray, List.set_cons_zero, List.set_cons_succ, List.getElem_toArray, List.getElem_cons_zero, List.getElem_cons_succ]
              refine wpAnyH_take (i := 4) (v := ?ve4) rfl (by kernel_rfl) (by kernel_rfl) (by kernel_rfl) (fun _ _ _ h => h) (Or.inl ⟨by rfl, ?hye4⟩) (by assumption) ?_
              case hye4 =>
                intro w hSw
                (try dsimp only at hSw)
                go_simp
                try with_reducible rfl
              try simp only [Act.put, List.setIfInBounds_toArray, List.set_cons_zero, List.set_cons_succ, List.getElem_toArray, List.getElem_cons_zero, List.getElem_cons_succ]
              refine wpAnyH_take (i := 5) (v := ?ve5) rfl (by kernel_rfl) (by kernel_rfl) (by kernel_rfl) (fun _ _ _ h => h) (Or.inl ⟨by rfl, ?hye5⟩) (by assumption) ?_
              case hye5 =>
                intro w hSw
                (try dsimp only at hSw)
                go_simp
                try with_reducible rfl
              try simp only [Act.put, List.setIfInBounds_toArray, List.set_cons_zero, List.set_cons_succ, List.getElem_toArray, List.getElem_cons_zero, List.getElem_cons_succ]
              refine wpAnyH_take (i := 6) (v := ?ve6) rfl (by kernel_rfl) (by kernel_rfl) (by kernel_rfl) (fun _ _ _ h => h) (Or.inl ⟨by rfl, ?hye6⟩) (by assumption) ?_
              case hye6 =>
                intro w hSw
                (try dsimp only at hSw)
                go_simp
                try with_reducible rfl
              try simp only [Act.put, List.setIfInBounds_toArray, List.set_cons_zero, List.set_cons_succ, List.getElem_toArray, List.getElem_cons_zero, List.getElem_cons_succ]
              refine wpAnyH_take (i := 7) (v := ?ve7) rfl (by kernel_rfl) (by kernel_rfl) (by kernel_rfl) (fun _ _ _ h => h) (Or.inl ⟨by rfl, ?hye7⟩) (by assumption) ?_
              case hye7 =>
                intro w hSw
                (try dsimp only at hSw)
                go_simp
                try with_reducible rfl
              try simp only [Act.put, List.setIfInBounds_toArray, List.set_cons_zero, List.set_cons_succ, List.getElem_toArray, List.getElem_cons_zero, List.getElem_cons_succ]
              refine wpAnyH_ready (rs := [8]) (by kernel_rfl) (by simp) ?_
              refine AllReadyH.cons rfl (fun K hK => ?_) AllReadyH.nil
              go_simp
              refine (p_same (HR1.out.1.kept HKu.out (by simp)) (HR2.out.kept HKu.out (by simp)) HR1.out.2.2).mono ?_
              rintro e w2 ⟨rfl, k2⟩
              have HS2 : Hid (_) := oek5 hHeld k2
              have HK2 : Hid (Kept [] w1 w2) := HKu.out.trans k2 (by simp)
              clear k2
              go_wp2_with fail
              refine hK.out _ _ ?_ (fun hHeld => ?_)
              · exact HS2.out
              clear hK K
              try simp only [Act.put, List.setIfInBounds_toArray, List.set_cons_zero, List.set_cons_succ, List.getElem_toArray, List.getElem_cons_zero, List.getElem_cons_succ]
              refine wpAnyH_take (i := 9) (v := ?ve9) rfl (by kernel_rfl) (by kernel_rfl) (by kernel_rfl) (fun _ _ _ h => h) (Or.inl ⟨by rfl, ?hye9⟩) (by assumption) ?_
              case hye9 =>
                intro w hSw
                (try dsimp only at hSw)
                go_simp
                try with_reducible rfl
              try simp only [Act.put, List.setIfInBounds_toArray, List.set_cons_zero, List.set_cons_succ, List.getElem_toArray, List.getElem_cons_zero, List.getElem_cons_succ]
              refine wpAnyH_take (i := 10) (v := ?ve10) rfl (by kernel_rfl) (by kernel_rfl) (by kernel_rfl) (fun _ _ _ h => h) (Or.inl ⟨by rfl, ?hye10⟩) (by assumption) ?_
              case hye10 =>
                intro w hSw
                (try dsimp only at hSw)
                go_simp
                try with_reducible rfl
              try simp only [Act.put, List.setIfInBounds_toArray, List.set_cons_zero, List.set_cons_succ, List.getElem_toArray, List.getElem_cons_zero, List.getElem_cons_succ]
              refine wpAnyH_take (i := 11) (v := ?ve11) rfl (by kernel_rfl) (by kernel_rfl) (by kernel_rfl) (fun _ _ _ h => h) (Or.inl ⟨by rfl, ?hye11⟩) (by assumption) ?_
              case hye11 =>
                intro w hSw
                (try dsimp only at hSw)
                go_simp
                try with_reducible rfl
              try simp only [Act.put, List.setIfInBounds_toArray, List.set_cons_zero, List.set_cons_succ, List.getElem_toArray, List.getElem_cons_zero, List.getElem_cons_succ]
              refine wpAnyH_take (i := 12) (v := ?ve12) rfl (by kernel_rfl) (by kernel_rfl) (by kernel_rfl) (fun _ _ _ h => h) (Or.inl ⟨by rfl, ?hye12⟩) (by assumption) ?_
              case hye12 =>
                intro w hSw
                (try dsimp only at hSw)
                go_simp
                try with_reducible rfl
              try simp only [Act.put, List.setIfInBounds_toArray, List.set_cons_zero, List.set_cons_succ, List.getElem_toArray, List.getElem_cons_zero, List.getElem_cons_succ]
              refine wpAnyH_take (i := 14) (v := ?ve14) rfl (by kernel_rfl) (by kernel_rfl) (by kernel_rfl) (fun _ _ _ h => h) (Or.inl ⟨by rfl, ?hye14⟩) (by assumption) ?_
              case hye14 =>
                intro w hSw
                (try dsimp only at hSw)
                go_simp
                try with_reducible rfl
              try simp only [Act.put, List.setIfInBounds_toArray, List.set_cons_zero, List.set_cons_succ, List.getElem_toArray, List.getElem_cons_zero, List.getElem_cons_succ]
              refine wpAnyH_take (i := 15) (v := ?ve15) rfl (by kernel_rfl) (by kernel_rfl) (by kernel_rfl) (fun _ _ _ h => h) (Or.inl ⟨by rfl, ?hye15⟩) (by assumption) ?_
              case hye15 =>
                intro w hSw
                (try dsimp only at hSw)
                go_simp
                try with_reducible rfl
              try simp only [Act.put, List.setIfInBounds_toArray, List.set_cons_zero, List.set_cons_succ, List.getElem_toArray, List.getElem_cons_zero, List.getElem_cons_succ]
              refine wpAnyH_take (i := 16) (v := ?ve16) rfl (by kernel_rfl) (by kernel_rfl) (by kernel_rfl) (fun _ _ _ h => h) (Or.inl ⟨by rfl, ?hye16⟩) (by assumption) ?_
              case hye16 =>
                intro w hSw
                (try dsimp only at hSw)
                go_simp
                try with_reducible rfl
              try simp only [Act.put, List.setIfInBounds_toArray, List.set_cons_zero, List.set_cons_succ, List.getElem_toArray, List.getElem_cons_zero, List.getElem_cons_succ]
              refine wpAnyH_take (i := 17) (v := ?ve17) rfl (by kernel_rfl) (by kernel_rfl) (by kernel_rfl) (fun _ _ _ h => h) (Or.inl ⟨by rfl, ?hye17⟩) (by assumption) ?_
              case hye17 =>
                intro w hSw
                (try dsimp only at hSw)
                go_simp
                try with_reducible rfl
              try simp only [Act.put, List.setIfInBounds_toArray, List.set_cons_zero, List.set_cons_succ, List.getElem_toArray, List.getElem_cons_zero, List.getElem_cons_succ]
              refine wpAnyH_take (i := 18) (v := ?ve18) rfl (by kernel_rfl) (by kernel_rfl) (by kernel_rfl) (fun _ _ _ h => h) (Or.inl ⟨by rfl, ?hye18⟩) (by assumption) ?_
              case hye18 =>
                intro w hSw
                (try dsimp only at hSw)
                go_simp
                try with_reducible rfl
              try simp only [Act.put, List.setIfInBounds_toArray, List.set_cons_zero, List.set_cons_succ, List.getElem_toArray, List.getElem_cons_zero, List.getElem_cons_succ]
              refine wpAnyH_take (i := 19) (v := ?ve19) rfl (by kernel_rfl) (by kernel_rfl) (by kernel_rfl) (fun _ _ _ h => h) (Or.inl ⟨by rfl, ?hye19⟩) (by assumption) ?_
              case hye19 =>
                intro w hSw
                (try dsimp only at hSw)
                go_simp
                try with_reducible rfl
              try simp only [Act.put, List.setIfInBounds_toArray, List.set_cons_zero, List.set_cons_succ, List.getElem_toArray, List.getElem_cons_zero, List.getElem_cons_succ]
              refine wpAnyH_take (i := 20) (v := ?ve20) rfl (by kernel_rfl) (by kernel_rfl) (by kernel_rfl) (fun _ _ _ h => h) (Or.inl ⟨by rfl, ?hye20⟩) (by assumption) ?_
              case hye20 =>
                intro w hSw
                (try dsimp only at hSw)
                go_simp
                try with_reducible rfl
              try simp only [Act.put, List.setIfInBounds_toArray, List.set_cons_zero, List.set_cons_succ, List.getElem_toArray, List.getElem_cons_zero, List.getElem_cons_succ]
              refine wpAnyH_ready (rs := [13]) (by kernel_rfl) (by simp) ?_
              refine AllReadyH.cons rfl (fun K hK => ?_) AllReadyH.nil
              go_simp
              refine (p_last (HJ1.out.kept0 HK2.out).lo hcC (c : Int) rfl).mono ?_
              rintro e w3 ⟨rfl, k3⟩
              rw [HA.out.1, HA.out.2]
              have HS3 : Hid (_) := oek5 hHeld k3
              have HK3 : Hid (Kept [] w1 w3) := HK2.out.trans k3 (by simp)
              clear k3
              go_wp2_with fail
              refine hK.out _ _ ?_ (fun hHeld => ?_)
              · exact HS3.out
              clear hK K
              try simp only [Act.put, List.setIfInBounds_toArray, List.set_cons_zero, List.set_cons_succ, List.getElem_toArray, List.getElem_cons_zero, List.getElem_cons_succ]
              refine wpAnyH_take (i := 21) (v := ?ve21) rfl (by kernel_rfl) (by kernel_rfl) (by kernel_rfl) (fun _ _ _ h => h) (Or.inl ⟨by rfl, ?hye21⟩) (by assumption) ?_
              case hye21 =>
                intro w hSw
                (try dsimp only at hSw)
                go_simp
                try with_reducible rfl
              try simp only [Act.put, List.setIfInBounds_toArray, List.set_cons_zero, List.set_cons_succ, List.getElem_toArray, List.getElem_cons_zero, List.getElem_cons_succ]
              refine wpAnyH_take (i := 22) (v := ?ve22) rfl (by kernel_rfl) (by kernel_rfl) (by kernel_rfl) (fun _ _ _ h => h) (Or.inl ⟨by rfl, ?hye22⟩) (by assumption) ?_
              case hye22 =>
                intro w hSw
                (try dsimp only at hSw)
                go_simp
                try with_reducible rfl
              try simp only [Act.put, List.setIfInBounds_toArray, List.set_cons_zero, List.set_cons_succ, List.getElem_toArray, List.getElem_cons_zero, List.getElem_cons_succ]
              refine wpAnyH_done (by kernel_rfl) ?_ _
              clear hHeld HS3 HS2 HS1 hne
              go_wp2_with fail
              refine (p_spoil (HR1.out.1.kept HK3.out (by simp)) HR1.out.2.1.symm HR1.out.2.2).mono ?_
              rintro e w4 ⟨rfl, k4⟩
              have HK4 : Hid (Kept [] wr w4) := (HK1.out.trans HK3.out (by simp)).trans k4 (fun x hx => Or.inr (HR1.out.1.block x (by simpa using hx)).1)
              clear k4
              go_wp2_with fail
              go_roundw
              case rel => exact ⟨c + 1, by go_num, by omega, HI.out.1.kept0 HK4.out, HI.out.2.trans HK4.out (by simp)⟩
              case measure => simp [intOf]; omega
            · have j1 : ¬ (c : Int) < (n : Int) := by omega
              have hb1 : hasB C.length (-1) = false := by simp [hasB]
              have hb2 : hasB C.length (n : Int) = false := by rw [HCn.out]; simp [hasB]
              have heq : ∀ w, (binOp .eql 35 (.agg #[.int .i64 0, .int .i64 0]) (.agg #[.int .i64 0, .int .i64 0])).run Try.prog w = .ok (.bool true) w := fun w => by
                have := eq_st 0 0 0 0 w
                simpa using this
              go_wp2_with fail
              refine (p_merged HI.out.1).mono ?_
              rintro e w1 ⟨rfl, k1⟩
              have HJ1 : Hid (Jn w.heap.size w1 p g q gc gl C D) := HI.out.1.kept0 k1
              have HK1 : Hid (Kept [] w w1) := HI.out.2.trans k1 (by simp)
              clear k1
              go_wp2_with fail
              refine (p_core_none HJ1.out.lo (-1) hb1).mono ?_
              rintro e w2 ⟨rfl, hw⟩
              have hw2 := hw.symm
              subst hw2
              clear hw
              go_wp2_with fail
              refine (p_core_none HJ1.out.lo (n : Int) hb2).mono ?_
              rintro e w2 ⟨rfl, hw⟩
              have hw2 := hw.symm
              subst hw2
              clear hw
              go_wp2_with fail
              refine (p_last_none HJ1.out.lo (n : Int) hb2).mono ?_
              rintro e w2 ⟨rfl, k2⟩
              have HK2 : Hid (Kept [] w w2) := HK1.out.trans k2 (by simp)
              clear k2
              go_wp2_with fail
              refine (awake_any w2).mono ?_
              rintro e w3 ⟨rfl, k3⟩
              have HK3 : Hid (Kept [] w w3) := HK2.out.trans k3 (by simp)
              clear k3
              go_wp2_with fail
              go_ret
              exact ⟨rfl, HK3.out⟩
      · have i2 : ¬ (i : Int) < (len0 : Int) := by omega
        have i3 : decide ((i : Int) < (len0 : Int)) = false := decide_eq_false i2
        clear hlt hi1 hi2 h1
        go_wp2_with fail
        as_aux_lemma =>
          go_loopw [15] (fun cx w9 => ∃ c : Nat, cx = .int .i64 (c : Int) ∧ c ≤ n ∧ Hid (Jn w.heap.size w9 p g q gc gl C D ∧ Kept [] w w9)) (fun cx _ => (n - intOf cx).toNat)
          case atStart => exact ⟨0, rfl, by omega, HJL.out.1, HJL.out.2⟩
          case round =>
            clear HJL
            obtain ⟨c, rfl, hc, HI⟩ := hrel
            by_cases hcn : c < n
            · have j0 : (0 : Int) ≤ (c : Int) := by omega
              have j1 : (c : Int) < (n : Int) := by omega
              have hcC : c < C.length := by rw [HCn.out]; exact hcn
              have hcD : c < D.length := by rw [HI.out.1.len]; exact hcC
              go_wp2_with fail
              refine (p_core HI.out.1.lo hcC).mono ?_
              rintro e w1 ⟨v, rfl, hr, k1⟩
              have hsame := HI.out.1.same c hcC hcD
              obtain ⟨R, hR⟩ : ∃ R, (C[c]).R = R := ⟨_, rfl⟩
              obtain ⟨a, ha⟩ : ∃ a, (C[c]).a = a := ⟨_, rfl⟩
              obtain ⟨k, hk⟩ : ∃ k, (C[c]).k = k := ⟨_, rfl⟩
              obtain ⟨l, hl⟩ : ∃ l, R.length = l := ⟨_, rfl⟩
              rw [hR, ha, hk] at hsame
              rw [hR] at hr
              have HA : Hid ((C[c]).a = a ∧ (C[c]).k = k) := ⟨ha, hk⟩
              obtain ⟨av, cv, hv, -, -, -⟩ := hr.slice
              rw [hl] at hv
              subst hv
              have hlen := HI.out.1.lo.len c hcC
              rw [hR, hl] at hlen
              have HR1 : Hid (Rr w1 wr.heap.size (.slice av l cv) R ∧ R.length = l ∧ R.length ≤ 100000) := ⟨hr, hl, by omega⟩
              have HK1 : Hid (Kept [] wr w1) := k1
              have HJ1 : Hid (Jn w.heap.size w1 p g q gc gl C D) := HI.out.1.kept0 k1
              obtain ⟨bv, dv, hv2, hcl, hcm, -⟩ := (HJ1.out.re.each c hcD).slice
              rw [hsame.1, hl] at hv2
              have HR2 : Hid (Rr w1 w.heap.size (.slice bv l dv) R) := by have := HJ1.out.re.each c hcD; rw [hv2, hsame.1] at this; exact this
              have hDn : D.length = n := by rw [HJ1.out.len]; exact HCn.out
              have HS1 : Hid (w1.cell? ⟨q, 0, none⟩ = some (.slice (some ⟨gc, 0, none⟩) n n) ∧ w1.cell? ⟨gc, c, none⟩ = some (.slice bv l dv) ∧ w1.cell? ⟨q, 1, none⟩ = some (.slice (some ⟨gl, 0, none⟩) n n) ∧ w1.cell? ⟨gl, c * 2, none⟩ = some (.int .i64 a) ∧ w1.cell? ⟨gl, c * 2 + 1, none⟩ = some (.int .i64 k)) := by
                obtain ⟨y1, y2⟩ := HJ1.out.re.last hcD
                rw [hsame.2.1] at y1
                rw [hsame.2.2] at y2
                obtain ⟨y3, y4⟩ := HJ1.out.re.box
                rw [hDn] at y3 y4
                exact ⟨y3, by rw [← hv2]; exact HJ1.out.re.row hcD, y4, y1, y2⟩
              have hne : ∀ w, (binOp .neq 35 (.agg #[.int .i64 a, .int .i64 k]) (.agg #[.int .i64 a, .int .i64 k])).run Try.prog w = .ok (.bool false) w := fun w => by
                have := neq_st a k a k w
                simpa using this
              clear hr k1 hR ha hk hl hsame hv2 hcl hcm hDn
              go_upto_region 25 with fail
              refine wp_region_held_drew (S := fun w' => w'.cell? ⟨q, 0, none⟩ = some (.slice (some ⟨gc, 0, none⟩) n n) ∧ w'.cell? ⟨gc, c, none⟩ = some (.slice bv l dv) ∧ w'.cell? ⟨q, 1, none⟩ = some (.slice (some ⟨gl, 0, none⟩) n n) ∧ w'.cell? ⟨gl, c * 2, none⟩ = some (.int .i64 a) ∧ w'.cell? ⟨gl, c * 2 + 1, none⟩ = some (.int .i64 k)) (by kernel_rfl) ?_ (fun hHeld => ?_)
              · exact HS1.out
              obtain ⟨u0, hu0⟩ : ∃ u, w1.drew = u := ⟨_, rfl⟩
              have HKu : Hid (Kept [] w1 u0) := by rw [← hu0]; exact (Kept.refl [] w1).drew
              rw [hu0] at hHeld ⊢
              clear hu0
              refine wpAnyH_take (i := 0) (v := ?vf0) rfl (by kernel_rfl) (by kernel_rfl) (by kernel_rfl) (fun _ _ _ h => h) (Or.inl ⟨by rfl, ?hyf0⟩) (by assumption) ?_
              case hyf0 =>
                intro w hSw
                (try dsimp only at hSw)
                go_simp
                try with_reducible rfl
              try simp only [Act.put, List.setIfInBounds_toArray, List.set_cons_zero, List.set_cons_succ, List.getElem_toArray, List.getElem_cons_zero, List.getElem_cons_succ]
              refine wpAnyH_take (i := 1) (v := ?vf1) rfl (by kernel_rfl) (by kernel_rfl) (by kernel_rfl) (fun _ _ _ h => h) (Or.inl ⟨by rfl, ?hyf1⟩) (by assumption) ?_
              case hyf1 =>
                intro w hSw
                (try dsimp only at hSw)
                go_simp
                try with_reducible rfl
              try simp only [Act.put, List.setIfInBounds_toArray, List.set_cons_zero, List.set_cons_succ, List.getElem_toArray, List.getElem_cons_zero, List.getElem_cons_succ]
              refine wpAnyH_take (i := 2) (v := ?vf2) rfl (by kernel_rfl) (by kernel_rfl) (by kernel_rfl) (fun _ _ _ h => h) (Or.inl ⟨by rfl, ?hyf2⟩) (by assumption) ?_
              case hyf2 =>
                intro w hSw
                (try dsimp only at hSw)
                go_simp
                try with_reducible rfl
              try simp only [Act.put, List.setIfInBounds_toArray, List.set_cons_zero, List.set_cons_succ, List.getElem_toArray, List.getElem_cons_zero, List.getElem_cons_succ]
              refine wpAnyH_take (i := 3) (v := ?vf3) rfl (by kernel_rfl) (by kernel_rfl) (by kernel_rfl) (fun _ _ _ h => h) (Or.inl ⟨by rfl, ?hyf3⟩) (by assumption) ?_
              case hyf3 =>
                intro w hSw
                (try dsimp only at hSw)
                go_simp
                try with_reducible rfl
              try simp only [Act.put, List.setIfInBounds_toArray, List.set_cons_zero, List.set_cons_succ, List.getElem_toArray, List.getElem_cons_zero, List.getElem_cons_succ]
              refine wpAnyH_take (i := 4) (v := ?vf4) rfl (by kernel_rfl) (by kernel_rfl) (by kernel_rfl) (fun _ _ _ h => h) (Or.inl ⟨by rfl, ?hyf4⟩) (by assumption) ?_
              case hyf4 =>
                intro w hSw
                (try dsimp only at hSw)
                go_simp
                try with_reducible rfl
              try simp only [Act.put, List.setIfInBounds_toArray, List.set_cons_zero, List.set_cons_succ, List.getElem_toArray, List.getElem_cons_zero, List.getElem_cons_succ]
              refine wpAnyH_take (i := 5) (v := ?vf5) rfl (by kernel_rfl) (by kernel_rfl) (by kernel_rfl) (fun _ _ _ h => h) (Or.inl ⟨by rfl, ?hyf5⟩) (by assumption) ?_
              case hyf5 =>
                intro w hSw
                (try dsimp only at hSw)
                go_simp
                try with_reducible rfl
              try simp only [Act.put, List.setIfInBounds_toArray, List.set_cons_zero, List.set_cons_succ, List.getElem_toArray, List.getElem_cons_zero, List.getElem_cons_succ]
              refine wpAnyH_take (i := 6) (v := ?vf6) rfl (by kernel_rfl) (by kernel_rfl) (by kernel_rfl) (fun _ _ _ h => h) (Or.inl ⟨by rfl, ?hyf6⟩) (by assumption) ?_
              case hyf6 =>
                intro w hSw
                (try dsimp only at hSw)
                go_simp
                try with_reducible rfl
              try simp only [Act.put, List.setIfInBounds_toArray, List.set_cons_zero, List.set_cons_succ, List.getElem_toArray, List.getElem_cons_zero, List.getElem_cons_succ]
              refine wpAnyH_take (i := 7) (v := ?vf7) rfl (by kernel_rfl) (by kernel_rfl) (by kernel_rfl) (fun _ _ _ h => h) (Or.inl ⟨by rfl, ?hyf7⟩) (by assumption) ?_
              case hyf7 =>
                intro w hSw
                (try dsimp only at hSw)
                go_simp
                try with_reducible rfl
              try simp only [Act.put, List.setIfInBounds_toArray, List.set_cons_zero, List.set_cons_succ, List.getElem_toArray, List.getElem_cons_zero, List.getElem_cons_succ]
              refine wpAnyH_ready (rs := [8]) (by kernel_rfl) (by simp) ?_
              refine AllReadyH.cons rfl (fun K hK => ?_) AllReadyH.nil
              go_simp
              refine (p_same (HR1.out.1.kept HKu.out (by simp)) (HR2.out.kept HKu.out (by simp)) HR1.out.2.2).mono ?_
              rintro e w2 ⟨rfl, k2⟩
              have HS2 : Hid (_) := oek5 hHeld k2
              have HK2 : Hid (Kept [] w1 w2) := HKu.out.trans k2 (by simp)
              clear k2
              go_wp2_with fail
              refine hK.out _ _ ?_ (fun hHeld => ?_)
              · exact HS2.out
              clear hK K
              try simp only [Act.put, List.setIfInBounds_toArray, List.set_cons_zero, List.set_cons_succ, List.getElem_toArray, List.getElem_cons_zero, List.getElem_cons_succ]
              refine wpAnyH_take (i := 9) (v := ?vf9) rfl (by kernel_rfl) (by kernel_rfl) (by kernel_rfl) (fun _ _ _ h => h) (Or.inl ⟨by rfl, ?hyf9⟩) (by assumption) ?_
              case hyf9 =>
                intro w hSw
                (try dsimp only at hSw)
                go_simp
                try with_reducible rfl
              try simp only [Act.put, List.setIfInBounds_toArray, List.set_cons_zero, List.set_cons_succ, List.getElem_toArray, List.getElem_cons_zero, List.getElem_cons_succ]
              refine wpAnyH_take (i := 10) (v := ?vf10) rfl (by kernel_rfl) (by kernel_rfl) (by kernel_rfl) (fun _ _ _ h => h) (Or.inl ⟨by rfl, ?hyf10⟩) (by assumption) ?_
              case hyf10 =>
                intro w hSw
                (try dsimp only at hSw)
                go_simp
                try with_reducible rfl
              try simp only [Act.put, List.setIfInBounds_toArray, List.set_cons_zero, List.set_cons_succ, List.getElem_toArray, List.getElem_cons_zero, List.getElem_cons_succ]
              refine wpAnyH_take (i := 11) (v := ?vf11) rfl (by kernel_rfl) (by kernel_rfl) (by kernel_rfl) (fun _ _ _ h => h) (Or.inl ⟨by rfl, ?hyf11⟩) (by assumption) ?_
              case hyf11 =>
                intro w hSw
                (try dsimp only at hSw)
                go_simp
                try with_reducible rfl
              try simp only [Act.put, List.setIfInBounds_toArray, List.set_cons_zero, List.set_cons_succ, List.getElem_toArray, List.getElem_cons_zero, List.getElem_cons_succ]
              refine wpAnyH_take (i := 12) (v := ?vf12) rfl (by kernel_rfl) (by kernel_rfl) (by kernel_rfl) (fun _ _ _ h => h) (Or.inl ⟨by rfl, ?hyf12⟩) (by assumption) ?_
              case hyf12 =>
                intro w hSw
                (try dsimp only at hSw)
                go_simp
                try with_reducible rfl
              try simp only [Act.put, List.setIfInBounds_toArray, List.set_cons_zero, List.set_cons_succ, List.getElem_toArray, List.getElem_cons_zero, List.getElem_cons_succ]
              refine wpAnyH_take (i := 14) (v := ?vf14) rfl (by kernel_rfl) (by kernel_rfl) (by kernel_rfl) (fun _ _ _ h => h) (Or.inl ⟨by rfl, ?hyf14⟩) (by assumption) ?_
              case hyf14 =>
                intro w hSw
                (try dsimp only at hSw)
                go_simp
                try with_reducible rfl
              try simp only [Act.put, List.setIfInBounds_toArray, List.set_cons_zero, List.set_cons_succ, List.getElem_toArray, List.getElem_cons_zero, List.getElem_cons_succ]
              refine wpAnyH_take (i := 15) (v := ?vf15) rfl (by kernel_rfl) (by kernel_rfl) (by kernel_rfl) (fun _ _ _ h => h) (Or.inl ⟨by rfl, ?hyf15⟩) (by assumption) ?_
              case hyf15 =>
                intro w hSw
                (try dsimp only at hSw)
                go_simp
                try with_reducible rfl
              try simp only [Act.put, List.setIfInBounds_toArray, List.set_cons_zero, List.set_cons_succ, List.getElem_toArray, List.getElem_cons_zero, List.getElem_cons_succ]
              refine wpAnyH_take (i := 16) (v := ?vf16) rfl (by kernel_rfl) (by kernel_rfl) (by kernel_rfl) (fun _ _ _ h => h) (Or.inl ⟨by rfl, ?hyf16⟩) (by assumption) ?_
              case hyf16 =>
                intro w hSw
                (try dsimp only at hSw)
                go_simp
                try with_reducible rfl
              try simp only [Act.put, List.setIfInBounds_toArray, List.set_cons_zero, List.set_cons_succ, List.getElem_toArray, List.getElem_cons_zero, List.getElem_cons_succ]
              refine wpAnyH_take (i := 17) (v := ?vf17) rfl (by kernel_rfl) (by kernel_rfl) (by kernel_rfl) (fun _ _ _ h => h) (Or.inl ⟨by rfl, ?hyf17⟩) (by assumption) ?_
              case hyf17 =>
                intro w hSw
                (try dsimp only at hSw)
                go_simp
                try with_reducible rfl
              try simp only [Act.put, List.setIfInBounds_toArray, List.set_cons_zero, List.set_cons_succ, List.getElem_toArray, List.getElem_cons_zero, List.getElem_cons_succ]
              refine wpAnyH_take (i := 18) (v := ?vf18) rfl (by kernel_rfl) (by kernel_rfl) (by kernel_rfl) (fun _ _ _ h => h) (Or.inl ⟨by rfl, ?hyf18⟩) (by assumption) ?_
              case hyf18 =>
                intro w hSw
                (try dsimp only at hSw)
                go_simp
                try with_reducible rfl
              try simp only [Act.put, List.setIfInBounds_toArray, List.set_cons_zero, List.set_cons_succ, List.getElem_toArray, List.getElem_cons_zero, List.getElem_cons_succ]
              refine wpAnyH_take (i := 19) (v := ?vf19) rfl (by kernel_rfl) (by kernel_rfl) (by kernel_rfl) (fun _ _ _ h => h) (Or.inl ⟨by rfl, ?hyf19⟩) (by assumption) ?_
              case hyf19 =>
                intro w hSw
                (try dsimp only at hSw)
                go_simp
                try with_reducible rfl
              try simp only [Act.put, List.setIfInBounds_toArray, List.set_cons_zero, List.set_cons_succ, List.getElem_toArray, List.getElem_cons_zero, List.getElem_cons_succ]
              refine wpAnyH_take (i := 20) (v := ?vf20) rfl (by kernel_rfl) (by kernel_rfl) (by kernel_rfl) (fun _ _ _ h => h) (Or.inl ⟨by rfl, ?hyf20⟩) (by assumption) ?_
              case hyf20 =>
                intro w hSw
                (try dsimp only at hSw)
                go_simp
                try with_reducible rfl
              try simp only [Act.put, List.setIfInBounds_toArray, List.set_cons_zero, List.set_cons_succ, List.getElem_toArray, List.getElem_cons_zero, List.getElem_cons_succ]
              refine wpAnyH_ready (rs := [13]) (by kernel_rfl) (by simp) ?_
              refine AllReadyH.cons rfl (fun K hK => ?_) AllReadyH.nil
              go_simp
              refine (p_last (HJ1.out.kept0 HK2.out).lo hcC (c : Int) rfl).mono ?_
              rintro e w3 ⟨rfl, k3⟩
              rw [HA.out.1, HA.out.2]
              have HS3 : Hid (_) := oek5 hHeld k3
              have HK3 : Hid (Kept [] w1 w3) := HK2.out.trans k3 (by simp)
              clear k3
              go_wp2_with fail
              refine hK.out _ _ ?_ (fun hHeld => ?_)
              · exact HS3.out
              clear hK K
              try simp only [Act.put, List.setIfInBounds_toArray, List.set_cons_zero, List.set_cons_succ, List.getElem_toArray, List.getElem_cons_zero, List.getElem_cons_succ]
              refine wpAnyH_take (i := 21) (v := ?vf21) rfl (by kernel_rfl) (by kernel_rfl) (by kernel_rfl) (fun _ _ _ h => h) (Or.inl ⟨by rfl, ?hyf21⟩) (by assumption) ?_
              case hyf21 =>
                intro w hSw
                (try dsimp only at hSw)
                go_simp
                try with_reducible rfl
              try simp only [Act.put, List.setIfInBounds_toArray, List.set_cons_zero, List.set_cons_succ, List.getElem_toArray, List.getElem_cons_zero, List.getElem_cons_succ]
              refine wpAnyH_take (i := 22) (v := ?vf22) rfl (by kernel_rfl) (by kernel_rfl) (by kernel_rfl) (fun _ _ _ h => h) (Or.inl ⟨by rfl, ?hyf22⟩) (by assumption) ?_
              case hyf22 =>
                intro w hSw
                (try dsimp only at hSw)
                go_simp
                try with_reducible rfl
              try simp only [Act.put, List.setIfInBounds_toArray, List.set_cons_zero, List.set_cons_succ, List.getElem_toArray, List.getElem_cons_zero, List.getElem_cons_succ]
              refine wpAnyH_done (by kernel_rfl) ?_ _
              clear hHeld HS3 HS2 HS1 hne
              go_wp2_with fail
              refine (p_spoil (HR1.out.1.kept HK3.out (by simp)) HR1.out.2.1.symm HR1.out.2.2).mono ?_
              rintro e w4 ⟨rfl, k4⟩
              have HK4 : Hid (Kept [] wr w4) := (HK1.out.trans HK3.out (by simp)).trans k4 (fun x hx => Or.inr (HR1.out.1.block x (by simpa using hx)).1)
              clear k4
              go_wp2_with fail
              go_roundw
              case rel => exact ⟨c + 1, by go_num, by omega, HI.out.1.kept0 HK4.out, HI.out.2.trans HK4.out (by simp)⟩
              case measure => simp [intOf]; omega
            · have j1 : ¬ (c : Int) < (n : Int) := by omega
              have hb1 : hasB C.length (-1) = false := by simp [hasB]
              have hb2 : hasB C.length (n : Int) = false := by rw [HCn.out]; simp [hasB]
              have heq : ∀ w, (binOp .eql 35 (.agg #[.int .i64 0, .int .i64 0]) (.agg #[.int .i64 0, .int .i64 0])).run Try.prog w = .ok (.bool true) w := fun w => by
                have := eq_st 0 0 0 0 w
                simpa using this
              go_wp2_with fail
              refine (p_merged HI.out.1).mono ?_
              rintro e w1 ⟨rfl, k1⟩
              have HJ1 : Hid (Jn w.heap.size w1 p g q gc gl C D) := HI.out.1.kept0 k1
              have HK1 : Hid (Kept [] w w1) := HI.out.2.trans k1 (by simp)
              clear k1
              go_wp2_with fail
              refine (p_core_none HJ1.out.lo (-1) hb1).mono ?_
              rintro e w2 ⟨rfl, hw⟩
              have hw2 := hw.symm
              subst hw2
              clear hw
              go_wp2_with fail
              refine (p_core_none HJ1.out.lo (n : Int) hb2).mono ?_
              rintro e w2 ⟨rfl, hw⟩
              have hw2 := hw.symm
              subst hw2
              clear hw
              go_wp2_with fail
              refine (p_last_none HJ1.out.lo (n : Int) hb2).mono ?_
              rintro e w2 ⟨rfl, k2⟩
              have HK2 : Hid (Kept [] w w2) := HK1.out.trans k2 (by simp)
              clear k2
              go_wp2_with fail
              refine (awake_any w2).mono ?_
              rintro e w3 ⟨rfl, k3⟩
              have HK3 : Hid (Kept [] w w3) := HK2.out.trans k3 (by simp)
              clear k3
              go_wp2_with fail
              go_ret
              exact ⟨rfl, HK3.out⟩

theorem walk (z : Int) (a : Option Addr) (len cap : Nat) (w : World) (_ : (Lit.int .i64 z).wf = true) (ha : IsActs w a len) :
    Calls Try.prog 3 #[.int .i64 z, .slice a len cap] w fun e w' => e = .returned (.bool true) ∧ Below w.heap.size w w' :=
  (main z a len cap w ha).mono fun e w' ⟨he, hk⟩ => ⟨he, hk.below (Nat.le_refl _) (by simp)⟩

set_option maxRecDepth 100000 in
theorem lifted (os : Os) (started : os.Started) (H : Type) (enc : TypeId × Value → H) :
    ReturnsInHanded {} Try.checked os 3 .any (Rows.oplogActsSpec.pre6 enc Try.prog Try.f3 Rows.oplogActsRow.domain false) (Rows.oplogActsSpec.post enc Try.prog Try.f3 false true false false) := by
  refine returnsInHanded_of_change_sized (C := Try.checked) own started (by kernel_rfl) Try.func3
    (ChangeSpec.witness6 (enc := enc) (C := Try.checked) false ⟨#[], #[.int .i64 0, .slice none 0 0], []⟩ 8 (by kernel_rfl) (by kernel_rfl) (by kernel_rfl) (by kernel_rfl)) ?_
  intro W base args ds gs before hval0 hW hcnd hsz0 _
  have hval : ∀ (j : Nat) t v, Try.f3.params[j]? = some t → args[j]? = some v → Value.okWide Try.prog W .any base t v := hval0
  have hW' := hW
  obtain ⟨p, q, hA0, hV, rfl, hfz, hnd⟩ := hW
  have hA : DataW.TrodAll enc Try.prog W 0 (fun _ => true) true Try.f3.params.toList args.toList ds p := hA0
  have hsz : (DataW.weightsEach Try.prog (Try.f3.params.toList ++ Rows.oplogActsSpec.plain.varTypes Try.prog) (ds ++ gs)).all (· ≤ reachBytes) = true := hsz0
  rw [Try.params3] at hA hval hsz
  obtain ⟨v0, vs0, d0, ds0, p0, q0, hargs, rfl, rfl, h0, r0⟩ := trodAll_cons hA
  obtain ⟨v1, vs1, d1, ds1, p1, q1, rfl, rfl, rfl, h1, r1⟩ := trodAll_cons r0
  obtain ⟨rfl, rfl, rfl⟩ := trodAll_nil r1
  obtain rfl : args = #[v0, v1] := by cases args; simp_all
  obtain ⟨rfl, rfl⟩ := trodVars_none hV
  obtain ⟨a0, rfl, rfl, rfl, w0⟩ := open_int Try.underlying3 (hval 0 3 v0 rfl rfl) h0
  obtain ⟨a1, len1, cap1, rfl⟩ := okWide_slice Try.underlying22 (hval 1 22 v1 rfl rfl)
  have k1 := h1
  have lt1 : ∀ x ∈ p1, x.block < W.heap.size := by obtain ⟨m, hm⟩ := k1; exact DataW.trod_lt m _ _ _ hm
  have wt1 : ∀ n ∈ d1.weights Try.prog 22, n ≤ reachBytes := fun n hn => by
    have := List.all_eq_true.1 hsz n (DataW.weights_mem_each (j := 1) rfl rfl n hn)
    simpa using this
  have w1 : IsActs W a1 len1 := by
    obtain ⟨fuel, hf⟩ := h1
    exact acts_at hf wt1
  clear hA0 hval0
  refine (walk a0 a1 len1 cap1 W w0 w1).mono fun e W' ⟨he, bel⟩ => ?_
  subst he
  exact ⟨_, rfl, _, _, _, [], _, [], hW', trodAll_mk1 (shut_bool Try.underlying4 _), (trodAll_cons_mk (shut_int Try.underlying3 w0) (trodAll_cons_mk (Below.trod laidOut (by kernel_rfl) (of_decide_eq_true (by kernel_rfl)) k1 bel lt1) trodAll_mk0)), rfl, bel.frame _, fun h => by cases h⟩

theorem over : Rows.oplogActsRow.holds Try.pinned (OpenSpec.ofChange Rows.oplogActsSpec) :=
  OpenClaim.holds_of_wide 3 Try.f3 rfl rfl rfl rfl rfl rfl rfl ⟨rfl, rfl, rfl, rfl, rfl⟩ rfl rfl rfl rfl rfl (by kernel_rfl) Try.func3 (by kernel_rfl)
    (of_decide_eq_true (by kernel_rfl)) (by unfold Func.isWrapper; first | (rw [if_pos (by decide +kernel)]; kernel_rfl) | (rw [if_neg (by decide +kernel)]; exact ⟨rfl, rfl⟩))
    (fun os started H enc _ => lifted os started H enc)

end Go.Proofs.Ytlecpeofjabndaa.oplogActs

namespace Go.Proofs.Ytlecpeofjabndaa
theorem oplogActs_holds : Rows.OplogActsSaid := oplogActs.over
#print axioms oplogActs_holds
end Go.Proofs.Ytlecpeofjabndaa
