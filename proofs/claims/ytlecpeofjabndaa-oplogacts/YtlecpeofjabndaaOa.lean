/-
  Package oplog: Core; records that are spoilt.
-/
import Derived.Test.YtlecpeofjabndaaLy
namespace Go.Proofs.Ytlecpeofjabndaa
open Go.RowKit
set_option linter.unusedVariables false
set_option linter.unusedSimpArgs false

set_option maxRecDepth 100000 in
set_option maxHeartbeats 8000000 in
theorem p_core_none {H : Nat} {w : World} {p g : Nat} {C : List Co} (h : Lo H w p g C) (z : Int) (hz : hasB C.length z = false) :
    Calls Try.prog 16 #[.pointer (some ⟨p, 0, none⟩), .int .i64 z] w fun e w' => e = .returned (.slice none 0 0) ∧ w' = w := by
  have P := p_has h z
  rw [hz] at P
  go_enter Try.func16, Try.ntmps16
  go_wp2_with fail
  refine P.mono ?_
  rintro e wx ⟨rfl, hw⟩
  have hw2 := hw.symm
  subst hw2
  clear hw
  go_wp2_with fail
  go_ret
  exact ⟨rfl, rfl⟩

set_option maxRecDepth 100000 in
set_option maxHeartbeats 8000000 in
theorem p_core {H : Nat} {w : World} {p g : Nat} {C : List Co} (h : Lo H w p g C) {i : Nat} (hi : i < C.length) :
    Calls Try.prog 16 #[.pointer (some ⟨p, 0, none⟩), .int .i64 (i : Int)] w fun e w' => ∃ v, e = .returned v ∧ Rr w' w.heap.size v (C[i]).R ∧ Kept [] w w' := by
  have P := p_has h (i : Int)
  rw [show hasB C.length (i : Int) = true by simp [hasB]; omega] at P
  have hc8 := h.chi
  have z0 : (0 : Int) ≤ (i : Int) := by omega
  have z1 : (i : Int) < (C.length : Int) := by omega
  have b0 := h.box
  obtain ⟨q0, -, -⟩ := h.cells hi
  obtain ⟨av, cv, hv, hcl, hcm, -⟩ := (h.each i hi).slice
  obtain ⟨R, hR⟩ : ∃ R, (C[i]).R = R := ⟨_, rfl⟩
  rw [hv, hR] at q0
  rw [hR] at hcl ⊢
  obtain ⟨n, hn⟩ : ∃ n, R.length = n := ⟨_, rfl⟩
  rw [hn] at q0 hcl
  have HR : Hid (Rr w H (.slice av n cv) R ∧ R.length = n ∧ n ≤ 256 ∧ ∀ r ∈ R, r.small) := ⟨by have := h.each i hi; rw [hv, hR, hn] at this; exact this, hn, by have := h.len i hi; rw [hR, hn] at this; exact this, by have := h.small i hi; rw [hR] at this; exact this⟩
  have hn256 := HR.out.2.2.1
  have hcv : cv ≤ 9223372036854775807 := by unfold maxLen at hcm; omega
  clear h hv hR hn hcm
  go_enter Try.func16, Try.ntmps16
  go_wp2_with fail
  refine P.mono ?_
  rintro e wx ⟨rfl, hw⟩
  have hw2 := hw.symm
  subst hw2
  clear hw P
  go_wp2_with fail
  go_loopw [21, 5] (fun ix u wr => ∃ (j : Nat) (ua : Option Addr) (uc : Nat), ix = .int .i64 (j : Int) ∧ u = .slice ua j uc ∧ j ≤ n ∧ Hid (Rr wr w.heap.size (.slice ua j uc) (R.take j) ∧ Kept [] w wr)) (fun ix _ _ => (n - intOf ix).toNat)
  case atStart => exact ⟨0, none, 0, rfl, rfl, by omega, Rr.nil _ _, Kept.refl _ _⟩
  case round =>
    obtain ⟨j, ua, uc, rfl, rfl, hj, HJ⟩ := hrel
    by_cases hlt : j < n
    · have j0 : (0 : Int) ≤ (j : Int) := by omega
      have j1 : (j : Int) < (n : Int) := by omega
      have hjR : j < R.length := by rw [HR.out.2.1]; exact hlt
      obtain ⟨r, hr⟩ : ∃ r, R[j] = r := ⟨_, rfl⟩
      have HTk : Hid (R.take (j + 1) = R.take j ++ [r]) := by show _ = _; rw [List.take_succ_eq_append_getElem hjR, hr]
      have HSm : Hid (r.small) := by rw [← hr]; exact HR.out.2.2.2 _ (List.getElem_mem hjR)
      obtain ⟨gm, hga, q0, q1, q2, q3, q4, q5, q6, q7, q8, q9⟩ := (HR.out.1.kept HJ.out.2 (by simp)).ten rfl hjR hr
      subst hga
      obtain ⟨a, k, kind, core, fd, ofs, num, p1, p2, dat⟩ := r
      dsimp only at q0 q1 q2 q3 q4 q5 q6 q7 q8 q9
      obtain ⟨W2, X, HW2, HK2, HB2⟩ := box1 wr #[.int .i64 a, .int .i64 k, .int .i64 kind, .int .i64 core, .int .i64 fd, .int .i64 ofs, .int .i64 num, .string p1, .string p2, .string dat] 57
      clear hr
      go_upto_region 7 with fail
      rw [HW2.out.1, HW2.out.2]
      clear HW2 q0 q1 q2 q3 q4 q5 q6 q7 q8 q9
      have y0 : W2.cell? ⟨X, 0, none⟩ = some (.int .i64 a) := cellB HB2.out
      have y1 : W2.cell? ⟨X, 1, none⟩ = some (.int .i64 k) := cellB HB2.out
      have y2 : W2.cell? ⟨X, 2, none⟩ = some (.int .i64 kind) := cellB HB2.out
      have y3 : W2.cell? ⟨X, 3, none⟩ = some (.int .i64 core) := cellB HB2.out
      have y4 : W2.cell? ⟨X, 4, none⟩ = some (.int .i64 fd) := cellB HB2.out
      have y5 : W2.cell? ⟨X, 5, none⟩ = some (.int .i64 ofs) := cellB HB2.out
      have y6 : W2.cell? ⟨X, 6, none⟩ = some (.int .i64 num) := cellB HB2.out
      have y7 : W2.cell? ⟨X, 7, none⟩ = some (.string p1) := cellB HB2.out
      have y8 : W2.cell? ⟨X, 8, none⟩ = some (.string p2) := cellB HB2.out
      have y9 : W2.cell? ⟨X, 9, none⟩ = some (.string dat) := cellB HB2.out
      go_wp2_with fail
      refine (p_copied a k kind core fd ofs num p1 p2 dat HSm.out _).mono ?_
      rintro e w3 ⟨rfl, k3⟩
      obtain ⟨w4, Y, HY, HKY, HBY⟩ := box1 w3 #[.int .i64 a, .int .i64 k, .int .i64 kind, .int .i64 core, .int .i64 fd, .int .i64 ofs, .int .i64 num, .string p1, .string p2, .string dat] 57
      have HK4 : Hid (Kept [] wr w4) := (HK2.out.1.trans k3 (by simp)).trans HKY.out.1 (by simp)
      have hbY : ∀ j u, (Rec.cs ⟨a, k, kind, core, fd, ofs, num, p1, p2, dat⟩)[j]? = some u → w4.cell? ⟨Y, j, none⟩ = some u := fun j u hu => by rw [cellB HBY.out, ← hu]; simp [Rec.cs]
      have hlen : (R.take j).length = j := by rw [List.length_take]; omega
      obtain ⟨gn, cn, w5, hr5, rr5, gr5, hg5, -⟩ := append_rec (R := R.take j) (v := .slice ua j uc) (HJ.out.1.kept HK4.out (by simp)) (Nat.le_trans HJ.out.2.size HK4.out.size) Y ⟨a, k, kind, core, fd, ofs, num, p1, p2, dat⟩ hbY (by omega) 44
      rw [hlen] at hr5 rr5
      have HAp : Hid ((Builtin.append_ #[44, 44] 44 #[.slice ua j uc, .slice (some ⟨Y, 0, none⟩) 1 1]).run Try.prog w4 = .ok (.slice (some ⟨gn, 0, none⟩) (j + 1) cn) w5) := hr5
      rw [← HY.out.1, ← HY.out.2] at HAp
      have HK5 : Hid (Kept [] w w5) := (HJ.out.2.trans HK4.out (by simp)).grown gr5 (fun x hx => Or.inr (HJ.out.1.block x hx).1)
      have HR5 : Hid (Rr w5 w.heap.size (.slice (some ⟨gn, 0, none⟩) (j + 1) cn) (R.take (j + 1))) := by rw [HTk.out]; exact rr5
      clear k3 hbY hr5 rr5 gr5 hg5 hlen y0 y1 y2 y3 y4 y5 y6 y7 y8 y9
      go_wp2_with (at_builtin; refine wpList_append_run _ rfl _ _ 44 44 rfl _ _ rfl rfl _ _ HAp.out ?_)
      go_roundw
      case rel => exact ⟨j + 1, some ⟨gn, 0, none⟩, cn, by go_num, rfl, by omega, HR5.out, HK5.out⟩
      case measure => simp [intOf]; omega
    · have hjn : j = n := by omega
      subst hjn
      have j1 : ¬ (j : Int) < (j : Int) := by omega
      have HE : Hid (R.take j = R) := by show _ = _; rw [List.take_of_length_le (by have := HR.out.2.1; omega)]
      go_wp2_with fail
      go_ret
      exact ⟨_, rfl, by have := HJ.out.1; rw [HE.out] at this; exact this, HJ.out.2⟩

set_option maxRecDepth 100000 in
set_option maxHeartbeats 8000000 in
theorem p_spoil {w : World} {H : Nat} {a : Option Addr} {n c : Nat} {M : List Rec} (h : Rr w H (.slice a n c) M) (hn : n = M.length) (hl : M.length ≤ 100000) :
    Calls Try.prog 19 #[.slice a n c] w fun e w' => e = .returned (.tuple #[]) ∧ Kept (Value.slice a n c).ownBlock.toList w w' := by
  rcases h.form with ⟨e1, rfl⟩ | ⟨g, cap, cur, e1, hHg, hgg, hncap, hcm, hcs, htk⟩
  · simp only [Value.slice.injEq] at e1
    obtain ⟨rfl, hn0, rfl⟩ := e1
    have HN : Hid (n = 0) := hn0
    have hn63 : n ≤ 9223372036854775807 := by omega
    clear hn0 hn h hl
    go_enter Try.func19, Try.ntmps19
    go_wp2_with fail
    go_loopw [2] (fun i wr => i = .int .i64 0 ∧ wr = w) (fun _ _ => 0)
    case atStart => exact ⟨rfl, rfl⟩
    case round =>
      obtain ⟨rfl, rfl⟩ := hrel
      obtain ⟨m, hm⟩ : ∃ m : Int, (n : Int) = m := ⟨_, rfl⟩
      have j1 : ¬ (0 : Int) < (n : Int) := by have := HN.out; omega
      have j2 : decide ((0 : Int) < (n : Int)) = false := decide_eq_false j1
      have j3 : ¬ 0 < n := by omega
      have j4 : decide (0 < n) = false := decide_eq_false j3
      clear hm
      go_wp2_with fail
      go_end0
      exact ⟨rfl, Kept.refl _ _⟩
  · simp only [Value.slice.injEq] at e1
    obtain ⟨rfl, -, rfl⟩ := e1
    have HM : Hid (∀ j, j < n → ∃ ra : Int, cur[j * 10]? = some (.int .i64 ra)) := fun j hj => by
      have hjM : j < M.length := by omega
      have q := rcs_get M j _ (List.getElem?_eq_getElem hjM) 0 (by omega)
      rw [← htk, List.getElem?_take_of_lt (by omega)] at q
      exact ⟨(M[j]).a, by simpa [Rec.cs] using q⟩
    rw [← hn] at hl
    have hcap : c ≤ 9223372036854775807 := by unfold maxLen at hcm; omega
    have hnc : n ≤ c := by omega
    have HG : Hid (w.heap[g]? = some (.cells cur 57 (0, 0)) ∧ cur.size = c * 10) := ⟨hgg, hcs⟩
    clear h hn hHg hgg hncap hcm hcs htk
    go_enter Try.func19, Try.ntmps19
    go_wp2_with fail
    go_loopw [2] (fun i wr => ∃ j : Nat, i = .int .i64 (j : Int) ∧ j ≤ n ∧ Hid (Kept [g] w wr ∧ ∃ D : Array Value, wr.heap[g]? = some (.cells D 57 (0, 0)) ∧ ∀ q, j * 10 ≤ q → D[q]? = cur[q]?)) (fun i _ => (n - intOf i).toNat)
    case atStart => exact ⟨0, rfl, by omega, Kept.refl _ _, cur, HG.out.1, fun _ _ => rfl⟩
    case round =>
      obtain ⟨j, rfl, hj, HJ⟩ := hrel
      by_cases hlt : j < n
      · have j0 : (0 : Int) ≤ (j : Int) := by omega
        have j1 : (j : Int) < (n : Int) := by omega
        obtain ⟨ra, hra⟩ := HM.out j hlt
        obtain ⟨D, hD, hq⟩ := HJ.out.2
        have c0 : wr.cell? ⟨g, j * 10, none⟩ = some (.int .i64 ra) := by rw [cellB hD, hq _ (by omega)]; exact hra
        have f0 := frozen_of hD (j * 10)
        have HN : Hid (∀ v, Kept [g] w (wr.setCell ⟨g, j * 10, none⟩ v) ∧ ∃ D2 : Array Value, (wr.setCell ⟨g, j * 10, none⟩ v).heap[g]? = some (.cells D2 57 (0, 0)) ∧ ∀ q, (j + 1) * 10 ≤ q → D2[q]? = cur[q]?) := fun v =>
          ⟨HJ.out.1.setCell (Or.inl (by simp)) _, _, block_set hD _ _, fun q hh => by rw [Array.getElem?_setIfInBounds_ne (by omega)]; exact hq q (by omega)⟩
        clear hD hq hra
        go_wp2_with fail
        go_roundw
        case rel => exact ⟨j + 1, by go_num, by omega, HN.out _⟩
        case measure => simp [intOf]; omega
      · have j1 : ¬ (j : Int) < (n : Int) := by omega
        go_wp2_with fail
        go_end0
        exact ⟨rfl, HJ.out.1⟩

end Go.Proofs.Ytlecpeofjabndaa
