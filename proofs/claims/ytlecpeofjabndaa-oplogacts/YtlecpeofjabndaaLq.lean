/-
  slices.DeleteFunc of records, as Drop calls it.
-/
import Derived.Test.YtlecpeofjabndaaLp
namespace Go.Proofs.Ytlecpeofjabndaa
open Go.RowKit
set_option linter.unusedVariables false
set_option linter.unusedSimpArgs false

theorem rcs_take (R : List Rec) (n : Nat) (hn : n ≤ R.length) : (rcs R).take (n * 10) = rcs (R.take n) := by
  have e : rcs R = rcs (R.take n) ++ rcs (R.drop n) := by rw [← rcs_append, List.take_append_drop]
  have hl : (rcs (R.take n)).length = n * 10 := by rw [rcs_length, List.length_take]; omega
  rw [e, ← hl, List.take_left]

/-- Whose first n have been looked at; those that stay lie at the beginning. -/
structure Fl (w wr : World) (g : Nat) (A : List Value) (R : List Rec) (ua uk : Int) (n m : Nat) : Prop where
  kp : Kept [g] w wr
  many : m = ((R.take n).filter (keepB ua uk)).length
  here : ∃ C : List Value, wr.heap[g]? = some (.cells C.toArray 57 (0, 0)) ∧ C.length = A.length ∧ C.take (m * 10) = rcs ((R.take n).filter (keepB ua uk)) ∧ ∀ q, n * 10 ≤ q → C[q]? = A[q]?

theorem Fl.kept {w wr w' : World} {g : Nat} {A : List Value} {R : List Rec} {ua uk : Int} {n m : Nat} (h : Fl w wr g A R ua uk n m) (k : Kept [] wr w') : Fl w w' g A R ua uk n m := by
  obtain ⟨C, hC, r⟩ := h.here
  exact ⟨h.kp.trans k (by simp), h.many, C, (k.block g (lt_of_heap hC) (by simp)).trans hC, r⟩

theorem Fl.le {w wr : World} {g : Nat} {A : List Value} {R : List Rec} {ua uk : Int} {n m : Nat} (h : Fl w wr g A R ua uk n m) : m ≤ n := by
  have h1 : ((R.take n).filter (keepB ua uk)).length ≤ (R.take n).length := List.length_filter_le ..
  have h2 : (R.take n).length ≤ n := by rw [List.length_take]; omega
  have := h.many
  omega

theorem Fl.frozen {w wr : World} {g : Nat} {A : List Value} {R : List Rec} {ua uk : Int} {n m : Nat} (h : Fl w wr g A R ua uk n m) (i : Nat) : wr.frozen? ⟨g, i, none⟩ = false := by
  obtain ⟨C, hC, -⟩ := h.here
  exact frozen_of hC i

theorem Fl.anyv {w wr : World} {g : Nat} {A : List Value} {R : List Rec} {ua uk : Int} {n m : Nat} (h : Fl w wr g A R ua uk n m) {i : Nat} (hi : i < A.length) : ∃ v, wr.cell? ⟨g, i, none⟩ = some v := by
  obtain ⟨C, hC, hl, -⟩ := h.here
  rw [cellB hC]
  exact ⟨C[i]'(by omega), by simp⟩

theorem Fl.cell {w wr : World} {g : Nat} {A : List Value} {R : List Rec} {ua uk : Int} {n m : Nat} (h : Fl w wr g A R ua uk n m) {q : Nat} (hq : n * 10 ≤ q) {v : Value} (hA : A[q]? = some v) : wr.cell? ⟨g, q, none⟩ = some v := by
  obtain ⟨C, hC, -, -, h3⟩ := h.here
  rw [cellB hC]
  have := h3 q hq
  simpa [hA] using this

/-- One that goes. -/
theorem Fl.skip {w wr : World} {g : Nat} {A : List Value} {R : List Rec} {ua uk : Int} {n m : Nat} (h : Fl w wr g A R ua uk n m) (hn : n < R.length) (hb : keepB ua uk R[n] = false) : Fl w wr g A R ua uk (n + 1) m := by
  have e : (R.take (n + 1)).filter (keepB ua uk) = (R.take n).filter (keepB ua uk) := by
    rw [List.take_succ_eq_append_getElem hn, List.filter_append]
    simp [hb]
  obtain ⟨C, hC, hl, ht, hq⟩ := h.here
  exact ⟨h.kp, by rw [e]; exact h.many, C, hC, hl, by rw [e]; exact ht, fun q hh => hq q (by omega)⟩

/-- One that stays. -/
theorem Fl.stay {w wr : World} {g : Nat} {A : List Value} {R : List Rec} {ua uk : Int} {n m : Nat} (h : Fl w wr g A R ua uk n m) (hn : n < R.length) (hA : R.length * 10 ≤ A.length) (hb : keepB ua uk R[n] = true) : Fl w (wr.setCells g (m * 10) (R[n]).cs) g A R ua uk (n + 1) (m + 1) := by
  have e : (R.take (n + 1)).filter (keepB ua uk) = (R.take n).filter (keepB ua uk) ++ [R[n]] := by
    rw [List.take_succ_eq_append_getElem hn, List.filter_append]
    simp [hb]
  have hle := h.le
  obtain ⟨C, hC, hl, ht, hq⟩ := h.here
  have h10 : (R[n]).cs.length = 10 := rfl
  refine ⟨kept_cells _ _ h.kp (by simp), by rw [e, List.length_append, ← h.many]; rfl, _, heap_setCells g 57 _ _ _ C hC (by rw [h10]; omega), ?_, ?_, ?_⟩
  · rw [List.length_append, List.length_append, List.length_take, List.length_drop, h10]; omega
  · have hT : (C.take (m * 10) ++ (R[n]).cs).length = (m + 1) * 10 := by rw [List.length_append, List.length_take, h10]; omega
    rw [← hT, List.take_left, ht, e, rcs_append]
    simp [rcs]
  · intro q hh
    have hT : (C.take (m * 10) ++ (R[n]).cs).length = (m + 1) * 10 := by rw [List.length_append, List.length_take, h10]; omega
    rw [List.getElem?_append_right (by omega), hT, List.getElem?_drop, h10, show m * 10 + 10 + (q - (m + 1) * 10) = q by omega]
    exact hq q (by omega)

theorem filter_all_keep {R : List Rec} {ua uk : Int} (h : R.findIdx? (fun r => !keepB ua uk r) = none) : R.filter (keepB ua uk) = R := by
  rw [List.findIdx?_eq_none_iff] at h
  rw [List.filter_eq_self]
  intro x hx
  have := h x hx
  simpa using this

theorem filter_first {R : List Rec} {ua uk : Int} {n : Nat} (h : R.findIdx? (fun r => !keepB ua uk r) = some n) : n < R.length ∧ (R.take (n + 1)).filter (keepB ua uk) = R.take n ∧ (R.take n).length = n := by
  rw [List.findIdx?_eq_some_iff_getElem] at h
  obtain ⟨hn, h1, h2⟩ := h
  have e : (R.take n).filter (keepB ua uk) = R.take n := by
    rw [List.filter_eq_self]
    intro x hx
    obtain ⟨j, hj, rfl⟩ := List.getElem_of_mem hx
    have hj' : j < n := by rw [List.length_take] at hj; omega
    have := h2 j hj'
    simp at this
    simpa using this
  refine ⟨hn, ?_, by rw [List.length_take]; omega⟩
  rw [List.take_succ_eq_append_getElem hn, List.filter_append, e]
  have : keepB ua uk R[n] = false := by simpa using h1
  simp [this]

set_option maxRecDepth 100000 in
set_option maxHeartbeats 8000000 in
theorem p_delf {w : World} {H : Nat} {v : Value} {R : List Rec} (h : Rr w H v R) (hn : R.length ≤ 256) {ua uk : Int} {Z : Nat} (hZ : w.cell? ⟨Z, 0, none⟩ = some (.int .i64 ua) ∧ w.cell? ⟨Z, 1, none⟩ = some (.int .i64 uk)) (hZv : v.ownBlock ≠ some Z) :
    Calls Try.prog 30 #[v, .func (.func 28) #[] #[.pointer (some ⟨Z, 0, none⟩)]] w fun e w' => ∃ a l c, e = .returned (.slice a l c) ∧ Rr w' H (.slice a l c) (R.filter (keepB ua uk)) ∧ Kept v.ownBlock.toList w w' ∧ (Value.slice a l c).ownBlock = v.ownBlock := by
  obtain ⟨a0, c0, hv, hc0, hcm0, -⟩ := h.slice
  subst hv
  have P := p_ix h rfl hn hZ
  rcases hf : R.findIdx? (fun r => !keepB ua uk r) with _ | f
  · have HE : Hid (R.filter (keepB ua uk) = R ∧ Rr w H (.slice a0 R.length c0) R) := ⟨filter_all_keep hf, h⟩
    have hI : firstI R ua uk = -1 := by simp [firstI, hf]
    rw [hI] at P
    clear hI hf h hZ hZv hcm0
    go_enter Try.func30, Try.ntmps30
    go_wp2_with fail
    refine P.mono ?_
    rintro e w1 ⟨rfl, k1⟩
    have HK : Hid (_) := k1
    clear P k1
    go_wp2_with fail
    go_ret
    exact ⟨a0, R.length, c0, rfl, by rw [HE.out.1]; exact HE.out.2.kept HK.out (by simp), HK.out.mono (by simp), rfl⟩
  · have hI : firstI R ua uk = (f : Int) := by simp [firstI, hf]
    rw [hI] at P
    obtain ⟨hfl, hff, hft⟩ := filter_first hf
    rcases h.form with ⟨-, rfl⟩ | ⟨g, cap, cur, e1, hHg, hgg, hncap, hcm, hcs, htk⟩
    · simp at hfl
    simp only [Value.slice.injEq, true_and] at e1
    obtain ⟨rfl, rfl⟩ := e1
    obtain ⟨A, hA⟩ : ∃ A, cur.toList = A := ⟨_, rfl⟩
    obtain ⟨N, hN⟩ : ∃ N, R.length = N := ⟨_, rfl⟩
    have hAl : A.length = c0 * 10 := by rw [← hA]; simpa using hcs
    have hcur : cur = A.toArray := by rw [← hA]
    rw [hcur] at hgg
    have HM : Hid (H ≤ g ∧ N ≤ c0 ∧ c0 ≤ maxLen ∧ A.length = c0 * 10 ∧ R.length = N) := ⟨hHg, by omega, hcm, hAl, hN⟩
    have HAR : Hid (∀ n (hn : n < R.length), ∀ j u, (R[n]).cs[j]? = some u → A[n * 10 + j]? = some u) := fun n hn j u hu => by
      have hj : j < 10 := by
        rcases Nat.lt_or_ge j 10 with h | h
        · exact h
        · rw [List.getElem?_eq_none (by simpa [Rec.cs] using h)] at hu; cases hu
      have q := rcs_get R n _ (List.getElem?_eq_getElem hn) j hj
      rw [hu, ← htk, hA, List.getElem?_take_of_lt (by omega)] at q
      exact q
    have HF0 : Hid (Fl w w g A R ua uk (f + 1) f) := ⟨Kept.refl _ _, by rw [hff, hft], A, hgg, rfl, by
      rw [hff, ← rcs_take R f (by omega), ← htk, hA, List.take_take]
      congr 1
      omega, fun _ _ => rfl⟩
    have HZ : Hid (_ ∧ _) := hZ
    have HZg : Hid (Z ≠ g) := fun e => hZv (by rw [e]; rfl)
    have hf0 : ¬ (f : Int) = -1 := by omega
    have hf1 : ((f : Int) == -1) = false := by simp
    have hcap : c0 ≤ 9223372036854775807 := by unfold maxLen at hcm; omega
    rw [hN] at hn hfl P ⊢
    have hNc : N ≤ c0 := HM.out.2.1
    clear h hI hf hff hft hHg hgg hncap hcm hcs htk hA hN hAl hcur hZ hZv hc0 hcm0
    go_enter Try.func30, Try.ntmps30
    go_wp2_with fail
    refine P.mono ?_
    rintro e w1 ⟨rfl, k1⟩
    have HF1 : Hid (_) := HF0.out.kept k1
    clear P k1 HF0
    go_wp2_with fail
    go_loopw [5, 6] (fun i j wr => ∃ n m : Nat, j = .int .i64 (n : Int) ∧ i = .int .i64 (m : Int) ∧ m < n ∧ n ≤ N ∧ Hid (Fl w wr g A R ua uk n m)) (fun _ j _ => (N - intOf j).toNat)
    case atStart => exact ⟨f + 1, f, by go_num, rfl, by omega, by omega, HF1.out⟩
    case round =>
      obtain ⟨n, m, rfl, rfl, hmn, hnN, HJ⟩ := hrel
      by_cases hlt : n < N
      · have i0 : (0 : Int) ≤ (n : Int) := by omega
        have i1 : (n : Int) < (N : Int) := by omega
        have m0 : (0 : Int) ≤ (m : Int) := by omega
        have m1 : (m : Int) < (N : Int) := by omega
        have hnR : n < R.length := by rw [HM.out.2.2.2.2]; exact hlt
        have hq := HAR.out n hnR
        obtain ⟨r, hr⟩ : ∃ r, R[n] = r := ⟨_, rfl⟩
        have HRe : Hid (R[n] = r) := hr
        rw [hr] at hq
        obtain ⟨a, k, kind, core, fd, ofs, num, p1, p2, dat⟩ := r
        have q0 : wr.cell? ⟨g, n * 10, none⟩ = some (.int .i64 a) := HJ.out.cell (by omega) (hq 0 _ rfl)
        have q1 : wr.cell? ⟨g, n * 10 + 1, none⟩ = some (.int .i64 k) := HJ.out.cell (by omega) (hq 1 _ rfl)
        have q2 : wr.cell? ⟨g, n * 10 + 2, none⟩ = some (.int .i64 kind) := HJ.out.cell (by omega) (hq 2 _ rfl)
        have q3 : wr.cell? ⟨g, n * 10 + 3, none⟩ = some (.int .i64 core) := HJ.out.cell (by omega) (hq 3 _ rfl)
        have q4 : wr.cell? ⟨g, n * 10 + 4, none⟩ = some (.int .i64 fd) := HJ.out.cell (by omega) (hq 4 _ rfl)
        have q5 : wr.cell? ⟨g, n * 10 + 5, none⟩ = some (.int .i64 ofs) := HJ.out.cell (by omega) (hq 5 _ rfl)
        have q6 : wr.cell? ⟨g, n * 10 + 6, none⟩ = some (.int .i64 num) := HJ.out.cell (by omega) (hq 6 _ rfl)
        have q7 : wr.cell? ⟨g, n * 10 + 7, none⟩ = some (.string p1) := HJ.out.cell (by omega) (hq 7 _ rfl)
        have q8 : wr.cell? ⟨g, n * 10 + 8, none⟩ = some (.string p2) := HJ.out.cell (by omega) (hq 8 _ rfl)
        have q9 : wr.cell? ⟨g, n * 10 + 9, none⟩ = some (.string dat) := HJ.out.cell (by omega) (hq 9 _ rfl)
        obtain ⟨W3, Y, HWY, HKY, HBY⟩ := box1 wr #[.int .i64 a, .int .i64 k, .int .i64 kind, .int .i64 core, .int .i64 fd, .int .i64 ofs, .int .i64 num, .string p1, .string p2, .string dat] 57
        have HF3 : Hid (_) := HJ.out.kept HKY.out.1
        have HZ3 : Hid (_) := k2_kept HZ.out HF3.out.kp (by simpa using HZg.out)
        clear hr hq
        go_upto_region 8 with fail
        rw [HWY.out.1, HWY.out.2]
        clear HWY q0 q1 q2 q3 q4 q5 q6 q7 q8 q9
        have y0 : W3.cell? ⟨Y, 0, none⟩ = some (.int .i64 a) := cellB HBY.out
        have y1 : W3.cell? ⟨Y, 1, none⟩ = some (.int .i64 k) := cellB HBY.out
        have y2 : W3.cell? ⟨Y, 2, none⟩ = some (.int .i64 kind) := cellB HBY.out
        have y3 : W3.cell? ⟨Y, 3, none⟩ = some (.int .i64 core) := cellB HBY.out
        have y4 : W3.cell? ⟨Y, 4, none⟩ = some (.int .i64 fd) := cellB HBY.out
        have y5 : W3.cell? ⟨Y, 5, none⟩ = some (.int .i64 ofs) := cellB HBY.out
        have y6 : W3.cell? ⟨Y, 6, none⟩ = some (.int .i64 num) := cellB HBY.out
        have y7 : W3.cell? ⟨Y, 7, none⟩ = some (.string p1) := cellB HBY.out
        have y8 : W3.cell? ⟨Y, 8, none⟩ = some (.string p2) := cellB HBY.out
        have y9 : W3.cell? ⟨Y, 9, none⟩ = some (.string dat) := cellB HBY.out
        go_wp2_with fail
        refine (p_goes a k kind core fd ofs num p1 p2 dat HZ3.out).mono ?_
        rintro e w5 ⟨rfl, k5⟩
        have HF5 : Hid (_) := HF3.out.kept k5
        have HB5 : Hid (_) := (k5.block _ (lt_of_heap HBY.out) (by simp)).trans HBY.out
        clear k5 y0 y1 y2 y3 y4 y5 y6 y7 y8 y9 HF3 HZ3 HBY HJ HKY
        rcases hb : keepB ua uk ⟨a, k, kind, core, fd, ofs, num, p1, p2, dat⟩ with _ | _
        · have HN : Hid (_) := HF5.out.skip hnR (by rw [HRe.out]; exact hb)
          clear hb
          go_wp2_with fail
          go_roundw
          case rel => exact ⟨n + 1, m, by go_num, rfl, by omega, by omega, HN.out⟩
          case measure => simp [intOf]; omega
        · have HN : Hid (Fl w (w5.setCells g (m * 10) (R[n]).cs) g A R ua uk (n + 1) (m + 1)) := HF5.out.stay hnR (by have := HM.out; omega) (by rw [HRe.out]; exact hb)
          rw [HRe.out] at HN
          have y0 : w5.cell? ⟨Y, 0, none⟩ = some (.int .i64 a) := cellB HB5.out
          have y1 : w5.cell? ⟨Y, 1, none⟩ = some (.int .i64 k) := cellB HB5.out
          have y2 : w5.cell? ⟨Y, 2, none⟩ = some (.int .i64 kind) := cellB HB5.out
          have y3 : w5.cell? ⟨Y, 3, none⟩ = some (.int .i64 core) := cellB HB5.out
          have y4 : w5.cell? ⟨Y, 4, none⟩ = some (.int .i64 fd) := cellB HB5.out
          have y5 : w5.cell? ⟨Y, 5, none⟩ = some (.int .i64 ofs) := cellB HB5.out
          have y6 : w5.cell? ⟨Y, 6, none⟩ = some (.int .i64 num) := cellB HB5.out
          have y7 : w5.cell? ⟨Y, 7, none⟩ = some (.string p1) := cellB HB5.out
          have y8 : w5.cell? ⟨Y, 8, none⟩ = some (.string p2) := cellB HB5.out
          have y9 : w5.cell? ⟨Y, 9, none⟩ = some (.string dat) := cellB HB5.out
          obtain ⟨v0, g0⟩ := HF5.out.anyv (i := m * 10) (by have := HM.out; omega)
          have z0 := HF5.out.frozen (m * 10)
          obtain ⟨v1, g1⟩ := HF5.out.anyv (i := m * 10 + 1) (by have := HM.out; omega)
          have z1 := HF5.out.frozen (m * 10 + 1)
          obtain ⟨v2, g2⟩ := HF5.out.anyv (i := m * 10 + 2) (by have := HM.out; omega)
          have z2 := HF5.out.frozen (m * 10 + 2)
          obtain ⟨v3, g3⟩ := HF5.out.anyv (i := m * 10 + 3) (by have := HM.out; omega)
          have z3 := HF5.out.frozen (m * 10 + 3)
          obtain ⟨v4, g4⟩ := HF5.out.anyv (i := m * 10 + 4) (by have := HM.out; omega)
          have z4 := HF5.out.frozen (m * 10 + 4)
          obtain ⟨v5, g5⟩ := HF5.out.anyv (i := m * 10 + 5) (by have := HM.out; omega)
          have z5 := HF5.out.frozen (m * 10 + 5)
          obtain ⟨v6, g6⟩ := HF5.out.anyv (i := m * 10 + 6) (by have := HM.out; omega)
          have z6 := HF5.out.frozen (m * 10 + 6)
          obtain ⟨v7, g7⟩ := HF5.out.anyv (i := m * 10 + 7) (by have := HM.out; omega)
          have z7 := HF5.out.frozen (m * 10 + 7)
          obtain ⟨v8, g8⟩ := HF5.out.anyv (i := m * 10 + 8) (by have := HM.out; omega)
          have z8 := HF5.out.frozen (m * 10 + 8)
          obtain ⟨v9, g9⟩ := HF5.out.anyv (i := m * 10 + 9) (by have := HM.out; omega)
          have z9 := HF5.out.frozen (m * 10 + 9)
          obtain ⟨W6, hW6⟩ : ∃ W6, w5.setCells g (m * 10) (Rec.cs ⟨a, k, kind, core, fd, ofs, num, p1, p2, dat⟩) = W6 := ⟨_, rfl⟩
          have HW6 : Hid ((((((((((w5.setCell ⟨g, m * 10, none⟩ (.int .i64 a)).setCell ⟨g, m * 10 + 1, none⟩ (.int .i64 k)).setCell ⟨g, m * 10 + 2, none⟩ (.int .i64 kind)).setCell ⟨g, m * 10 + 3, none⟩ (.int .i64 core)).setCell ⟨g, m * 10 + 4, none⟩ (.int .i64 fd)).setCell ⟨g, m * 10 + 5, none⟩ (.int .i64 ofs)).setCell ⟨g, m * 10 + 6, none⟩ (.int .i64 num)).setCell ⟨g, m * 10 + 7, none⟩ (.string p1)).setCell ⟨g, m * 10 + 8, none⟩ (.string p2)).setCell ⟨g, m * 10 + 9, none⟩ (.string dat) = W6) := hW6
          rw [hW6] at HN
          clear hb hW6
          go_upto_region 10 with fail
          rw [HW6.out]
          clear HW6 y0 g0 z0 y1 g1 z1 y2 g2 z2 y3 g3 z3 y4 g4 z4 y5 g5 z5 y6 g6 z6 y7 g7 z7 y8 g8 z8 y9 g9 z9
          go_wp2_with fail
          go_roundw
          case rel => exact ⟨n + 1, m + 1, by go_num, by go_num, by omega, by omega, HN.out⟩
          case measure => simp [intOf]; omega
      · have i1 : ¬ (n : Int) < (N : Int) := by omega
        have hnn : n = N := by omega
        subst hnn
        obtain ⟨C, hC, hCl, hCt, -⟩ := HJ.out.here
        have hAl := HM.out.2.2.2.1
        have hRn := HM.out.2.2.2.2
        rw [show R.take n = R by rw [List.take_of_length_le (by omega)]] at hCt
        have hmn2 : m = (R.filter (keepB ua uk)).length := by have := HJ.out.many; rwa [show R.take n = R by rw [List.take_of_length_le (by omega)]] at this
        obtain ⟨zs, hzl, hcl⟩ := run_clear_any (P := Try.prog) wr 44 57 0 _ 10 Try.underlying44 zero57 rfl (by omega) (by intro v hv; simp [Value.cells] at hv; rcases hv with rfl | rfl | rfl | rfl | rfl | rfl | rfl | rfl | rfl | rfl <;> rfl) g (m * 10) (n - m) (c0 - m) C.toArray 57 hC (by omega) (by simp; omega)
        obtain ⟨C2, hC2⟩ : ∃ C2, C.toArray.toList.take (m * 10) ++ zs ++ C.toArray.toList.drop (m * 10 + (n - m) * 10) = C2 := ⟨_, rfl⟩
        rw [hC2] at hcl
        obtain ⟨W7, hW7⟩ : ∃ W7, wr.setRow g C2.toArray = W7 := ⟨_, rfl⟩
        rw [hW7] at hcl
        have HE : Hid (Rr W7 H (.slice (some ⟨g, 0, none⟩) m c0) (R.filter (keepB ua uk)) ∧ Kept [g] w W7) := by
          have hM := HM.out
          have l1 : C2.length = c0 * 10 := by rw [← hC2]; simp [hzl]; omega
          have l2 : C2.take (m * 10) = rcs (R.filter (keepB ua uk)) := by
            rw [← hC2, List.append_assoc, List.take_append_of_le_length (by simp; omega), List.take_of_length_le (by simp; omega)]
            simpa using hCt
          refine ⟨⟨by rw [rcs_length], .inr ⟨g, c0, C2.toArray, by rw [← hmn2], hM.1, ?_, by omega, hM.2.2.1, by simpa using l1, by rw [← hmn2]; simpa using l2⟩⟩, ?_⟩
          · rw [← hW7]; exact setRow_heap wr g C.toArray _ _ _ hC
          · rw [← hW7]; exact HJ.out.kp.setRow (Or.inl (by simp)) _
        have m0 : (0 : Int) ≤ (m : Int) := by omega
        have m1 : (m : Int) ≤ (n : Int) := by omega
        have m2 : ¬ c0 = m := by omega
        have m3 : (m : Int) ≤ (c0 : Int) := by omega
        have HCl : Hid (_) := hcl
        clear hcl hC hCl hCt hC2 hW7 hAl hRn hmn2 hzl
        have hcl3 := HCl.out
        go_wp2_with fail
        go_ret
        have HK7 : Kept (Value.slice (some ⟨g, 0, none⟩) n c0).ownBlock.toList w W7 := HE.out.2
        exact ⟨some ⟨g, 0, none⟩, m, c0, rfl, HE.out.1, HK7, rfl⟩

end Go.Proofs.Ytlecpeofjabndaa
