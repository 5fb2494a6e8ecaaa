/-
  The reference's Merge.
-/
import Derived.Test.YtlecpeofjabndaaOf
namespace Go.Proofs.Ytlecpeofjabndaa
open Go.RowKit
set_option linter.unusedVariables false
set_option linter.unusedSimpArgs false

theorem ins_length (M : List Rec) (r : Rec) : (insR M r).length = M.length + 1 := by
  have e : M.takeWhile (fun e => !behB r e) ++ M.dropWhile (fun e => !behB r e) = M := List.takeWhile_append_dropWhile
  have h := congrArg List.length e
  unfold insR
  simp only [List.length_append, List.length_cons] at h ⊢
  omega

theorem fold_length (l : List Rec) : ∀ M : List Rec, (l.foldl insR M).length = M.length + l.length := by
  induction l with
  | nil => intro M; simp
  | cons x l ih => intro M; rw [List.foldl_cons, ih, ins_length, List.length_cons]; omega

theorem fold_srt (l : List Rec) : ∀ M : List Rec, srt M → srt (l.foldl insR M) := by
  induction l with
  | nil => intro M h; exact h
  | cons x l ih => intro M h; rw [List.foldl_cons]; exact ih _ (ins_srt h x)

theorem ref_step {L : List (List Rec)} {i : Nat} (hi : i < L.length) : refM (L.take (i + 1)) = (L[i]).foldl insR (refM (L.take i)) := by
  unfold refM
  rw [List.take_succ_eq_append_getElem hi, List.foldl_append]
  rfl

theorem ref_srt (L : List (List Rec)) : srt (refM L) := by
  have : ∀ (L : List (List Rec)) (M : List Rec), srt M → srt (L.foldl (fun out l => l.foldl insR out) M) := by
    intro L
    induction L with
    | nil => intro M h; exact h
    | cons l L ih => intro M h; rw [List.foldl_cons]; exact ih _ (fold_srt l M h)
  exact this L [] List.Pairwise.nil

theorem fold_step {R M : List Rec} {j : Nat} (hj : j < R.length) : (R.take (j + 1)).foldl insR M = insR ((R.take j).foldl insR M) R[j] := by
  rw [List.take_succ_eq_append_getElem hj, List.foldl_append]
  rfl

/-- Where a record is put in. -/
theorem ins_at : ∀ {M : List Rec} {r : Rec} {k : Nat}, (∀ y ∈ M.take k, behB r y = false) → (∀ y ∈ M.drop k, behB r y = true) → M.take k ++ r :: M.drop k = insR M r := by
  intro M
  induction M with
  | nil => intro r k _ _; simp [insR]
  | cons x M ih =>
    intro r k h1 h2
    cases k with
    | zero =>
      have hb := h2 x (by simp)
      unfold insR
      rw [List.takeWhile_cons_of_neg (by simp [hb]), List.dropWhile_cons_of_neg (by simp [hb])]
      simp
    | succ k =>
      have hb := h1 x (by simp)
      have := ih (r := r) (k := k) (fun y hy => h1 y (by simp [hy])) (fun y hy => h2 y (by simpa using hy))
      unfold insR at this ⊢
      rw [List.takeWhile_cons_of_pos (by simp [hb]), List.dropWhile_cons_of_pos (by simp [hb])]
      simpa using this

/-- What stands ahead of one that is not behind r. -/
theorem ahead_no {M : List Rec} {r : Rec} {k : Nat} (hs : srt M) (hk : k < M.length) (hb : behB r M[k] = false) : ∀ y ∈ M.take (k + 1), behB r y = false := by
  intro y hy
  obtain ⟨j, hj, rfl⟩ := List.getElem_of_mem hy
  have hj2 : j < k + 1 := by rw [List.length_take] at hj; omega
  rw [List.getElem_take]
  by_cases e : j = k
  · subst e; exact hb
  · have h1 := List.pairwise_iff_getElem.1 hs j k (by omega) hk (by omega)
    unfold behB at hb ⊢
    rw [less_no] at hb ⊢
    rw [leR_iff] at h1
    omega

/-- A record laid at a place of a row. -/
theorem Rr.lay {w : World} {H g n c : Nat} {D : List Rec} (h : Rr w H (.slice (some ⟨g, 0, none⟩) n c) D) {k : Nat} (hk : k < D.length) (r : Rec) : Rr (w.setCells g (k * 10) r.cs) H (.slice (some ⟨g, 0, none⟩) n c) (D.set k r) ∧ Kept [g] w (w.setCells g (k * 10) r.cs) := by
  refine ⟨?_, kept_cells _ _ (Kept.refl _ _) (by simp)⟩
  rcases h.form with ⟨e1, -⟩ | ⟨g', cap, cur, e1, h2, h3, h4, h5, h6, h7⟩
  · cases e1
  · simp only [Value.slice.injEq, Option.some.injEq, Addr.mk.injEq, and_true] at e1
    obtain ⟨rfl, rfl, rfl⟩ := e1
    have hr : r.cs.length = 10 := rfl
    obtain ⟨A, hA⟩ : ∃ A : List Value, cur = A.toArray := ⟨cur.toList, by simp⟩
    subst hA
    simp only [List.size_toArray] at h6
    have hle : k * 10 + r.cs.length ≤ A.length := by rw [hr, h6]; omega
    have h8 := heap_setCells g 57 r.cs (k * 10) w A h3 hle
    rw [hr] at h8
    unfold Rr World.ownsRow
    rw [List.length_set]
    refine ⟨by rw [rcs_length, List.length_set], Or.inr ⟨g, c, _, rfl, h2, h8, h4, h5, ?_, ?_⟩⟩
    · rw [List.size_toArray, List.length_append, List.length_append, List.length_take, List.length_drop, hr]; rw [hr] at hle; omega
    · show (A.take (k * 10) ++ r.cs ++ A.drop (k * 10 + 10)).take (D.length * 10) = _
      have hs : D.set k r = D.take k ++ r :: D.drop (k + 1) := by rw [List.set_eq_take_append_cons_drop, if_pos hk]
      have hD : rcs D = rcs (D.take k) ++ (D[k]).cs ++ rcs (D.drop (k + 1)) := by
        have e : D = D.take k ++ [D[k]] ++ D.drop (k + 1) := by
          rw [List.append_assoc, List.singleton_append, ← List.drop_eq_getElem_cons hk, List.take_append_drop]
        have := congrArg rcs e
        rw [rcs_append, rcs_append] at this
        simpa [rcs] using this
      have hsr : rcs (D.set k r) = rcs (D.take k) ++ r.cs ++ rcs (D.drop (k + 1)) := by
        rw [hs, rcs_append]; simp [rcs]
      have l1 : (rcs (D.take k)).length = k * 10 := by rw [rcs_length, List.length_take, Nat.min_eq_left (by omega)]
      have l2 : ((D[k]).cs).length = 10 := rfl
      have l3 : (rcs (D.drop (k + 1))).length = (D.length - (k + 1)) * 10 := by rw [rcs_length, List.length_drop]
      have h7' : A.take (D.length * 10) = rcs D := h7
      have hc : A = rcs (D.take k) ++ (D[k]).cs ++ rcs (D.drop (k + 1)) ++ A.drop (D.length * 10) := by
        rw [← hD, ← h7', List.take_append_drop]
      have t1 : A.take (k * 10) = rcs (D.take k) := by
        conv => lhs; rw [hc]
        rw [List.append_assoc, List.append_assoc, ← l1, List.take_left]
      have t2 : A.drop (k * 10 + 10) = rcs (D.drop (k + 1)) ++ A.drop (D.length * 10) := by
        have l4 : (rcs (D.take k) ++ (D[k]).cs).length = k * 10 + 10 := by rw [List.length_append, l1, l2]
        conv => lhs; rw [hc]
        rw [List.append_assoc, ← l4, List.drop_left]
      rw [t1, t2, hsr]
      have l5 : (rcs (D.take k) ++ r.cs ++ rcs (D.drop (k + 1))).length = D.length * 10 := by
        rw [List.length_append, List.length_append, l1, l3, hr]; omega
      rw [← List.append_assoc, ← l5, List.take_left]

theorem Rr.frozen {w : World} {H g n c : Nat} {D : List Rec} (h : Rr w H (.slice (some ⟨g, 0, none⟩) n c) D) (i : Nat) : w.frozen? ⟨g, i, none⟩ = false := by
  rcases h.form with ⟨e1, -⟩ | ⟨g', cap, cur, e1, h2, h3, h4, h5, h6, h7⟩
  · cases e1
  · simp only [Value.slice.injEq, Option.some.injEq, Addr.mk.injEq, and_true] at e1
    obtain ⟨rfl, -, -⟩ := e1
    exact frozen_of h3 i

theorem Rr.many {w : World} {H : Nat} {a : Option Addr} {n c : Nat} {D : List Rec} (h : Rr w H (.slice a n c) D) : n = D.length ∧ n ≤ c ∧ c ≤ maxLen := by
  rcases h.form with ⟨e1, rfl⟩ | ⟨g', cap, cur, e1, h2, h3, h4, h5, h6, h7⟩
  · simp only [Value.slice.injEq] at e1
    obtain ⟨-, rfl, rfl⟩ := e1
    exact ⟨rfl, by omega, by unfold maxLen; omega⟩
  · simp only [Value.slice.injEq] at e1
    obtain ⟨-, rfl, rfl⟩ := e1
    exact ⟨rfl, h4, h5⟩

theorem ins_set {M : List Rec} {x r : Rec} {k : Nat} (hk : k ≤ M.length) : (M.take k ++ x :: M.drop k).set k r = M.take k ++ r :: M.drop k := by
  have hl : (M.take k).length = k := by rw [List.length_take]; omega
  rw [List.set_append_right _ _ (by omega), hl, Nat.sub_self, List.set_cons_zero]

theorem at_before {M : List Rec} {x : Rec} {t : Nat} (ht : t < M.length) {h : t < (M.take (t + 1) ++ x :: M.drop (t + 1)).length} : (M.take (t + 1) ++ x :: M.drop (t + 1))[t]'h = M[t] := by
  rw [List.getElem_append_left (by rw [List.length_take]; omega), List.getElem_take]

theorem up_one {M : List Rec} {t : Nat} (ht : t < M.length) : M.take (t + 1) ++ M[t] :: M.drop (t + 1) = M.take t ++ M[t] :: M.drop t := by
  rw [List.take_succ_eq_append_getElem ht, List.append_assoc, List.drop_eq_getElem_cons ht]
  rfl

set_option maxRecDepth 100000 in
set_option maxHeartbeats 8000000 in
theorem r_merge {H : Nat} {w : World} {q gc gl : Nat} {C : List Co} (h : Re H w q gc gl C) :
    Calls Try.prog 32 #[.pointer (some ⟨q, 0, none⟩)] w fun e w' => ∃ v, e = .returned v ∧ Rr w' w.heap.size v (refM (C.map Co.R)) ∧ Kept [] w w' := by
  have HL : Hid (Re H w q gc gl C) := h
  obtain ⟨n, hN⟩ : ∃ n, C.length = n := ⟨_, rfl⟩
  have HN : Hid (C.length = n) := hN
  have hn8 : n ≤ 8 := by rw [← hN]; exact h.chi
  clear h hN
  go_enter Try.func32, Try.ntmps32
  go_wp2_with fail
  go_loopw [4, 3] (fun ix u wr => ∃ (i : Nat) (va : Option Addr) (vc l : Nat), ix = .int .i64 (i : Int) ∧ u = .slice va l vc ∧ i ≤ n ∧ Hid (Rr wr w.heap.size (.slice va l vc) (refM ((C.map Co.R).take i)) ∧ Kept [] w wr ∧ l = (refM ((C.map Co.R).take i)).length ∧ l ≤ i * 256)) (fun ix _ _ => (n - intOf ix).toNat)
  case atStart => exact ⟨0, none, 0, 0, rfl, rfl, by omega, Rr.nil _ _, Kept.refl _ _, rfl, by omega⟩
  case round =>
    obtain ⟨i, va, vc, l, rfl, rfl, hi, HI⟩ := hrel
    have HLr : Hid (Re H wr q gc gl C) := HL.out.kept0 HI.out.2.1
    have c0 : wr.cell? ⟨q, 0, none⟩ = some (.slice (some ⟨gc, 0, none⟩) n n) := by rw [← HN.out]; exact HLr.out.box.1
    by_cases hlt : i < n
    · have i0 : (0 : Int) ≤ (i : Int) := by omega
      have i1 : (i : Int) < (n : Int) := by omega
      have hiC : i < C.length := by rw [HN.out]; exact hlt
      obtain ⟨av, cv, hv, hcl, hcm, -⟩ := (HL.out.each i hiC).slice
      obtain ⟨R, hR⟩ : ∃ R, (C[i]).R = R := ⟨_, rfl⟩
      obtain ⟨rl, hrl⟩ : ∃ rl, R.length = rl := ⟨_, rfl⟩
      rw [hR, hrl] at hv
      rw [hR, hrl] at hcl
      have HRr : Hid (Rr w H (.slice av rl cv) R ∧ R.length = rl ∧ rl ≤ 256) := ⟨by have := HL.out.each i hiC; rw [hv, hR] at this; exact this, hrl, by have := HL.out.len i hiC; rw [hR, hrl] at this; exact this⟩
      have hr256 := HRr.out.2.2
      have HC0 : Hid (w.cell? ⟨q, 0, none⟩ = some (.slice (some ⟨gc, 0, none⟩) n n) ∧ w.cell? ⟨gc, i, none⟩ = some (.slice av rl cv)) := ⟨by rw [← HN.out]; exact HL.out.box.1, by rw [← hv]; exact HL.out.row hiC⟩
      have hcv : cv ≤ 9223372036854775807 := by unfold maxLen at hcm; omega
      obtain ⟨M, hM⟩ : ∃ M, refM ((C.map Co.R).take i) = M := ⟨_, rfl⟩
      have HMn : Hid (refM ((C.map Co.R).take (i + 1)) = R.foldl insR M) := by
        show _ = _
        rw [ref_step (by simpa using hiC), hM]
        simp [hR]
      have HMs : Hid (srt M) := by rw [← hM]; exact ref_srt _
      rw [hM] at HI
      have HI2 : Hid (_) := HI.out
      have hll : l ≤ i * 256 := HI.out.2.2.2
      clear hv hR hrl hM hcm
      go_wp2_with fail
      clear c0
      go_loopw [5, 3] (fun jx u w9 => ∃ (j : Nat) (va : Option Addr) (vc l2 : Nat), jx = .int .i64 (j : Int) ∧ u = .slice va l2 vc ∧ j ≤ rl ∧ Hid (Rr w9 w.heap.size (.slice va l2 vc) ((R.take j).foldl insR M) ∧ Kept [] w w9 ∧ l2 = ((R.take j).foldl insR M).length)) (fun jx _ _ => (rl - intOf jx).toNat)
      case atStart => exact ⟨0, va, vc, l, rfl, rfl, by omega, HI2.out.1, HI2.out.2.1, HI2.out.2.2.1⟩
      case round =>
        have HMl : Hid (M.length ≤ i * 256) := by have := HI2.out.2.2; show _ ≤ _; omega
        clear HI2 HI hll HLr
        obtain ⟨j, va, vc, l, rfl, rfl, hj, HJ⟩ := hrel
        have y0 := HJ.out.2.1.cell HC0.out.1 (by simp)
        have y1 := HJ.out.2.1.cell HC0.out.2 (by simp)
        by_cases hjl : j < rl
        · have j0 : (0 : Int) ≤ (j : Int) := by omega
          have j1 : (j : Int) < (rl : Int) := by omega
          have hjR : j < R.length := by rw [HRr.out.2.1]; exact hjl
          obtain ⟨r, hr⟩ : ∃ r, R[j] = r := ⟨_, rfl⟩
          obtain ⟨gm, hga, q0, q1, q2, q3, q4, q5, q6, q7, q8, q9⟩ := (HRr.out.1.kept HJ.out.2.1 (by simp)).ten rfl hjR hr
          subst hga
          obtain ⟨M', hM'⟩ : ∃ M', (R.take j).foldl insR M = M' := ⟨_, rfl⟩
          have HNx : Hid ((R.take (j + 1)).foldl insR M = insR M' r) := by show _ = _; rw [fold_step hjR, hM', hr]
          have hl4 : l ≤ 4096 := by
            have h1 := HJ.out.2.2
            rw [fold_length, List.length_take] at h1
            have h2 := HMl.out
            omega
          rw [hM'] at HJ
          have HM' : Hid (srt M' ∧ M'.length = l) := ⟨by rw [← hM']; exact fold_srt _ _ HMs.out, HJ.out.2.2.symm⟩
          obtain ⟨a, k, kind, core, fd, ofs, num, p1, p2, dat⟩ := r
          dsimp only at q0 q1 q2 q3 q4 q5 q6 q7 q8 q9
          obtain ⟨W2, Z, HW2, HK2, HB2⟩ := box1 wr #[.int .i64 a, .int .i64 k, .int .i64 kind, .int .i64 core, .int .i64 fd, .int .i64 ofs, .int .i64 num, .string p1, .string p2, .string dat] 57
          have HZx : Hid (wr.heap.size = Z) := HW2.out.2
          clear hr hM'
          go_upto_region 9 with fail
          rw [HW2.out.1, HW2.out.2]
          clear HW2 q0 q1 q2 q3 q4 q5 q6 q7 q8 q9 y0 y1
          have y0 : W2.cell? ⟨Z, 0, none⟩ = some (.int .i64 a) := cellB HB2.out
          have y1 : W2.cell? ⟨Z, 1, none⟩ = some (.int .i64 k) := cellB HB2.out
          have y2 : W2.cell? ⟨Z, 2, none⟩ = some (.int .i64 kind) := cellB HB2.out
          have y3 : W2.cell? ⟨Z, 3, none⟩ = some (.int .i64 core) := cellB HB2.out
          have y4 : W2.cell? ⟨Z, 4, none⟩ = some (.int .i64 fd) := cellB HB2.out
          have y5 : W2.cell? ⟨Z, 5, none⟩ = some (.int .i64 ofs) := cellB HB2.out
          have y6 : W2.cell? ⟨Z, 6, none⟩ = some (.int .i64 num) := cellB HB2.out
          have y7 : W2.cell? ⟨Z, 7, none⟩ = some (.string p1) := cellB HB2.out
          have y8 : W2.cell? ⟨Z, 8, none⟩ = some (.string p2) := cellB HB2.out
          have y9 : W2.cell? ⟨Z, 9, none⟩ = some (.string dat) := cellB HB2.out
          obtain ⟨w4, Y, HY4, HKY, HBY⟩ := box1 W2 #[.int .i64 a, .int .i64 k, .int .i64 kind, .int .i64 core, .int .i64 fd, .int .i64 ofs, .int .i64 num, .string p1, .string p2, .string dat] 57
          have HK4 : Hid (Kept [] wr w4) := HK2.out.1.trans HKY.out.1 (by simp)
          have hbY : ∀ j u, (Rec.cs ⟨a, k, kind, core, fd, ofs, num, p1, p2, dat⟩)[j]? = some u → w4.cell? ⟨Y, j, none⟩ = some u := fun j u hu => by rw [cellB HBY.out, ← hu]; simp [Rec.cs]
          have hM'l := HM'.out.2
          obtain ⟨gn, cn, w5, hr5, rr5, gr5, hg5, -⟩ := append_rec (R := M') (v := .slice va l vc) (HJ.out.1.kept HK4.out (by simp)) (Nat.le_trans HJ.out.2.1.size HK4.out.size) Y ⟨a, k, kind, core, fd, ofs, num, p1, p2, dat⟩ hbY (by omega) 44
          rw [hM'l] at hr5 rr5
          have HAp : Hid ((Builtin.append_ #[44, 44] 44 #[.slice va l vc, .slice (some ⟨Y, 0, none⟩) 1 1]).run Try.prog w4 = .ok (.slice (some ⟨gn, 0, none⟩) (l + 1) cn) w5) := hr5
          rw [← HY4.out.1, ← HY4.out.2] at HAp
          have HK5 : Hid (Kept [] w w5) := (HJ.out.2.1.trans HK4.out (by simp)).grown gr5 (fun x hx => Or.inr (HJ.out.1.block x hx).1)
          have HGn : Hid (w.heap.size ≤ gn) := by
            rcases hg5 with h1 | h1
            · exact (HJ.out.1.block gn h1).1
            · have h2 := HJ.out.2.1.size
              have h3 := HK4.out.size
              show _ ≤ _
              omega
          have HZn : Hid (Z ≠ gn) := by
            intro e
            have h2 := HZx.out
            rcases hg5 with h1 | h1
            · have := (HJ.out.1.block gn h1).2; omega
            · have h3 := lt_of_heap HB2.out
              have h4 := HKY.out.1.size
              omega
          have HZ5 : Hid (w5.heap[Z]? = some (.cells #[.int .i64 a, .int .i64 k, .int .i64 kind, .int .i64 core, .int .i64 fd, .int .i64 ofs, .int .i64 num, .string p1, .string p2, .string dat] 57 (0, 0))) := by
            have h1 : w4.heap[Z]? = some (.cells #[.int .i64 a, .int .i64 k, .int .i64 kind, .int .i64 core, .int .i64 fd, .int .i64 ofs, .int .i64 num, .string p1, .string p2, .string dat] 57 (0, 0)) := (HKY.out.1.block _ (lt_of_heap HB2.out) (by simp)).trans HB2.out
            show _ = _
            rw [gr5.block Z (lt_of_heap h1) (fun e => by
              have h3 := HZx.out
              have h2 := (HJ.out.1.block Z e.symm).2
              omega)]
            exact h1
          have HR5 : Hid (Rr w5 w.heap.size (.slice (some ⟨gn, 0, none⟩) (l + 1) cn) (M' ++ [⟨a, k, kind, core, fd, ofs, num, p1, p2, dat⟩])) := rr5
          have hcn : cn ≤ 9223372036854775807 := by have := HR5.out.many.2.2; unfold maxLen at this; omega
          have hcn2 : l + 1 ≤ cn := HR5.out.many.2.1
          clear hbY hr5 rr5 gr5 hg5 hM'l HKY HBY
          go_wp2_with (at_builtin; refine wpList_append_run _ rfl _ _ 44 44 rfl _ _ rfl rfl _ _ HAp.out ?_)
          clear y0 y1 y2 y3 y4 y5 y6 y7 y8 y9 HAp HY4
          go_loopw [7] (fun kx w9 => ∃ s : Nat, kx = .int .i64 (s : Int) ∧ s ≤ l ∧ Hid (∃ x, Rr w9 w.heap.size (.slice (some ⟨gn, 0, none⟩) (l + 1) cn) (M'.take s ++ x :: M'.drop s) ∧ Kept [] w w9 ∧ w9.heap[Z]? = some (.cells #[.int .i64 a, .int .i64 k, .int .i64 kind, .int .i64 core, .int .i64 fd, .int .i64 ofs, .int .i64 num, .string p1, .string p2, .string dat] 57 (0, 0)) ∧ ∀ y ∈ M'.drop s, behB ⟨a, k, kind, core, fd, ofs, num, p1, p2, dat⟩ y = true)) (fun kx _ => (intOf kx).toNat)
          case atStart => exact ⟨l, by go_num, by omega, ⟨a, k, kind, core, fd, ofs, num, p1, p2, dat⟩, by have := HR5.out; have e := HM'.out.2; rw [List.take_of_length_le (by omega), List.drop_eq_nil_of_le (by omega)]; exact this, HK5.out, HZ5.out, by have e := HM'.out.2; rw [List.drop_eq_nil_of_le (by omega)]; simp⟩
          case round =>
            obtain ⟨s, rfl, hs, HS⟩ := hrel
            obtain ⟨x, hx1, hx2, hx3, hx4⟩ := HS.out
            have HRy : Hid (Rr wr w.heap.size (.slice (some ⟨gn, 0, none⟩) (l + 1) cn) (M'.take s ++ x :: M'.drop s)) := hx1
            have HKw : Hid (Kept [] w wr) := hx2
            have HZb : Hid (_) := hx3
            have HBh : Hid (∀ y ∈ M'.drop s, behB ⟨a, k, kind, core, fd, ofs, num, p1, p2, dat⟩ y = true) := hx4
            clear hx1 hx2 hx3 hx4 HS HR5 HK5 HZ5
            cases s with
            | zero =>
              have d0 : decide ((0 : Int) < ((0 : Nat) : Int)) = false := by decide
              have HAh : Hid (∀ y ∈ M'.take 0, behB ⟨a, k, kind, core, fd, ofs, num, p1, p2, dat⟩ y = false) := fun y hy => by simp at hy
              go_upto_region 11 with fail
              refine wp_region_held_drew (S := fun w' => w'.cell? ⟨Z, 0, none⟩ = some (.int .i64 a) ∧ w'.cell? ⟨Z, 1, none⟩ = some (.int .i64 k)) (by kernel_rfl) ?_ (fun hHeld => ?_)
              · exact ⟨cellB HZb.out, cellB HZb.out⟩
              obtain ⟨u0, hu0⟩ : ∃ u, wr.drew = u := ⟨_, rfl⟩
              have HKu : Hid (Kept [] wr u0) := by rw [← hu0]; exact (Kept.refl [] wr).drew
              rw [hu0] at hHeld ⊢
              clear hu0
              refine wpAnyH_take (i := 0) (v := ?va0) rfl (by kernel_rfl) (by kernel_rfl) (by kernel_rfl) (fun _ _ _ h => h) (Or.inl ⟨by rfl, ?hya0⟩) (by assumption) ?_
              case hya0 =>
                intro w hSw
                (try dsimp only at hSw)
                go_simp
                try with_reducible rfl
              try simp only [Act.put, List.setIfInBounds_toArray, List.set_cons_zero, List.set_cons_succ, List.getElem_toArray, List.getElem_cons_zero, List.getElem_cons_succ]
              refine wpAnyH_take (i := 1) (v := ?va1) rfl (by kernel_rfl) (by kernel_rfl) (by kernel_rfl) (fun _ _ _ h => h) (Or.inl ⟨by rfl, ?hya1⟩) (by assumption) ?_
              case hya1 =>
                intro w hSw
                (try dsimp only at hSw)
                go_simp
                try with_reducible rfl
              try simp only [Act.put, List.setIfInBounds_toArray, List.set_cons_zero, List.set_cons_succ, List.getElem_toArray, List.getElem_cons_zero, List.getElem_cons_succ]
              refine wpAnyH_take (i := 2) (v := ?va2) rfl (by kernel_rfl) (by kernel_rfl) (by kernel_rfl) (fun _ _ _ h => h) (Or.inl ⟨by rfl, ?hya2⟩) (by assumption) ?_
              case hya2 =>
                intro w hSw
                (try dsimp only at hSw)
                go_simp
                try with_reducible rfl
              try simp only [Act.put, List.setIfInBounds_toArray, List.set_cons_zero, List.set_cons_succ, List.getElem_toArray, List.getElem_cons_zero, List.getElem_cons_succ]
              refine wpAnyH_take (i := 3) (v := undef) rfl (by kernel_rfl) (by kernel_rfl) (by kernel_rfl) (fun _ _ _ h => h) (Or.inr ⟨by rfl, rfl⟩) (by assumption) ?_
              try simp only [Act.put, List.setIfInBounds_toArray, List.set_cons_zero, List.set_cons_succ, List.getElem_toArray, List.getElem_cons_zero, List.getElem_cons_succ]
              refine wpAnyH_take (i := 4) (v := undef) rfl (by kernel_rfl) (by kernel_rfl) (by kernel_rfl) (fun _ _ _ h => h) (Or.inr ⟨by rfl, rfl⟩) (by assumption) ?_
              try simp only [Act.put, List.setIfInBounds_toArray, List.set_cons_zero, List.set_cons_succ, List.getElem_toArray, List.getElem_cons_zero, List.getElem_cons_succ]
              refine wpAnyH_take (i := 5) (v := undef) rfl (by kernel_rfl) (by kernel_rfl) (by kernel_rfl) (fun _ _ _ h => h) (Or.inr ⟨by rfl, rfl⟩) (by assumption) ?_
              try simp only [Act.put, List.setIfInBounds_toArray, List.set_cons_zero, List.set_cons_succ, List.getElem_toArray, List.getElem_cons_zero, List.getElem_cons_succ]
              refine wpAnyH_take (i := 6) (v := undef) rfl (by kernel_rfl) (by kernel_rfl) (by kernel_rfl) (fun _ _ _ h => h) (Or.inr ⟨by rfl, rfl⟩) (by assumption) ?_
              try simp only [Act.put, List.setIfInBounds_toArray, List.set_cons_zero, List.set_cons_succ, List.getElem_toArray, List.getElem_cons_zero, List.getElem_cons_succ]
              refine wpAnyH_take (i := 7) (v := undef) rfl (by kernel_rfl) (by kernel_rfl) (by kernel_rfl) (fun _ _ _ h => h) (Or.inr ⟨by rfl, rfl⟩) (by assumption) ?_
              try simp only [Act.put, List.setIfInBounds_toArray, List.set_cons_zero, List.set_cons_succ, List.getElem_toArray, List.getElem_cons_zero, List.getElem_cons_succ]
              refine wpAnyH_take (i := 8) (v := undef) rfl (by kernel_rfl) (by kernel_rfl) (by kernel_rfl) (fun _ _ _ h => h) (Or.inr ⟨by rfl, rfl⟩) (by assumption) ?_
              try simp only [Act.put, List.setIfInBounds_toArray, List.set_cons_zero, List.set_cons_succ, List.getElem_toArray, List.getElem_cons_zero, List.getElem_cons_succ]
              refine wpAnyH_take (i := 9) (v := undef) rfl (by kernel_rfl) (by kernel_rfl) (by kernel_rfl) (fun _ _ _ h => h) (Or.inr ⟨by rfl, rfl⟩) (by assumption) ?_
              try simp only [Act.put, List.setIfInBounds_toArray, List.set_cons_zero, List.set_cons_succ, List.getElem_toArray, List.getElem_cons_zero, List.getElem_cons_succ]
              refine wpAnyH_take (i := 10) (v := undef) rfl (by kernel_rfl) (by kernel_rfl) (by kernel_rfl) (fun _ _ _ h => h) (Or.inr ⟨by rfl, rfl⟩) (by assumption) ?_
              try simp only [Act.put, List.setIfInBounds_toArray, List.set_cons_zero, List.set_cons_succ, List.getElem_toArray, List.getElem_cons_zero, List.getElem_cons_succ]
              refine wpAnyH_take (i := 11) (v := undef) rfl (by kernel_rfl) (by kernel_rfl) (by kernel_rfl) (fun _ _ _ h => h) (Or.inr ⟨by rfl, rfl⟩) (by assumption) ?_
              try simp only [Act.put, List.setIfInBounds_toArray, List.set_cons_zero, List.set_cons_succ, List.getElem_toArray, List.getElem_cons_zero, List.getElem_cons_succ]
              refine wpAnyH_take (i := 12) (v := ?va12) rfl (by kernel_rfl) (by kernel_rfl) (by kernel_rfl) (fun _ _ _ h => h) (Or.inl ⟨by rfl, ?hya12⟩) (by assumption) ?_
              case hya12 =>
                intro w hSw
                (try dsimp only at hSw)
                go_simp
                try with_reducible rfl
              try simp only [Act.put, List.setIfInBounds_toArray, List.set_cons_zero, List.set_cons_succ, List.getElem_toArray, List.getElem_cons_zero, List.getElem_cons_succ]
              refine wpAnyH_done (by kernel_rfl) ?_ _
              have HKv : Hid (Kept [] wr u0) := HKu.out
              clear hHeld
              have HZv : Hid (u0.heap[Z]? = some (.cells #[.int .i64 a, .int .i64 k, .int .i64 kind, .int .i64 core, .int .i64 fd, .int .i64 ofs, .int .i64 num, .string p1, .string p2, .string dat] 57 (0, 0))) := (HKv.out.block _ (lt_of_heap HZb.out) (by simp)).trans HZb.out
              have HRv : Hid (Rr u0 w.heap.size (.slice (some ⟨gn, 0, none⟩) (l + 1) cn) (M'.take (0) ++ x :: M'.drop (0))) := HRy.out.kept HKv.out (by simp)
              have HDl : Hid ((M'.take (0) ++ x :: M'.drop (0)).length = l + 1 ∧ 0 < (M'.take (0) ++ x :: M'.drop (0)).length) := by
                have := HM'.out.2
                have e : (M'.take (0) ++ x :: M'.drop (0)).length = l + 1 := by simp; omega
                exact ⟨e, by omega⟩
              have y0 : u0.cell? ⟨Z, 0, none⟩ = some (.int .i64 a) := cellB HZv.out
              have y1 : u0.cell? ⟨Z, 1, none⟩ = some (.int .i64 k) := cellB HZv.out
              have y2 : u0.cell? ⟨Z, 2, none⟩ = some (.int .i64 kind) := cellB HZv.out
              have y3 : u0.cell? ⟨Z, 3, none⟩ = some (.int .i64 core) := cellB HZv.out
              have y4 : u0.cell? ⟨Z, 4, none⟩ = some (.int .i64 fd) := cellB HZv.out
              have y5 : u0.cell? ⟨Z, 5, none⟩ = some (.int .i64 ofs) := cellB HZv.out
              have y6 : u0.cell? ⟨Z, 6, none⟩ = some (.int .i64 num) := cellB HZv.out
              have y7 : u0.cell? ⟨Z, 7, none⟩ = some (.string p1) := cellB HZv.out
              have y8 : u0.cell? ⟨Z, 8, none⟩ = some (.string p2) := cellB HZv.out
              have y9 : u0.cell? ⟨Z, 9, none⟩ = some (.string dat) := cellB HZv.out
              obtain ⟨gx, egx, g0, g1, g2, g3, g4, g5, g6, g7, g8, g9⟩ := HRv.out.ten rfl HDl.out.2 rfl
              simp only [Option.some.injEq, Addr.mk.injEq, and_true] at egx
              subst egx
              have z0 := HRv.out.frozen ((0) * 10)
              have z1 := HRv.out.frozen ((0) * 10 + 1)
              have z2 := HRv.out.frozen ((0) * 10 + 2)
              have z3 := HRv.out.frozen ((0) * 10 + 3)
              have z4 := HRv.out.frozen ((0) * 10 + 4)
              have z5 := HRv.out.frozen ((0) * 10 + 5)
              have z6 := HRv.out.frozen ((0) * 10 + 6)
              have z7 := HRv.out.frozen ((0) * 10 + 7)
              have z8 := HRv.out.frozen ((0) * 10 + 8)
              have z9 := HRv.out.frozen ((0) * 10 + 9)
              generalize ((M'.take (0) ++ x :: M'.drop (0))[0]'HDl.out.2) = xx at g0 g1 g2 g3 g4 g5 g6 g7 g8 g9
              obtain ⟨W8, hW8⟩ : ∃ W8, u0.setCells gn ((0) * 10) (Rec.cs ⟨a, k, kind, core, fd, ofs, num, p1, p2, dat⟩) = W8 := ⟨_, rfl⟩
              have HW8 : Hid (((((((((((u0.setCell ⟨gn, (0) * 10, none⟩ (.int .i64 a)).setCell ⟨gn, (0) * 10 + 1, none⟩ (.int .i64 k)).setCell ⟨gn, (0) * 10 + 2, none⟩ (.int .i64 kind)).setCell ⟨gn, (0) * 10 + 3, none⟩ (.int .i64 core)).setCell ⟨gn, (0) * 10 + 4, none⟩ (.int .i64 fd)).setCell ⟨gn, (0) * 10 + 5, none⟩ (.int .i64 ofs)).setCell ⟨gn, (0) * 10 + 6, none⟩ (.int .i64 num)).setCell ⟨gn, (0) * 10 + 7, none⟩ (.string p1)).setCell ⟨gn, (0) * 10 + 8, none⟩ (.string p2)).setCell ⟨gn, (0) * 10 + 9, none⟩ (.string dat)) = W8) := hW8
              have HLy : Hid (_ ∧ _) := HRv.out.lay HDl.out.2 ⟨a, k, kind, core, fd, ofs, num, p1, p2, dat⟩
              rw [hW8, ins_set (by have := HM'.out.2; omega)] at HLy
              have HE8 : Hid (M'.take (0) ++ ⟨a, k, kind, core, fd, ofs, num, p1, p2, dat⟩ :: M'.drop (0) = insR M' ⟨a, k, kind, core, fd, ofs, num, p1, p2, dat⟩) := ins_at HAh.out HBh.out
              rw [HE8.out] at HLy
              have HK8 : Hid (Kept [] w W8) := (HKw.out.trans HKv.out (by simp)).trans HLy.out.2 (fun x hx => Or.inr (by simp at hx; subst hx; exact HGn.out))
              clear hW8
              go_upto_region 7 with fail
              rw [HW8.out]
              clear HW8 y0 g0 z0 y1 g1 z1 y2 g2 z2 y3 g3 z3 y4 g4 z4 y5 g5 z5 y6 g6 z6 y7 g7 z7 y8 g8 z8 y9 g9 z9
              go_wp2_with fail
              go_roundw
              case rel => exact ⟨j + 1, some ⟨gn, 0, none⟩, cn, l + 1, by go_num, rfl, by omega, by have := HNx.out; rw [this]; exact HLy.out.1, HK8.out, by have := HNx.out; rw [this, ins_length, ← HM'.out.2]⟩
              case measure => simp [intOf]; omega
            | succ t =>
              have d0 : decide ((0 : Int) < (((t + 1 : Nat)) : Int)) = true := decide_eq_true (by omega)
              have d1 : (0 : Int) < (t : Int) + 1 := by omega
              have d2 : (0 : Int) ≤ (t : Int) := by omega
              have dw : IntKind.i64.wrap (t : Int) = (t : Int) := by rw [IntKind.wrap_i64]; omega
              have d3 : (t : Int) < (l : Int) + 1 := by omega
              have HtM : Hid (t < M'.length) := by have := HM'.out.2; show _ < _; omega
              obtain ⟨y, hy⟩ : ∃ y, M'[t]'HtM.out = y := ⟨_, rfl⟩
              have HY : Hid (M'[t]'HtM.out = y) := hy
              have hDt : t < (M'.take (t + 1) ++ x :: M'.drop (t + 1)).length := by have := HtM.out; simp; omega
              obtain ⟨gx, egx, y0, y1, -, -, -, -, -, -, -, -⟩ := HRy.out.ten rfl hDt (at_before HtM.out)
              simp only [Option.some.injEq, Addr.mk.injEq, and_true] at egx
              subst egx
              rw [hy] at y0 y1
              obtain ⟨ya, yk, ykind, ycore, yfd, yofs, ynum, yp1, yp2, ydat⟩ := y
              dsimp only at y0 y1
              clear hy hDt
              rcases hb : lessS a k ya yk with _ | _
              · have HAh : Hid (∀ y ∈ M'.take (t + 1), behB ⟨a, k, kind, core, fd, ofs, num, p1, p2, dat⟩ y = false) := ahead_no HM'.out.1 HtM.out (by rw [HY.out]; exact hb)
                go_upto_region 11 with fail
                refine wp_region_held_drew (S := fun w' => w'.cell? ⟨Z, 0, none⟩ = some (.int .i64 a) ∧ w'.cell? ⟨Z, 1, none⟩ = some (.int .i64 k) ∧ w'.cell? ⟨gn, t * 10, none⟩ = some (.int .i64 ya) ∧ w'.cell? ⟨gn, t * 10 + 1, none⟩ = some (.int .i64 yk)) (by kernel_rfl) ?_ (fun hHeld => ?_)
                · exact ⟨cellB HZb.out, cellB HZb.out, y0, y1⟩
                obtain ⟨u0, hu0⟩ : ∃ u, wr.drew = u := ⟨_, rfl⟩
                have HKu : Hid (Kept [] wr u0) := by rw [← hu0]; exact (Kept.refl [] wr).drew
                rw [hu0] at hHeld ⊢
                clear hu0
                refine wpAnyH_take (i := 0) (v := ?vb0) rfl (by kernel_rfl) (by kernel_rfl) (by kernel_rfl) (fun _ _ _ h => h) (Or.inl ⟨by rfl, ?hyb0⟩) (by assumption) ?_
                case hyb0 =>
                  intro w hSw
                  (try dsimp only at hSw)
                  go_simp
                  try with_reducible rfl
                try simp only [Act.put, List.setIfInBounds_toArray, List.set_cons_zero, List.set_cons_succ, List.getElem_toArray, List.getElem_cons_zero, List.getElem_cons_succ]
                refine wpAnyH_take (i := 1) (v := ?vb1) rfl (by kernel_rfl) (by kernel_rfl) (by kernel_rfl) (fun _ _ _ h => h) (Or.inl ⟨by rfl, ?hyb1⟩) (by assumption) ?_
                case hyb1 =>
                  intro w hSw
                  (try dsimp only at hSw)
                  go_simp
                  try with_reducible rfl
                try simp only [Act.put, List.setIfInBounds_toArray, List.set_cons_zero, List.set_cons_succ, List.getElem_toArray, List.getElem_cons_zero, List.getElem_cons_succ]
                refine wpAnyH_take (i := 2) (v := ?vb2) rfl (by kernel_rfl) (by kernel_rfl) (by kernel_rfl) (fun _ _ _ h => h) (Or.inl ⟨by rfl, ?hyb2⟩) (by assumption) ?_
                case hyb2 =>
                  intro w hSw
                  (try dsimp only at hSw)
                  go_simp
                  try with_reducible rfl
                try simp only [Act.put, List.setIfInBounds_toArray, List.set_cons_zero, List.set_cons_succ, List.getElem_toArray, List.getElem_cons_zero, List.getElem_cons_succ]
                refine wpAnyH_take (i := 3) (v := ?vb3) rfl (by kernel_rfl) (by kernel_rfl) (by kernel_rfl) (fun _ _ _ h => h) (Or.inl ⟨by rfl, ?hyb3⟩) (by assumption) ?_
                case hyb3 =>
                  intro w hSw
                  (try dsimp only at hSw)
                  go_simp
                  try with_reducible rfl
                try simp only [Act.put, List.setIfInBounds_toArray, List.set_cons_zero, List.set_cons_succ, List.getElem_toArray, List.getElem_cons_zero, List.getElem_cons_succ]
                refine wpAnyH_take (i := 4) (v := ?vb4) rfl (by kernel_rfl) (by kernel_rfl) (by kernel_rfl) (fun _ _ _ h => h) (Or.inl ⟨by rfl, ?hyb4⟩) (by assumption) ?_
                case hyb4 =>
                  intro w hSw
                  (try dsimp only at hSw)
                  go_simp
                  try with_reducible rfl
                try simp only [Act.put, List.setIfInBounds_toArray, List.set_cons_zero, List.set_cons_succ, List.getElem_toArray, List.getElem_cons_zero, List.getElem_cons_succ]
                refine wpAnyH_take (i := 5) (v := ?vb5) rfl (by kernel_rfl) (by kernel_rfl) (by kernel_rfl) (fun _ _ _ h => h) (Or.inl ⟨by rfl, ?hyb5⟩) (by assumption) ?_
                case hyb5 =>
                  intro w hSw
                  (try dsimp only at hSw)
                  go_simp
                  try with_reducible rfl
                try simp only [Act.put, List.setIfInBounds_toArray, List.set_cons_zero, List.set_cons_succ, List.getElem_toArray, List.getElem_cons_zero, List.getElem_cons_succ]
                refine wpAnyH_take (i := 6) (v := ?vb6) rfl (by kernel_rfl) (by kernel_rfl) (by kernel_rfl) (fun _ _ _ h => h) (Or.inl ⟨by rfl, ?hyb6⟩) (by assumption) ?_
                case hyb6 =>
                  intro w hSw
                  (try dsimp only at hSw)
                  go_simp
                  try with_reducible rfl
                try simp only [Act.put, List.setIfInBounds_toArray, List.set_cons_zero, List.set_cons_succ, List.getElem_toArray, List.getElem_cons_zero, List.getElem_cons_succ]
                refine wpAnyH_take (i := 7) (v := ?vb7) rfl (by kernel_rfl) (by kernel_rfl) (by kernel_rfl) (fun _ _ _ h => h) (Or.inl ⟨by rfl, ?hyb7⟩) (by assumption) ?_
                case hyb7 =>
                  intro w hSw
                  (try dsimp only at hSw)
                  go_simp
                  try with_reducible rfl
                try simp only [Act.put, List.setIfInBounds_toArray, List.set_cons_zero, List.set_cons_succ, List.getElem_toArray, List.getElem_cons_zero, List.getElem_cons_succ]
                refine wpAnyH_take (i := 8) (v := ?vb8) rfl (by kernel_rfl) (by kernel_rfl) (by kernel_rfl) (fun _ _ _ h => h) (Or.inl ⟨by rfl, ?hyb8⟩) (by assumption) ?_
                case hyb8 =>
                  intro w hSw
                  (try dsimp only at hSw)
                  go_simp
                  try with_reducible rfl
                try simp only [Act.put, List.setIfInBounds_toArray, List.set_cons_zero, List.set_cons_succ, List.getElem_toArray, List.getElem_cons_zero, List.getElem_cons_succ]
                refine wpAnyH_take (i := 9) (v := ?vb9) rfl (by kernel_rfl) (by kernel_rfl) (by kernel_rfl) (fun _ _ _ h => h) (Or.inl ⟨by rfl, ?hyb9⟩) (by assumption) ?_
                case hyb9 =>
                  intro w hSw
                  (try dsimp only at hSw)
                  go_simp
                  try with_reducible rfl
                try simp only [Act.put, List.setIfInBounds_toArray, List.set_cons_zero, List.set_cons_succ, List.getElem_toArray, List.getElem_cons_zero, List.getElem_cons_succ]
                refine wpAnyH_take (i := 10) (v := ?vb10) rfl (by kernel_rfl) (by kernel_rfl) (by kernel_rfl) (fun _ _ _ h => h) (Or.inl ⟨by rfl, ?hyb10⟩) (by assumption) ?_
                case hyb10 =>
                  intro w hSw
                  (try dsimp only at hSw)
                  go_simp
                  try with_reducible rfl
                try simp only [Act.put, List.setIfInBounds_toArray, List.set_cons_zero, List.set_cons_succ, List.getElem_toArray, List.getElem_cons_zero, List.getElem_cons_succ]
                refine wpAnyH_ready (rs := [11]) (by kernel_rfl) (by simp) ?_
                refine AllReadyH.cons rfl (fun K hK => ?_) AllReadyH.nil
                go_simp
                refine (r_less a k ya yk _).mono ?_
                rintro e w7 ⟨rfl, k7⟩
                have HK7 : Hid (Kept [] wr w7) := HKu.out.trans k7 (by simp)
                have HS7 : Hid (_) := oek4 hHeld k7
                clear k7
                rw [hb]
                go_wp2_with fail
                refine hK.out _ _ ?_ (fun hHeld => ?_)
                · exact HS7.out
                clear hK K
                try simp only [Act.put, List.setIfInBounds_toArray, List.set_cons_zero, List.set_cons_succ, List.getElem_toArray, List.getElem_cons_zero, List.getElem_cons_succ]
                refine wpAnyH_take (i := 12) (v := ?vb12) rfl (by kernel_rfl) (by kernel_rfl) (by kernel_rfl) (fun _ _ _ h => h) (Or.inl ⟨by rfl, ?hyb12⟩) (by assumption) ?_
                case hyb12 =>
                  intro w hSw
                  (try dsimp only at hSw)
                  go_simp
                  try with_reducible rfl
                try simp only [Act.put, List.setIfInBounds_toArray, List.set_cons_zero, List.set_cons_succ, List.getElem_toArray, List.getElem_cons_zero, List.getElem_cons_succ]
                refine wpAnyH_done (by kernel_rfl) ?_ _
                have HKv : Hid (Kept [] wr w7) := HK7.out
                clear hHeld HS7 y0 y1 hb
                have HZv : Hid (w7.heap[Z]? = some (.cells #[.int .i64 a, .int .i64 k, .int .i64 kind, .int .i64 core, .int .i64 fd, .int .i64 ofs, .int .i64 num, .string p1, .string p2, .string dat] 57 (0, 0))) := (HKv.out.block _ (lt_of_heap HZb.out) (by simp)).trans HZb.out
                have HRv : Hid (Rr w7 w.heap.size (.slice (some ⟨gn, 0, none⟩) (l + 1) cn) (M'.take (t + 1) ++ x :: M'.drop (t + 1))) := HRy.out.kept HKv.out (by simp)
                have HDl : Hid ((M'.take (t + 1) ++ x :: M'.drop (t + 1)).length = l + 1 ∧ t + 1 < (M'.take (t + 1) ++ x :: M'.drop (t + 1)).length) := by
                  have := HM'.out.2
                  have e : (M'.take (t + 1) ++ x :: M'.drop (t + 1)).length = l + 1 := by simp; omega
                  exact ⟨e, by omega⟩
                have y0 : w7.cell? ⟨Z, 0, none⟩ = some (.int .i64 a) := cellB HZv.out
                have y1 : w7.cell? ⟨Z, 1, none⟩ = some (.int .i64 k) := cellB HZv.out
                have y2 : w7.cell? ⟨Z, 2, none⟩ = some (.int .i64 kind) := cellB HZv.out
                have y3 : w7.cell? ⟨Z, 3, none⟩ = some (.int .i64 core) := cellB HZv.out
                have y4 : w7.cell? ⟨Z, 4, none⟩ = some (.int .i64 fd) := cellB HZv.out
                have y5 : w7.cell? ⟨Z, 5, none⟩ = some (.int .i64 ofs) := cellB HZv.out
                have y6 : w7.cell? ⟨Z, 6, none⟩ = some (.int .i64 num) := cellB HZv.out
                have y7 : w7.cell? ⟨Z, 7, none⟩ = some (.string p1) := cellB HZv.out
                have y8 : w7.cell? ⟨Z, 8, none⟩ = some (.string p2) := cellB HZv.out
                have y9 : w7.cell? ⟨Z, 9, none⟩ = some (.string dat) := cellB HZv.out
                obtain ⟨gx, egx, g0, g1, g2, g3, g4, g5, g6, g7, g8, g9⟩ := HRv.out.ten rfl HDl.out.2 rfl
                simp only [Option.some.injEq, Addr.mk.injEq, and_true] at egx
                subst egx
                have z0 := HRv.out.frozen ((t + 1) * 10)
                have z1 := HRv.out.frozen ((t + 1) * 10 + 1)
                have z2 := HRv.out.frozen ((t + 1) * 10 + 2)
                have z3 := HRv.out.frozen ((t + 1) * 10 + 3)
                have z4 := HRv.out.frozen ((t + 1) * 10 + 4)
                have z5 := HRv.out.frozen ((t + 1) * 10 + 5)
                have z6 := HRv.out.frozen ((t + 1) * 10 + 6)
                have z7 := HRv.out.frozen ((t + 1) * 10 + 7)
                have z8 := HRv.out.frozen ((t + 1) * 10 + 8)
                have z9 := HRv.out.frozen ((t + 1) * 10 + 9)
                generalize ((M'.take (t + 1) ++ x :: M'.drop (t + 1))[t + 1]'HDl.out.2) = xx at g0 g1 g2 g3 g4 g5 g6 g7 g8 g9
                obtain ⟨W8, hW8⟩ : ∃ W8, w7.setCells gn ((t + 1) * 10) (Rec.cs ⟨a, k, kind, core, fd, ofs, num, p1, p2, dat⟩) = W8 := ⟨_, rfl⟩
                have HW8 : Hid (((((((((((w7.setCell ⟨gn, (t + 1) * 10, none⟩ (.int .i64 a)).setCell ⟨gn, (t + 1) * 10 + 1, none⟩ (.int .i64 k)).setCell ⟨gn, (t + 1) * 10 + 2, none⟩ (.int .i64 kind)).setCell ⟨gn, (t + 1) * 10 + 3, none⟩ (.int .i64 core)).setCell ⟨gn, (t + 1) * 10 + 4, none⟩ (.int .i64 fd)).setCell ⟨gn, (t + 1) * 10 + 5, none⟩ (.int .i64 ofs)).setCell ⟨gn, (t + 1) * 10 + 6, none⟩ (.int .i64 num)).setCell ⟨gn, (t + 1) * 10 + 7, none⟩ (.string p1)).setCell ⟨gn, (t + 1) * 10 + 8, none⟩ (.string p2)).setCell ⟨gn, (t + 1) * 10 + 9, none⟩ (.string dat)) = W8) := hW8
                have HLy : Hid (_ ∧ _) := HRv.out.lay HDl.out.2 ⟨a, k, kind, core, fd, ofs, num, p1, p2, dat⟩
                rw [hW8, ins_set (by have := HM'.out.2; omega)] at HLy
                have HE8 : Hid (M'.take (t + 1) ++ ⟨a, k, kind, core, fd, ofs, num, p1, p2, dat⟩ :: M'.drop (t + 1) = insR M' ⟨a, k, kind, core, fd, ofs, num, p1, p2, dat⟩) := ins_at HAh.out HBh.out
                rw [HE8.out] at HLy
                have HK8 : Hid (Kept [] w W8) := (HKw.out.trans HKv.out (by simp)).trans HLy.out.2 (fun x hx => Or.inr (by simp at hx; subst hx; exact HGn.out))
                clear hW8
                go_upto_region 7 with fail
                rw [HW8.out]
                clear HW8 y0 g0 z0 y1 g1 z1 y2 g2 z2 y3 g3 z3 y4 g4 z4 y5 g5 z5 y6 g6 z6 y7 g7 z7 y8 g8 z8 y9 g9 z9
                go_wp2_with fail
                go_roundw
                case rel => exact ⟨j + 1, some ⟨gn, 0, none⟩, cn, l + 1, by go_num, rfl, by omega, by have := HNx.out; rw [this]; exact HLy.out.1, HK8.out, by have := HNx.out; rw [this, ins_length, ← HM'.out.2]⟩
                case measure => simp [intOf]; omega
              · have HBe : Hid (behB ⟨a, k, kind, core, fd, ofs, num, p1, p2, dat⟩ ⟨ya, yk, ykind, ycore, yfd, yofs, ynum, yp1, yp2, ydat⟩ = true) := hb
                go_upto_region 11 with fail
                refine wp_region_held_drew (S := fun w' => w'.cell? ⟨Z, 0, none⟩ = some (.int .i64 a) ∧ w'.cell? ⟨Z, 1, none⟩ = some (.int .i64 k) ∧ w'.cell? ⟨gn, t * 10, none⟩ = some (.int .i64 ya) ∧ w'.cell? ⟨gn, t * 10 + 1, none⟩ = some (.int .i64 yk)) (by kernel_rfl) ?_ (fun hHeld => ?_)
                · exact ⟨cellB HZb.out, cellB HZb.out, y0, y1⟩
                obtain ⟨u0, hu0⟩ : ∃ u, wr.drew = u := ⟨_, rfl⟩
                have HKu : Hid (Kept [] wr u0) := by rw [← hu0]; exact (Kept.refl [] wr).drew
                rw [hu0] at hHeld ⊢
                clear hu0
                refine wpAnyH_take (i := 0) (v := ?vc0) rfl (by kernel_rfl) (by kernel_rfl) (by kernel_rfl) (fun _ _ _ h => h) (Or.inl ⟨by rfl, ?hyc0⟩) (by assumption) ?_
                case hyc0 =>
                  intro w hSw
                  (try dsimp only at hSw)
                  go_simp
                  try with_reducible rfl
                try simp only [Act.put, List.setIfInBounds_toArray, List.set_cons_zero, List.set_cons_succ, List.getElem_toArray, List.getElem_cons_zero, List.getElem_cons_succ]
                refine wpAnyH_take (i := 1) (v := ?vc1) rfl (by kernel_rfl) (by kernel_rfl) (by kernel_rfl) (fun _ _ _ h => h) (Or.inl ⟨by rfl, ?hyc1⟩) (by assumption) ?_
                case hyc1 =>
                  intro w hSw
                  (try dsimp only at hSw)
                  go_simp
                  try with_reducible rfl
                try simp only [Act.put, List.setIfInBounds_toArray, List.set_cons_zero, List.set_cons_succ, List.getElem_toArray, List.getElem_cons_zero, List.getElem_cons_succ]
                refine wpAnyH_take (i := 2) (v := ?vc2) rfl (by kernel_rfl) (by kernel_rfl) (by kernel_rfl) (fun _ _ _ h => h) (Or.inl ⟨by rfl, ?hyc2⟩) (by assumption) ?_
                case hyc2 =>
                  intro w hSw
                  (try dsimp only at hSw)
                  go_simp
                  try with_reducible rfl
                try simp only [Act.put, List.setIfInBounds_toArray, List.set_cons_zero, List.set_cons_succ, List.getElem_toArray, List.getElem_cons_zero, List.getElem_cons_succ]
                refine wpAnyH_take (i := 3) (v := ?vc3) rfl (by kernel_rfl) (by kernel_rfl) (by kernel_rfl) (fun _ _ _ h => h) (Or.inl ⟨by rfl, ?hyc3⟩) (by assumption) ?_
                case hyc3 =>
                  intro w hSw
                  (try dsimp only at hSw)
                  go_simp
                  try with_reducible rfl
                try simp only [Act.put, List.setIfInBounds_toArray, List.set_cons_zero, List.set_cons_succ, List.getElem_toArray, List.getElem_cons_zero, List.getElem_cons_succ]
                refine wpAnyH_take (i := 4) (v := ?vc4) rfl (by kernel_rfl) (by kernel_rfl) (by kernel_rfl) (fun _ _ _ h => h) (Or.inl ⟨by rfl, ?hyc4⟩) (by assumption) ?_
                case hyc4 =>
                  intro w hSw
                  (try dsimp only at hSw)
                  go_simp
                  try with_reducible rfl
                try simp only [Act.put, List.setIfInBounds_toArray, List.set_cons_zero, List.set_cons_succ, List.getElem_toArray, List.getElem_cons_zero, List.getElem_cons_succ]
                refine wpAnyH_take (i := 5) (v := ?vc5) rfl (by kernel_rfl) (by kernel_rfl) (by kernel_rfl) (fun _ _ _ h => h) (Or.inl ⟨by rfl, ?hyc5⟩) (by assumption) ?_
                case hyc5 =>
                  intro w hSw
                  (try dsimp only at hSw)
                  go_simp
                  try with_reducible rfl
                try simp only [Act.put, List.setIfInBounds_toArray, List.set_cons_zero, List.set_cons_succ, List.getElem_toArray, List.getElem_cons_zero, List.getElem_cons_succ]
                refine wpAnyH_take (i := 6) (v := ?vc6) rfl (by kernel_rfl) (by kernel_rfl) (by kernel_rfl) (fun _ _ _ h => h) (Or.inl ⟨by rfl, ?hyc6⟩) (by assumption) ?_
                case hyc6 =>
                  intro w hSw
                  (try dsimp only at hSw)
                  go_simp
                  try with_reducible rfl
                try simp only [Act.put, List.setIfInBounds_toArray, List.set_cons_zero, List.set_cons_succ, List.getElem_toArray, List.getElem_cons_zero, List.getElem_cons_succ]
                refine wpAnyH_take (i := 7) (v := ?vc7) rfl (by kernel_rfl) (by kernel_rfl) (by kernel_rfl) (fun _ _ _ h => h) (Or.inl ⟨by rfl, ?hyc7⟩) (by assumption) ?_
                case hyc7 =>
                  intro w hSw
                  (try dsimp only at hSw)
                  go_simp
                  try with_reducible rfl
                try simp only [Act.put, List.setIfInBounds_toArray, List.set_cons_zero, List.set_cons_succ, List.getElem_toArray, List.getElem_cons_zero, List.getElem_cons_succ]
                refine wpAnyH_take (i := 8) (v := ?vc8) rfl (by kernel_rfl) (by kernel_rfl) (by kernel_rfl) (fun _ _ _ h => h) (Or.inl ⟨by rfl, ?hyc8⟩) (by assumption) ?_
                case hyc8 =>
                  intro w hSw
                  (try dsimp only at hSw)
                  go_simp
                  try with_reducible rfl
                try simp only [Act.put, List.setIfInBounds_toArray, List.set_cons_zero, List.set_cons_succ, List.getElem_toArray, List.getElem_cons_zero, List.getElem_cons_succ]
                refine wpAnyH_take (i := 9) (v := ?vc9) rfl (by kernel_rfl) (by kernel_rfl) (by kernel_rfl) (fun _ _ _ h => h) (Or.inl ⟨by rfl, ?hyc9⟩) (by assumption) ?_
                case hyc9 =>
                  intro w hSw
                  (try dsimp only at hSw)
                  go_simp
                  try with_reducible rfl
                try simp only [Act.put, List.setIfInBounds_toArray, List.set_cons_zero, List.set_cons_succ, List.getElem_toArray, List.getElem_cons_zero, List.getElem_cons_succ]
                refine wpAnyH_take (i := 10) (v := ?vc10) rfl (by kernel_rfl) (by kernel_rfl) (by kernel_rfl) (fun _ _ _ h => h) (Or.inl ⟨by rfl, ?hyc10⟩) (by assumption) ?_
                case hyc10 =>
                  intro w hSw
                  (try dsimp only at hSw)
                  go_simp
                  try with_reducible rfl
                try simp only [Act.put, List.setIfInBounds_toArray, List.set_cons_zero, List.set_cons_succ, List.getElem_toArray, List.getElem_cons_zero, List.getElem_cons_succ]
                refine wpAnyH_ready (rs := [11]) (by kernel_rfl) (by simp) ?_
                refine AllReadyH.cons rfl (fun K hK => ?_) AllReadyH.nil
                go_simp
                refine (r_less a k ya yk _).mono ?_
                rintro e w7 ⟨rfl, k7⟩
                have HK7 : Hid (Kept [] wr w7) := HKu.out.trans k7 (by simp)
                have HS7 : Hid (_) := oek4 hHeld k7
                clear k7
                rw [hb]
                go_wp2_with fail
                refine hK.out _ _ ?_ (fun hHeld => ?_)
                · exact HS7.out
                clear hK K
                try simp only [Act.put, List.setIfInBounds_toArray, List.set_cons_zero, List.set_cons_succ, List.getElem_toArray, List.getElem_cons_zero, List.getElem_cons_succ]
                refine wpAnyH_take (i := 12) (v := ?vc12) rfl (by kernel_rfl) (by kernel_rfl) (by kernel_rfl) (fun _ _ _ h => h) (Or.inl ⟨by rfl, ?hyc12⟩) (by assumption) ?_
                case hyc12 =>
                  intro w hSw
                  (try dsimp only at hSw)
                  go_simp
                  try with_reducible rfl
                try simp only [Act.put, List.setIfInBounds_toArray, List.set_cons_zero, List.set_cons_succ, List.getElem_toArray, List.getElem_cons_zero, List.getElem_cons_succ]
                refine wpAnyH_done (by kernel_rfl) ?_ _
                clear hHeld HS7 y0 y1 hb
                have HRv : Hid (Rr w7 w.heap.size (.slice (some ⟨gn, 0, none⟩) (l + 1) cn) (M'.take (t + 1) ++ x :: M'.drop (t + 1))) := HRy.out.kept HK7.out (by simp)
                have HDl : Hid ((M'.take (t + 1) ++ x :: M'.drop (t + 1)).length = l + 1 ∧ t + 1 < (M'.take (t + 1) ++ x :: M'.drop (t + 1)).length ∧ t < (M'.take (t + 1) ++ x :: M'.drop (t + 1)).length) := by
                  have := HM'.out.2
                  have e : (M'.take (t + 1) ++ x :: M'.drop (t + 1)).length = l + 1 := by simp; omega
                  exact ⟨e, by omega, by omega⟩
                obtain ⟨gx, egx, y0, y1, y2, y3, y4, y5, y6, y7, y8, y9⟩ := HRv.out.ten rfl HDl.out.2.2 (at_before HtM.out)
                simp only [Option.some.injEq, Addr.mk.injEq, and_true] at egx
                subst egx
                rw [HY.out] at y0 y1 y2 y3 y4 y5 y6 y7 y8 y9
                dsimp only at y0 y1 y2 y3 y4 y5 y6 y7 y8 y9
                obtain ⟨gx, egx, g0, g1, g2, g3, g4, g5, g6, g7, g8, g9⟩ := HRv.out.ten rfl HDl.out.2.1 rfl
                simp only [Option.some.injEq, Addr.mk.injEq, and_true] at egx
                subst egx
                have z0 := HRv.out.frozen ((t + 1) * 10)
                have z1 := HRv.out.frozen ((t + 1) * 10 + 1)
                have z2 := HRv.out.frozen ((t + 1) * 10 + 2)
                have z3 := HRv.out.frozen ((t + 1) * 10 + 3)
                have z4 := HRv.out.frozen ((t + 1) * 10 + 4)
                have z5 := HRv.out.frozen ((t + 1) * 10 + 5)
                have z6 := HRv.out.frozen ((t + 1) * 10 + 6)
                have z7 := HRv.out.frozen ((t + 1) * 10 + 7)
                have z8 := HRv.out.frozen ((t + 1) * 10 + 8)
                have z9 := HRv.out.frozen ((t + 1) * 10 + 9)
                generalize ((M'.take (t + 1) ++ x :: M'.drop (t + 1))[t + 1]'HDl.out.2.1) = xx at g0 g1 g2 g3 g4 g5 g6 g7 g8 g9
                obtain ⟨W8, hW8⟩ : ∃ W8, w7.setCells gn ((t + 1) * 10) (Rec.cs ⟨ya, yk, ykind, ycore, yfd, yofs, ynum, yp1, yp2, ydat⟩) = W8 := ⟨_, rfl⟩
                have HW8 : Hid (((((((((((w7.setCell ⟨gn, (t + 1) * 10, none⟩ (.int .i64 ya)).setCell ⟨gn, (t + 1) * 10 + 1, none⟩ (.int .i64 yk)).setCell ⟨gn, (t + 1) * 10 + 2, none⟩ (.int .i64 ykind)).setCell ⟨gn, (t + 1) * 10 + 3, none⟩ (.int .i64 ycore)).setCell ⟨gn, (t + 1) * 10 + 4, none⟩ (.int .i64 yfd)).setCell ⟨gn, (t + 1) * 10 + 5, none⟩ (.int .i64 yofs)).setCell ⟨gn, (t + 1) * 10 + 6, none⟩ (.int .i64 ynum)).setCell ⟨gn, (t + 1) * 10 + 7, none⟩ (.string yp1)).setCell ⟨gn, (t + 1) * 10 + 8, none⟩ (.string yp2)).setCell ⟨gn, (t + 1) * 10 + 9, none⟩ (.string ydat)) = W8) := hW8
                have HLy : Hid (_ ∧ _) := HRv.out.lay HDl.out.2.1 ⟨ya, yk, ykind, ycore, yfd, yofs, ynum, yp1, yp2, ydat⟩
                rw [hW8, ins_set (by have := HM'.out.2; omega)] at HLy
                have HE8 : Hid (M'.take (t + 1) ++ ⟨ya, yk, ykind, ycore, yfd, yofs, ynum, yp1, yp2, ydat⟩ :: M'.drop (t + 1) = M'.take t ++ ⟨ya, yk, ykind, ycore, yfd, yofs, ynum, yp1, yp2, ydat⟩ :: M'.drop t) := by
                  show _ = _
                  rw [← HY.out]
                  exact up_one HtM.out
                rw [HE8.out] at HLy
                have HB8 : Hid (∀ y ∈ M'.drop t, behB ⟨a, k, kind, core, fd, ofs, num, p1, p2, dat⟩ y = true) := by
                  intro y hy
                  rw [List.drop_eq_getElem_cons HtM.out] at hy
                  rcases List.mem_cons.1 hy with rfl | hy
                  · rw [HY.out]; exact HBe.out
                  · exact HBh.out y hy
                have HK8 : Hid (Kept [] w W8) := (HKw.out.trans HK7.out (by simp)).trans HLy.out.2 (fun x hx => Or.inr (by simp at hx; subst hx; exact HGn.out))
                have HZ8 : Hid (W8.heap[Z]? = some (.cells #[.int .i64 a, .int .i64 k, .int .i64 kind, .int .i64 core, .int .i64 fd, .int .i64 ofs, .int .i64 num, .string p1, .string p2, .string dat] 57 (0, 0))) := (HLy.out.2.block _ (Nat.lt_of_lt_of_le (lt_of_heap HZb.out) HK7.out.size) (by simp; exact HZn.out)).trans ((HK7.out.block _ (lt_of_heap HZb.out) (by simp)).trans HZb.out)
                clear hW8
                go_upto_region 13 with fail
                rw [HW8.out]
                clear HW8 y0 g0 z0 y1 g1 z1 y2 g2 z2 y3 g3 z3 y4 g4 z4 y5 g5 z5 y6 g6 z6 y7 g7 z7 y8 g8 z8 y9 g9 z9
                go_wp2_with fail
                go_roundw
                case rel => exact ⟨t, by go_num, by omega, _, HLy.out.1, HK8.out, HZ8.out, HB8.out⟩
                case measure => simp [intOf]
        · have hjn : j = rl := by omega
          have j1 : ¬ (j : Int) < (rl : Int) := by omega
          have HE : Hid ((R.take j).foldl insR M = refM ((C.map Co.R).take (i + 1))) := by show _ = _; rw [HMn.out, List.take_of_length_le (by have := HRr.out.2.1; omega)]
          have HJ2 : Hid (_ ∧ _ ∧ _) := HJ.out
          have hlb : l ≤ (i + 1) * 256 := by
            have h1 := HJ.out.2.2
            rw [fold_length, List.length_take] at h1
            have h2 := HMl.out
            omega
          rw [HE.out] at HJ2
          go_wp2_with fail
          go_roundw
          case rel => exact ⟨i + 1, va, vc, l, by go_num, rfl, by omega, HJ2.out.1, HJ2.out.2.1, HJ2.out.2.2, hlb⟩
          case measure => simp [intOf]; omega
    · have hin : i = n := by omega
      subst hin
      have j1 : ¬ (i : Int) < (i : Int) := by omega
      have HE : Hid ((C.map Co.R).take i = C.map Co.R) := by show _ = _; rw [List.take_of_length_le (by have := HN.out; simp; omega)]
      go_wp2_with fail
      go_ret
      exact ⟨_, rfl, by have := HI.out.1; rw [HE.out] at this; exact this, HI.out.2.1⟩

end Go.Proofs.Ytlecpeofjabndaa
