/-
  Joined of my texts Df.
-/
import Derived.Test.YtjneoegbknclgaaGreatDoorJn20
set_option linter.unusedVariables false
set_option linter.unusedSimpArgs false
set_option maxRecDepth 100000
set_option maxHeartbeats 8000000
namespace Go.Proofs.YtjneoegbknclgaaGreatDoor
open Go.RowKit
theorem k_drop {w : World} (z num : Int) (d : Bool) (v : Value) (s : ByteArray) (hv : ∃ a n c, v = .slice a n c) (X : Nat) (hX : w.cell? ⟨X, 0, none⟩ = some (.int .i64 num)) :
  Calls Tryz.prog 158 #[.agg #[.int .i64 z, .bool d, v, .string s], .pointer (some ⟨X, 0, none⟩)] w fun e w' => e = .returned (.bool (z == num)) ∧ Kept [] w w' := by
 obtain ⟨a, n, c, rfl⟩ := hv
 obtain ⟨W0, hW0⟩ : ∃ W0, W0 = w.alloc (.cells #[.int .i64 z, .bool d, .slice a n c, .string s] 62 (0, 0)) := ⟨_, rfl⟩
 have k0 : Hid (Kept [] w W0) := by rw [hW0]; exact (Kept.refl [] w).alloc _
 have c0 : W0.cell? ⟨w.heap.size, 0, none⟩ = some (.int .i64 z) := by rw [hW0]; exact cell_new _ _ _ _
 have c1 : W0.cell? ⟨X, 0, none⟩ = some (.int .i64 num) := k0.out.cell hX (by simp)
 have HW : Hid (_) := hW0.symm
 clear hW0
 go_enter Tryz.func158, Tryz.ntmps158
 go_upto_region 1 with fail
 rw [HW.out]
 clear HW
 go_wp2_with fail
 go_ret
 exact ⟨rfl, k0.out⟩
theorem ix_drop {w : World} {a : Option Addr} {L : List Ino} (hL : InoA w a L) (hn : L.length ≤ lim) (c : Nat) (num : Int) (X : Nat) (hX : w.cell? ⟨X, 0, none⟩ = some (.int .i64 num)) :
  Calls Tryz.prog 69 #[.slice a L.length c, .func (.func 158) #[] #[.pointer (some ⟨X, 0, none⟩)]] w fun e w' => e = .returned (.int .i64 (ixI (atR L num))) ∧ Kept [] w w' := by
 have HL : Hid (InoA w a L) := hL
 have HX : Hid (_) := hX
 unfold lim at hn
 clear hL hX
 go_enter Tryz.func69, Tryz.ntmps69
 go_wp2_with fail
 go_loopw [8] (fun i wr => ∃ n : Nat, i = .int .i64 (n : Int) ∧ n ≤ L.length ∧ Hid (Kept [] w wr ∧ ∀ j (hj : j < L.length), j < n → (L[j]).num ≠ num)) (fun i _ => (L.length - intOf i).toNat)
 case atStart => exact ⟨0, rfl, by omega, Kept.refl _ _, fun j _ hj => by omega⟩
 case round =>
  obtain ⟨n, rfl, hn, HJ⟩ := hrel
  by_cases hlt : n < L.length
  ·
   have i0 : (0 : Int) ≤ (n : Int) := by omega
   have i1 : (n : Int) < (L.length : Int) := by omega
   obtain ⟨b, o, ae, ce, ha, h1, h2, h3, h4, -⟩ := (HL.out.kept HJ.out.1) n hlt
   subst ha
   have HX2 : Hid (wr.cell? ⟨X, 0, none⟩ = some (.int .i64 num)) := HJ.out.1.cell HX.out (by simp)
   obtain ⟨z, hz⟩ : ∃ z, (L[n]).num = z := ⟨_, rfl⟩
   obtain ⟨dd, hdd⟩ : ∃ dd, (L[n]).dir = dd := ⟨_, rfl⟩
   obtain ⟨el, hel⟩ : ∃ el, (L[n]).ents.length = el := ⟨_, rfl⟩
   obtain ⟨da, hda⟩ : ∃ da, (L[n]).data = da := ⟨_, rfl⟩
   have HZ : Hid (_) := hz
   rw [hz] at h1
   rw [hdd] at h2
   rw [hel] at h3
   rw [hda] at h4
   clear hz hdd hel hda
   go_wp2_with fail
   refine (k_drop z num dd _ da ⟨_, _, _, rfl⟩ X HX2.out).mono ?_
   rintro e w1 ⟨rfl, k1⟩
   have HK : Hid (Kept [] w w1) := HJ.out.1.trans k1 (by simp)
   clear k1
   by_cases he : z = num
   ·
    have HE : Hid (atR L num = some n) := at_some hlt (HZ.out.trans he) HJ.out.2
    subst he
    clear HJ
    have ht : (z == z) = true := by simp
    rw [ht]
    go_wp2_with fail
    go_ret
    exact ⟨ret_int (by rw [HE.out]; rfl), HK.out⟩
   ·
    have HE : Hid (Kept [] w w1 ∧ ∀ j (hj : j < L.length), j < n + 1 → (L[j]).num ≠ num) := ⟨HK.out, fun j hj hjn => by
     by_cases e : j = n
     · subst e; rw [HZ.out]; exact he
     · exact HJ.out.2 j hj (by omega)⟩
    have e1 : (z == num) = false := by simpa using he
    rw [e1]
    clear HJ HK
    go_wp2_with fail
    go_roundw
    case rel => exact ⟨n + 1, by go_num, by omega, HE.out⟩
    case measure => simp [intOf]; omega
  ·
   have i1 : ¬ (n : Int) < (L.length : Int) := by omega
   have HE : Hid (atR L num = none) := at_none fun j hj => HJ.out.2 j hj (by omega)
   go_wp2_with fail
   go_ret
   exact ⟨ret_int (by rw [HE.out]; rfl), HJ.out.1⟩
theorem zv_Inode (w : World) : (zeroValue 62).run Tryz.prog w = .ok (.agg #[.int .i64 0, .bool false, .slice none 0 0, .string ⟨#[]⟩]) w := by kernel_rfl
theorem shift4 {A C : List Value} {k j N : Nat} (hN : A.length = N) (hC : C.length = N) (h : ∀ q, C[q]? = if k * 4 ≤ q ∧ q < (j - 1) * 4 then A[q + 4]? else A[q]?) (hk : k < j) {u0 u1 u2 u3 : Value} (hj : j * 4 + 3 < N)
  (h0 : A[j * 4]? = some u0) (h1 : A[j * 4 + 1]? = some u1) (h2 : A[j * 4 + 2]? = some u2) (h3 : A[j * 4 + 3]? = some u3) :
  ∀ q, ((((C.set ((j - 1) * 4) u0).set ((j - 1) * 4 + 1) u1).set ((j - 1) * 4 + 2) u2).set ((j - 1) * 4 + 3) u3)[q]? = if k * 4 ≤ q ∧ q < (j + 1 - 1) * 4 then A[q + 4]? else A[q]? := by
 intro q
 simp only [List.getElem?_set, List.length_set, hC]
 by_cases e3 : (j - 1) * 4 + 3 = q
 ·
  rw [if_pos e3, if_pos (by omega), if_pos (by omega), ← e3, ← h3]
  congr 1; omega
 rw [if_neg e3]
 by_cases e2 : (j - 1) * 4 + 2 = q
 ·
  rw [if_pos e2, if_pos (by omega), if_pos (by omega), ← e2, ← h2]
  congr 1; omega
 rw [if_neg e2]
 by_cases e1 : (j - 1) * 4 + 1 = q
 ·
  rw [if_pos e1, if_pos (by omega), if_pos (by omega), ← e1, ← h1]
  congr 1; omega
 rw [if_neg e1]
 by_cases e0 : (j - 1) * 4 = q
 ·
  rw [if_pos e0, if_pos (by omega), if_pos (by omega), ← e0, ← h0]
  congr 1; omega
 rw [if_neg e0, h q]
 by_cases c : k * 4 ≤ q ∧ q < (j - 1) * 4
 · rw [if_pos c, if_pos (by omega)]
 · rw [if_neg c, if_neg (by omega)]
structure Sf (w wr : World) (g k j : Nat) (A : List Value) : Prop where
 kp : Kept [g] w wr
 here : ∃ C : List Value, wr.heap[g]? = some (.cells C.toArray 62 (0, 0)) ∧ C.length = A.length ∧ ∀ q, C[q]? = if k * 4 ≤ q ∧ q < (j - 1) * 4 then A[q + 4]? else A[q]?
theorem Sf.kept {w wr w' : World} {g k j : Nat} {A : List Value} (h : Sf w wr g k j A) (kk : Kept [] wr w') : Sf w w' g k j A := by
 obtain ⟨C, hC, h2, h3⟩ := h.here
 exact ⟨h.kp.trans kk (by simp), C, (kk.block g (lt_of_heap hC) (by simp)).trans hC, h2, h3⟩
theorem Sf.cell {w wr : World} {g k j : Nat} {A : List Value} (h : Sf w wr g k j A) {q : Nat} (hq : (j - 1) * 4 ≤ q) {v : Value} (hA : A[q]? = some v) : wr.cell? ⟨g, q, none⟩ = some v := by
 obtain ⟨C, hC, -, h3⟩ := h.here
 rw [cellB hC]
 have := h3 q
 rw [if_neg (by omega)] at this
 simpa [hA] using this
theorem Sf.frozen {w wr : World} {g k j : Nat} {A : List Value} (h : Sf w wr g k j A) (i : Nat) : wr.frozen? ⟨g, i, none⟩ = false := by
 obtain ⟨C, hC, -⟩ := h.here
 exact frozen_of hC i
theorem Sf.next {w wr : World} {g k j : Nat} {A : List Value} (h : Sf w wr g k j A) (hk : k < j) {u0 u1 u2 u3 : Value} (hj : j * 4 + 3 < A.length) (h0 : A[j * 4]? = some u0) (h1 : A[j * 4 + 1]? = some u1) (h2 : A[j * 4 + 2]? = some u2) (h3 : A[j * 4 + 3]? = some u3) :
  Sf w ((((wr.setCell ⟨g, (j - 1) * 4, none⟩ u0).setCell ⟨g, (j - 1) * 4 + 1, none⟩ u1).setCell ⟨g, (j - 1) * 4 + 2, none⟩ u2).setCell ⟨g, (j - 1) * 4 + 3, none⟩ u3) g k (j + 1) A := by
 obtain ⟨C, hC, hl, hq⟩ := h.here
 refine ⟨(((h.kp.setCell (Or.inl (by simp)) _).setCell (Or.inl (by simp)) _).setCell (Or.inl (by simp)) _).setCell (Or.inl (by simp)) _, _, ?_, ?_, shift4 rfl hl hq hk hj h0 h1 h2 h3⟩
 ·
  rw [block_set (block_set (block_set (block_set hC _ _) _ _) _ _) _ _]
  simp
 · simp [hl]
theorem delf {w : World} {H g cap : Nat} {L : List Ino} {ev : List Value} (hev : ev.length = L.length) (hent : ∀ i (hi : i < L.length) (hv : i < ev.length), ∃ aE cE, ev[i] = .slice aE (L[i]).ents.length cE ∧ EntA w aE (L[i]).ents ∧ (L[i]).ents.length ≤ cE ∧ ∀ y, aE = some y → ∃ b o, y = ⟨b, o, none⟩)
  (h : w.ownsRow H 62 4 (.slice (some ⟨g, 0, none⟩) L.length cap) L.length (inoC L ev)) (hn : L.length ≤ 2513169434843) (num : Int) (X : Nat) (hX : w.cell? ⟨X, 0, none⟩ = some (.int .i64 num)) (hXg : X ≠ g) {k : Nat} (hat : atR L num = some k) (hu : ∀ j (hj : j < L.length), j ≠ k → (L[j]).num ≠ num) :
  Calls Tryz.prog 157 #[.slice (some ⟨g, 0, none⟩) L.length cap, .func (.func 158) #[] #[.pointer (some ⟨X, 0, none⟩)]] w fun e w' => e = .returned (.slice (some ⟨g, 0, none⟩) (L.length - 1) cap) ∧ w'.ownsRow H 62 4 (.slice (some ⟨g, 0, none⟩) (L.length - 1) cap) (L.length - 1) (inoC (L.eraseIdx k) (ev.eraseIdx k)) ∧ Kept [g] w w' := by
 rcases h.2 with ⟨hv, -⟩ | ⟨g', cap', cur, hv, hHg, hgg, hnc, hcm, hcs, htk⟩
 · cases hv
 simp only [Value.slice.injEq, Option.some.injEq, Addr.mk.injEq, and_true, true_and] at hv
 obtain ⟨e1, e2⟩ := hv
 subst e1 e2
 obtain ⟨hkl, hkn⟩ := at_get hat
 obtain ⟨N, hN⟩ : ∃ N, L.length = N := ⟨_, rfl⟩
 have hxl : (inoC L ev).length = N * 4 := by rw [← hN]; exact inoC_length hev
 obtain ⟨A, hA⟩ : ∃ A, cur.toList = A := ⟨_, rfl⟩
 have hAl : A.length = cap * 4 := by rw [← hA]; simpa using hcs
 have hAx : ∀ q, q < N * 4 → A[q]? = (inoC L ev)[q]? := fun q hq => by
  rw [← htk, hA, List.getElem?_take_of_lt (by omega)]
 have HIno : Hid (InoA w (some ⟨g, 0, none⟩) L) := fun i hi => by
  have hvi : i < ev.length := by omega
  obtain ⟨aE, cE, he, hE, hc, hf⟩ := hent i hi hvi
  obtain ⟨t0, t1, t2, t3⟩ := inoC_get hi hvi
  have cc : ∀ q v, q < N * 4 → (inoC L ev)[q]? = some v → w.cell? ⟨g, q, none⟩ = some v := fun q v hq hv => by
   rw [cellB hgg, ← hv, ← hAx q hq, ← hA]; simp
  exact ⟨g, 0, aE, cE, rfl, by rw [Nat.zero_add]; exact cc _ _ (by omega) t0, by rw [Nat.zero_add]; exact cc _ _ (by omega) t1, by rw [Nat.zero_add]; exact cc _ _ (by omega) (by rw [t2, he]), by rw [Nat.zero_add]; exact cc _ _ (by omega) t3, hE, hc, trivial⟩
 have HAt : Hid (atR L num = some k ∧ L.length ≤ lim) := ⟨hat, by unfold lim; omega⟩
 have HX : Hid (w.cell? ⟨X, 0, none⟩ = some (.int .i64 num) ∧ X ≠ g) := ⟨hX, hXg⟩
 have HEl : Hid (∀ j (hj : j < L.length), ∃ z d a c s, A[j * 4]? = some (.int .i64 z) ∧ A[j * 4 + 1]? = some (.bool d) ∧ A[j * 4 + 2]? = some (.slice a (L[j]).ents.length c) ∧ A[j * 4 + 3]? = some (.string s) ∧ (j ≠ k → (z == num) = false)) := fun j hj => by
  have hvj : j < ev.length := by omega
  obtain ⟨aE, cE, he, -⟩ := hent j hj hvj
  obtain ⟨t0, t1, t2, t3⟩ := inoC_get hj hvj
  exact ⟨_, _, aE, cE, _, by rw [hAx _ (by omega)]; exact t0, by rw [hAx _ (by omega)]; exact t1, by rw [hAx _ (by omega), t2, he], by rw [hAx _ (by omega)]; exact t3, fun hne => by simpa using hu j hj hne⟩
 have HS0 : Hid (Sf w w g k (k + 1) A) := ⟨Kept.refl _ _, A, by rw [hgg, ← hA], rfl, fun q => by rw [if_neg (by omega)]⟩
 have HFin : Hid (∀ W C2 : List Value, W.length = A.length → (∀ q, W[q]? = if k * 4 ≤ q ∧ q < (N - 1) * 4 then A[q + 4]? else A[q]?) → C2 = W.take ((N - 1) * 4) ++ [.int .i64 0, .bool false, .slice none 0 0, .string ⟨#[]⟩] ++ W.drop ((N - 1) * 4 + 4) → C2.length = cap * 4 ∧ C2.take ((N - 1) * 4) = inoC (L.eraseIdx k) (ev.eraseIdx k)) := fun W C2 hW hq h2 => by
  have hWl : W.length = cap * 4 := by rw [hW, hAl]
  have hT : (W.take ((N - 1) * 4)).length = (N - 1) * 4 := by rw [List.length_take]; omega
  subst h2
  constructor
  ·
   rw [List.length_append, List.length_append, hT, List.length_drop]
   simp only [List.length_cons, List.length_nil]
   omega
  ·
   rw [List.append_assoc, List.take_append_of_le_length (by omega), List.take_of_length_le (by omega)]
   have e1 : L.eraseIdx k = L.take k ++ L.drop (k + 1) := List.eraseIdx_eq_take_drop_succ ..
   have e2 : ev.eraseIdx k = ev.take k ++ ev.drop (k + 1) := List.eraseIdx_eq_take_drop_succ ..
   rw [e1, e2, inoC_append (by rw [List.length_take, List.length_take, hev]), ← inoC_take hev k (by omega), ← inoC_drop hev (k + 1) (by omega)]
   apply List.ext_getElem?
   intro q
   have hP : ((inoC L ev).take (k * 4)).length = k * 4 := by rw [List.length_take]; omega
   by_cases c1 : q < (N - 1) * 4
   ·
    rw [List.getElem?_take_of_lt c1, hq q]
    by_cases c2 : q < k * 4
    · rw [if_neg (by omega), List.getElem?_append_left (by omega), List.getElem?_take_of_lt c2, hAx q (by omega)]
    ·
     rw [if_pos (by omega), List.getElem?_append_right (by omega), hP, List.getElem?_drop, hAx _ (by omega)]
     congr 1
     omega
   ·
    rw [List.getElem?_eq_none (by omega), List.getElem?_eq_none]
    rw [List.length_append, hP, List.length_drop, hxl]
    omega
 have HM : Hid (H ≤ g ∧ N ≤ cap ∧ cap ≤ maxLen ∧ A.length = cap * 4) := ⟨hHg, by omega, hcm, hAl⟩
 have HEr : Hid ((inoC (L.eraseIdx k) (ev.eraseIdx k)).length = (N - 1) * 4) := by
  show _ = _
  rw [inoC_length (by rw [List.length_eraseIdx, List.length_eraseIdx, hev]), List.length_eraseIdx, if_pos hkl, hN]
 have hcap : cap ≤ 9223372036854775807 := by unfold maxLen at hcm; omega
 rw [hN]
 rw [hN] at hkl hn
 have hnc2 : N ≤ cap := by omega
 have HN : Hid (L.length = N) := hN
 clear hent h hX hXg hat hu hHg hgg hcm hcs htk hkn hxl hA hAl hAx hev hnc hN
 have hk0 : ¬ (k : Int) = -1 := by omega
 have hk1 : ((k : Int) == -1) = false := by simp
 go_enter Tryz.func157, Tryz.ntmps157
 have HIx : Hid (Calls Tryz.prog 69 #[.slice (some ⟨g, 0, none⟩) N cap, .func (.func 158) #[] #[.pointer (some ⟨X, 0, none⟩)]] w fun e w' => e = .returned (.int .i64 (k : Int)) ∧ Kept [] w w') := by
  have := ix_drop HIno.out HAt.out.2 cap num X HX.out.1
  rw [HAt.out.1, HN.out] at this
  exact this
 go_wp2_with fail
 refine HIx.out.mono ?_
 rintro e w1 ⟨rfl, k1⟩
 have HS1 : Hid (_) := HS0.out.kept k1
 clear k1 HIx HS0
 go_wp2_with fail
 go_loopw [5, 6] (fun i j wr => ∃ n : Nat, j = .int .i64 (n : Int) ∧ i = .int .i64 ((n : Int) - 1) ∧ k < n ∧ n ≤ N ∧ Hid (Sf w wr g k n A)) (fun _ j _ => (N - intOf j).toNat)
 case atStart => exact ⟨k + 1, by go_num, by go_num, by omega, by omega, HS1.out⟩
 case round =>
  obtain ⟨n, rfl, rfl, hkn, hnN, HJ⟩ := hrel
  by_cases hlt : n < N
  ·
   have i0 : (0 : Int) ≤ (n : Int) := by omega
   have i1 : (n : Int) < (N : Int) := by omega
   obtain ⟨z, d, a, c, t, t0, t1, t2, t3, hz⟩ := HEl.out n (by have := HN.out; omega)
   have c0 := HJ.out.cell (by omega) t0
   have c1 := HJ.out.cell (by omega) t1
   have c2 := HJ.out.cell (by omega) t2
   have c3 := HJ.out.cell (by omega) t3
   have hz2 := hz (by omega)
   generalize hll : (L[n]'(by have := HN.out; omega)).ents.length = ll at t2 c2
   have HT : Hid (A[n * 4]? = some (.int .i64 z) ∧ A[n * 4 + 1]? = some (.bool d) ∧ A[n * 4 + 2]? = some (.slice a ll c) ∧ A[n * 4 + 3]? = some (.string t)) := ⟨t0, t1, t2, t3⟩
   obtain ⟨W3, Y, HWY, HKY, y0, y1, y2, y3⟩ := box4 wr (.int .i64 z) (.bool d) (.slice a ll c) (.string t) 62
   have HS3 : Hid (_) := HJ.out.kept HKY.out
   have HX3 : Hid (W3.cell? ⟨X, 0, none⟩ = some (.int .i64 num)) := by
    have := HJ.out.kp.cell HX.out.1 (by simpa using HX.out.2)
    exact HKY.out.cell this (by simp)
   have HGY : Hid (Y ≠ g) := fun e => by
    obtain ⟨C, hC, -⟩ := HJ.out.here
    have h1 := lt_of_heap hC
    have h2 := HWY.out.2
    omega
   clear hz t0 t1 t2 t3 hll
   go_upto_region 8 with fail
   rw [HWY.out.1, HWY.out.2]
   clear HWY c0 c1 c2 c3
   go_wp2_with fail
   refine (k_drop z num d _ t ⟨_, _, _, rfl⟩ X HX3.out).mono ?_
   rintro e w5 ⟨rfl, k5⟩
   rw [hz2]
   have x0 := k5.cell y0 (by simp)
   have x1 := k5.cell y1 (by simp)
   have x2 := k5.cell y2 (by simp)
   have x3 := k5.cell y3 (by simp)
   have HS5 : Hid (_) := HS3.out.kept k5
   obtain ⟨p, hp⟩ : ∃ p, n - 1 = p := ⟨_, rfl⟩
   have hpi : (n : Int) - 1 = (p : Int) := by omega
   rw [hpi]
   have l0 : (0 : Int) ≤ (p : Int) := by omega
   have l1 : (p : Int) < (N : Int) := by omega
   have HSn : Hid (Sf w ((((w5.setCell ⟨g, p * 4, none⟩ (.int .i64 z)).setCell ⟨g, p * 4 + 1, none⟩ (.bool d)).setCell ⟨g, p * 4 + 2, none⟩ (.slice a ll c)).setCell ⟨g, p * 4 + 3, none⟩ (.string t)) g k (n + 1) A) := by
    have := HS5.out.next hkn (by have := HM.out; omega) HT.out.1 HT.out.2.1 HT.out.2.2.1 HT.out.2.2.2
    rw [hp] at this
    exact this
   obtain ⟨C, hC, hCl, -⟩ := HS5.out.here
   have hg : ∀ i, i < A.length → ∃ v, w5.cell? ⟨g, i, none⟩ = some v := fun i hi => by
    rw [cellB hC]
    exact ⟨C[i]'(by omega), by simp⟩
   have hAl := HM.out.2.2.2
   obtain ⟨b0, g0⟩ := hg (p * 4) (by omega)
   obtain ⟨b1, g1⟩ := hg (p * 4 + 1) (by omega)
   obtain ⟨b2, g2⟩ := hg (p * 4 + 2) (by omega)
   obtain ⟨b3, g3⟩ := hg (p * 4 + 3) (by omega)
   have z0 := HS5.out.frozen (p * 4)
   have z1 := HS5.out.frozen (p * 4 + 1)
   have z2 := HS5.out.frozen (p * 4 + 2)
   have z3 := HS5.out.frozen (p * 4 + 3)
   have HPI : Hid ((p : Int) = (n : Int) - 1) := hpi.symm
   clear hg hC hCl hAl hpi hp k5 y0 y1 y2 y3 HS5 HS3 HJ
   go_wp2_with fail
   go_roundw
   case rel => exact ⟨n + 1, by go_num, by have := HPI.out; refine congrArg (Value.int IntKind.i64) ?_; omega, by omega, by omega, HSn.out⟩
   case measure => simp [intOf]; omega
  ·
   have i1 : ¬ (n : Int) < (N : Int) := by omega
   have hnn : n = N := by omega
   subst hnn
   obtain ⟨C, hC, hCl, hCq⟩ := HJ.out.here
   have hAl := HM.out.2.2.2
   have hcl := run_clear_one (P := Tryz.prog) wr 23 62 0 (.agg #[.int .i64 0, .bool false, .slice none 0 0, .string ⟨#[]⟩]) 4 Tryz.underlying23 zv_Inode rfl (by intro v hv; simp [Value.cells] at hv; rcases hv with rfl | rfl | rfl | rfl <;> rfl) g ((n - 1) * 4) (cap - (n - 1)) C.toArray 62 hC (by simp only [List.size_toArray]; omega)
   obtain ⟨C2, hC2⟩ : ∃ C2, C.take ((n - 1) * 4) ++ [.int .i64 0, .bool false, .slice none 0 0, .string ⟨#[]⟩] ++ C.drop ((n - 1) * 4 + 4) = C2 := ⟨_, rfl⟩
   obtain ⟨f1, f2⟩ := HFin.out C C2 hCl hCq hC2.symm
   have hcl2 : (Builtin.clear_ #[23] 0 #[.slice (some ⟨g, (n - 1) * 4, none⟩) 1 (cap - (n - 1))]).run Tryz.prog wr = .ok (.tuple #[]) (wr.setRow g C2.toArray) := by
    rw [← hC2]; exact hcl
   obtain ⟨W7, hW7⟩ : ∃ W7, wr.setRow g C2.toArray = W7 := ⟨_, rfl⟩
   rw [hW7] at hcl2
   have HE : Hid (W7.ownsRow H 62 4 (.slice (some ⟨g, 0, none⟩) (n - 1) cap) (n - 1) (inoC (L.eraseIdx k) (ev.eraseIdx k)) ∧ Kept [g] w W7) := by
    have hM := HM.out
    refine ⟨⟨HEr.out, .inr ⟨g, cap, C2.toArray, rfl, hM.1, ?_, by omega, hM.2.2.1, by simpa using f1, by simpa using f2⟩⟩, ?_⟩
    · rw [← hW7]; exact setRow_heap wr g C.toArray _ _ _ hC
    · rw [← hW7]; exact HJ.out.kp.setRow (Or.inl (by simp)) _
   obtain ⟨p, hp⟩ : ∃ p, n - 1 = p := ⟨_, rfl⟩
   have hpi : (n : Int) - 1 = (p : Int) := by omega
   rw [hpi]
   rw [hp] at hcl2 HE
   have HP : Hid (n - 1 = p) := hp
   have HCl : Hid (∀ l, l = 1 → (Builtin.clear_ #[23] 0 #[.slice (some ⟨g, p * 4, none⟩) l (cap - p)]).run Tryz.prog wr = .ok (.tuple #[]) W7) := fun l hl => by subst hl; exact hcl2
   have l0 : (0 : Int) ≤ (p : Int) := by omega
   have l1 : (p : Int) ≤ (n : Int) := by omega
   have l2 : ¬ cap = p := by omega
   have l3 : (p : Int) ≤ (cap : Int) := by omega
   have HL1 : Hid (n - p = 1) := by show _ = _; omega
   clear hcl hcl2 hC hCl hCq hC2 f1 f2 hW7 hAl hp hpi
   have hcl3 := HCl.out (n - p) HL1.out
   go_wp2_with fail
   go_ret
   exact ⟨by rw [HP.out]; rfl, by rw [HP.out]; exact HE.out.1, HE.out.2⟩
end Go.Proofs.YtjneoegbknclgaaGreatDoor
