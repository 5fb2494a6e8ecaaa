/-
  A directory of package dir: Move, by the words.
-/
import Derived.Test.YtnbbcbjfejdceaaDoorDu
namespace Go.Proofs.YtnbbcbjfejdceaaDoor
open Go.RowKit
set_option linter.unusedVariables false

theorem two_names {w : World} (s t : ByteArray) (y : TypeId) : ∀ i, (hi : i < [s, t].length) → ∃ B, some (⟨w.heap.size, 0, none⟩ : Addr) = some ⟨B, 0, none⟩ ∧ (w.alloc (.cells #[.string s, .string t] y)).cell? ⟨B, i, none⟩ = some (.string [s, t][i]) := by
  intro i hi
  refine ⟨_, rfl, ?_⟩
  rw [cell_of_row _ _ _ _ _ _ (heap_alloc_new _ _)]
  rcases (show i = 0 ∨ i = 1 by simp at hi; omega) with rfl | rfl <;> rfl

theorem wrong_two {c : Int} {k : Nat} {s t : ByteArray} : (wrongV c k [s, t] = 0 ↔ (0 ≤ c ∧ c < (k : Int)) ∧ chk s = 0 ∧ chk t = 0) ∧ (¬ ((0 ≤ c ∧ c < (k : Int)) ∧ chk s = 0 ∧ chk t = 0) → wrongV c k [s, t] = 900) := by
  unfold wrongV
  by_cases h : c < 0 ∨ (k : Int) ≤ c
  · rw [if_pos h]; exact ⟨by omega, fun _ => rfl⟩
  · rw [if_neg h]
    by_cases h2 : chk s = 0 ∧ chk t = 0
    · rw [if_pos (by simpa using h2)]; exact ⟨by simp [h2]; omega, fun hn => absurd ⟨by omega, h2⟩ hn⟩
    · rw [if_neg (by simpa using h2)]; exact ⟨⟨fun h => by omega, fun h => absurd h.2 h2⟩, fun _ => rfl⟩

/-- What Move answers and makes of the words. -/
def MovW (W : Nat → Int) (n m : Nat) (s t : ByteArray) (z : Int) (W' : Nat → Int) : Prop :=
  (fnd (fun j => W (n * 12 + j)) (sp0 s) (sp1 s) = -1 ∧ z = 903 ∧ W' = W) ∨
  (∃ i : Nat, i < 4 ∧ fnd (fun j => W (n * 12 + j)) (sp0 s) (sp1 s) = (i : Int) ∧
    ((∃ j : Nat, j < 4 ∧ fnd (fun j => W (m * 12 + j)) (sp0 t) (sp1 t) = (j : Int) ∧ z = 901 ∧ W' = W) ∨
     (fnd (fun j => W (m * 12 + j)) (sp0 t) (sp1 t) = -1 ∧ m ≠ n ∧ fnd (fun j => W (m * 12 + j)) 0 0 = -1 ∧ z = 902 ∧ W' = W) ∨
     (fnd (fun j => W (m * 12 + j)) (sp0 t) (sp1 t) = -1 ∧ ∃ j : Nat, j < 4 ∧ ((m = n ∧ j = i) ∨ (m ≠ n ∧ fnd (fun j => W (m * 12 + j)) 0 0 = (j : Int))) ∧ z = 0 ∧ W' = upd3 (upd3 W (n * 12 + i * 3) 0 0 0) (m * 12 + j * 3) (W (n * 12 + i * 3)) (sp0 t) (sp1 t))))

theorem cell_slot {w : World} {B : Nat} {n : Int} {v : Nat → Int} (h : Cb w B n v) {i : Nat} (hi : i < 4) : w.cell? ⟨B, 1 + i * 3, none⟩ = some (.int .i64 (v (i * 3))) := by
  obtain ⟨h0, h1, h2, h3, h4, h5, h6, h7, h8, h9, h10, h11, h12⟩ := h
  rcases (show i = 0 ∨ i = 1 ∨ i = 2 ∨ i = 3 by omega) with rfl | rfl | rfl | rfl
  · exact h1
  · exact h4
  · exact h7
  · exact h10

section
variable {I : Trc → Prop} {S : List (Nat × Obj)} {w0 w : World} {b g f k L N : Nat} {W V : Nat → Int}

theorem d_move_bad (h : Db I S w0 w b g f k L N W) (c : Int) (s t : ByteArray) (hb : ¬ ((0 ≤ c ∧ c < (k : Int)) ∧ chk s = 0 ∧ chk t = 0)) :
    Calls Tryd.prog 13 #[.pointer (some ⟨g, 0, none⟩), .int .i64 c, .string s, .string t] w fun e w' => e = .returned (.int .i64 900) ∧ Db I S w0 w' b g f k L N W := by
  have HZ : Hid (_) := wrong_two.2 hb
  have H0 : Hid (_) := h.still ((Kept.refl [] w).alloc (.cells #[.string s, .string t] 9))
  clear h hb
  go_enter Tryd.func13, Tryd.ntmps13
  go_wp2_with fail
  refine (d_wrong H0.out c [s, t] _ (by simp) (two_names s t 9) _ rfl _).mono ?_
  rintro e w1 ⟨rfl, hk⟩
  rw [HZ.out]
  have H1 : Hid (_) := Db.still H0.out hk
  clear hk H0
  go_wp2_with fail
  go_ret
  exact ⟨rfl, H1.out⟩

set_option maxRecDepth 100000 in
set_option maxHeartbeats 8000000 in
theorem d_move_go (h : Db I S w0 w b g f k L N W) (c n m : Nat) (s t : ByteArray) (hs : chk s = 0) (ht : chk t = 0) (hn : bkt s = (n : Int)) (hm : bkt t = (m : Int)) (hc : c < k) (hI : Rd I c f n) (hJ : Wr I c f n) (hI2 : Rd I c f m) (hJ2 : Wr I c f m) (hN : N < 800000) (z : Int) (W' : Nat → Int) (hx : MovW W n m s t z W') :
    Calls Tryd.prog 13 #[.pointer (some ⟨g, 0, none⟩), .int .i64 (c : Int), .string s, .string t] w fun e w' => e = .returned (.int .i64 z) ∧ Db I S w0 w' b g f k L (N + 30) W' := by
  have HZ : Hid (wrongV (c : Int) k [s, t] = 0) := wrong_two.1.2 ⟨by omega, hs, ht⟩
  have HS : Hid ((g, box b f) ∈ S ∧ Wr I c f n ∧ Wr I c f m) := ⟨h.mem, hJ, hJ2⟩
  have H0 : Hid (_) := h.still ((Kept.refl [] w).alloc (.cells #[.string s, .string t] 9))
  have HX : Hid (_) := hx
  have hn8 : n < 8 := by have := bkt_range s; omega
  have hm8 : m < 8 := by have := bkt_range t; omega
  have HR : Hid (bkt s = (n : Int) ∧ Rd I c f n ∧ chk s = 0) := ⟨hn, hI, hs⟩
  have HQ : Hid (bkt t = (m : Int) ∧ Rd I c f m ∧ chk t = 0) := ⟨hm, hI2, ht⟩
  clear h hx hI hn hs hJ hI2 hJ2 hm ht
  go_enter Tryd.func13, Tryd.ntmps13
  go_wp2_with fail
  refine (d_wrong H0.out (c : Int) [s, t] _ (by simp) (two_names s t 9) _ rfl _).mono ?_
  rintro e w1 ⟨rfl, hk⟩
  rw [HZ.out]
  have H1 : Hid (_) := Db.still H0.out hk
  clear hk H0 HZ
  go_wp2_with fail
  refine (d_bucketOf H1.out c n s HR.out.1 hc HR.out.2.1 (by omega)).mono ?_
  rintro e w2 ⟨rfl, h2⟩
  have H2 : Hid (_) := h2
  clear h2 H1
  obtain ⟨v, hv⟩ : ∃ v : Nat → Int, v = fun j => W (n * 12 + j) := ⟨_, rfl⟩
  have HX2 : Hid (∀ i, v (i * 3) = W (n * 12 + i * 3)) := fun i => by rw [hv]
  rw [← hv] at HX ⊢
  clear hv
  obtain ⟨u, hu⟩ : ∃ u : Nat → Int, u = fun j => W (m * 12 + j) := ⟨_, rfl⟩
  have HU : Hid (u = fun j => W (m * 12 + j)) := hu
  rw [← hu] at HX
  clear hu
  have H3 : Hid (_) := Db.push H2.out (.cells (bk (n : Int) v) 74 (0, 0))
  clear H2
  unfold bk at H3 ⊢
  go_wp2_with fail
  obtain ⟨W3, hW3⟩ : ∃ W3, W3 = w2.alloc (.cells #[.int .i64 (n : Int), .int .i64 (v 0), .int .i64 (v 1), .int .i64 (v 2), .int .i64 (v 3), .int .i64 (v 4), .int .i64 (v 5), .int .i64 (v 6), .int .i64 (v 7), .int .i64 (v 8), .int .i64 (v 9), .int .i64 (v 10), .int .i64 (v 11)] 74 (0, 0)) := ⟨_, rfl⟩
  rw [← hW3] at H3
  have HW : Hid (_) := hW3.symm
  rw [HW.out]
  clear hW3 HW
  have HD : Hid (_) := Db.still H3.out (Kept.refl [] W3).drew
  have HC : Hid (Cb W3.drew w2.heap.size (n : Int) v) := Cb.of (HD.out.at_ (x := (w2.heap.size, .cells (bk (n : Int) v) 74 (0, 0))) (List.mem_cons_self ..))
  clear H3
  go_region_held3 (fun w' => w'.cell? ⟨w2.heap.size, 0, none⟩ = some (.int .i64 (n : Int)) ∧ w'.cell? ⟨w2.heap.size, 1, none⟩ = some (.int .i64 (v 0)) ∧ w'.cell? ⟨w2.heap.size, 2, none⟩ = some (.int .i64 (v 1)) ∧ w'.cell? ⟨w2.heap.size, 3, none⟩ = some (.int .i64 (v 2)) ∧ w'.cell? ⟨w2.heap.size, 4, none⟩ = some (.int .i64 (v 3)) ∧ w'.cell? ⟨w2.heap.size, 5, none⟩ = some (.int .i64 (v 4)) ∧ w'.cell? ⟨w2.heap.size, 6, none⟩ = some (.int .i64 (v 5)) ∧ w'.cell? ⟨w2.heap.size, 7, none⟩ = some (.int .i64 (v 6)) ∧ w'.cell? ⟨w2.heap.size, 8, none⟩ = some (.int .i64 (v 7)) ∧ w'.cell? ⟨w2.heap.size, 9, none⟩ = some (.int .i64 (v 8)) ∧ w'.cell? ⟨w2.heap.size, 10, none⟩ = some (.int .i64 (v 9)) ∧ w'.cell? ⟨w2.heap.size, 11, none⟩ = some (.int .i64 (v 10)) ∧ w'.cell? ⟨w2.heap.size, 12, none⟩ = some (.int .i64 (v 11))) (first | exact HC.out | exact z4 | exact z5 | go_keep)
    (first
      | (go_at_call 32; refine (d_spell s _ HR.out.2.2).mono ?_; rintro e w4 ⟨rfl, k4⟩; have z4 := HC.out.kept k4)
      | (go_at_call 31; refine (b_find (n : Int) v (sp0 s) (sp1 s) _).mono ?_; rintro e w5 ⟨rfl, k5⟩; have z5 := Cb.kept z4 k5))
  have HD5 : Hid (_) := Db.still HD.out (k4.trans k5 (by simp))
  clear z4 z5 k4 k5 HD HC
  rcases HX.out with ⟨hF, rfl, rfl⟩ | ⟨i, hi, hF, hX⟩
  · rw [hF]
    clear hF HX
    go_wp2_with fail
    go_ret
    exact ⟨rfl, (HD5.out.drop HS.out.1).mono (by omega)⟩
  rw [hF]
  have HX : Hid (_) := hX
  clear hF hX
  have ni : ((i : Int) == -1) = false := by simp
  have ni2 : ¬ ((i : Int) = -1) := by omega
  go_wp2_with fail
  refine (d_bucketOf HD5.out c m t HQ.out.1 hc HQ.out.2.1 (by omega)).mono ?_
  rintro e w6 ⟨rfl, h6⟩
  rw [← HU.out]
  have H6 : Hid (_) := Db.push h6 (.cells (bk (m : Int) u) 74 (0, 0))
  clear h6 HD5
  unfold bk at H6 ⊢
  go_wp2_with fail
  obtain ⟨W7, hW7⟩ : ∃ W7, W7 = w6.alloc (.cells #[.int .i64 (m : Int), .int .i64 (u 0), .int .i64 (u 1), .int .i64 (u 2), .int .i64 (u 3), .int .i64 (u 4), .int .i64 (u 5), .int .i64 (u 6), .int .i64 (u 7), .int .i64 (u 8), .int .i64 (u 9), .int .i64 (u 10), .int .i64 (u 11)] 74 (0, 0)) := ⟨_, rfl⟩
  rw [← hW7] at H6
  have HW : Hid (_) := hW7.symm
  rw [HW.out]
  clear hW7 HW
  have HD : Hid (_) := Db.still H6.out (Kept.refl [] W7).drew
  have HC : Hid (Cb W7.drew w6.heap.size (m : Int) u) := Cb.of (HD.out.at_ (x := (w6.heap.size, .cells (bk (m : Int) u) 74 (0, 0))) (List.mem_cons_self ..))
  clear H6
  rcases HX.out with ⟨j', hj', hF, rfl, rfl⟩ | hX
  · have e1 : (fnd u (sp0 t) (sp1 t) != -1) = true := by rw [hF]; simp
    clear hF HX
    go_region_held3 (fun w' => w'.cell? ⟨w6.heap.size, 0, none⟩ = some (.int .i64 (m : Int)) ∧ w'.cell? ⟨w6.heap.size, 1, none⟩ = some (.int .i64 (u 0)) ∧ w'.cell? ⟨w6.heap.size, 2, none⟩ = some (.int .i64 (u 1)) ∧ w'.cell? ⟨w6.heap.size, 3, none⟩ = some (.int .i64 (u 2)) ∧ w'.cell? ⟨w6.heap.size, 4, none⟩ = some (.int .i64 (u 3)) ∧ w'.cell? ⟨w6.heap.size, 5, none⟩ = some (.int .i64 (u 4)) ∧ w'.cell? ⟨w6.heap.size, 6, none⟩ = some (.int .i64 (u 5)) ∧ w'.cell? ⟨w6.heap.size, 7, none⟩ = some (.int .i64 (u 6)) ∧ w'.cell? ⟨w6.heap.size, 8, none⟩ = some (.int .i64 (u 7)) ∧ w'.cell? ⟨w6.heap.size, 9, none⟩ = some (.int .i64 (u 8)) ∧ w'.cell? ⟨w6.heap.size, 10, none⟩ = some (.int .i64 (u 9)) ∧ w'.cell? ⟨w6.heap.size, 11, none⟩ = some (.int .i64 (u 10)) ∧ w'.cell? ⟨w6.heap.size, 12, none⟩ = some (.int .i64 (u 11))) (first | exact HC.out | exact z4 | exact z5 | go_keep)
      (first
        | (go_at_call 32; refine (d_spell t _ HQ.out.2.2).mono ?_; rintro e w8 ⟨rfl, k4⟩; have z4 := HC.out.kept k4)
        | (go_at_call 31; refine (b_find (m : Int) u (sp0 t) (sp1 t) _).mono ?_; rintro e w9 ⟨rfl, k5⟩; have z5 := Cb.kept z4 k5))
    have HD9 : Hid (_) := Db.still HD.out (k4.trans k5 (by simp))
    clear z4 z5 k4 k5 HD HC
    go_wp2_with fail
    go_ret
    exact ⟨rfl, ((HD9.out.drop (List.mem_cons_of_mem _ HS.out.1)).drop HS.out.1).mono (by omega)⟩
  have e1 : (fnd u (sp0 t) (sp1 t) != -1) = false := by
    rcases hX with ⟨hF, -⟩ | ⟨hF, -⟩ <;> (rw [hF]; rfl)
  have HX : Hid (_) := hX
  clear hX
  go_region_held3 (fun w' => w'.cell? ⟨w6.heap.size, 0, none⟩ = some (.int .i64 (m : Int)) ∧ w'.cell? ⟨w6.heap.size, 1, none⟩ = some (.int .i64 (u 0)) ∧ w'.cell? ⟨w6.heap.size, 2, none⟩ = some (.int .i64 (u 1)) ∧ w'.cell? ⟨w6.heap.size, 3, none⟩ = some (.int .i64 (u 2)) ∧ w'.cell? ⟨w6.heap.size, 4, none⟩ = some (.int .i64 (u 3)) ∧ w'.cell? ⟨w6.heap.size, 5, none⟩ = some (.int .i64 (u 4)) ∧ w'.cell? ⟨w6.heap.size, 6, none⟩ = some (.int .i64 (u 5)) ∧ w'.cell? ⟨w6.heap.size, 7, none⟩ = some (.int .i64 (u 6)) ∧ w'.cell? ⟨w6.heap.size, 8, none⟩ = some (.int .i64 (u 7)) ∧ w'.cell? ⟨w6.heap.size, 9, none⟩ = some (.int .i64 (u 8)) ∧ w'.cell? ⟨w6.heap.size, 10, none⟩ = some (.int .i64 (u 9)) ∧ w'.cell? ⟨w6.heap.size, 11, none⟩ = some (.int .i64 (u 10)) ∧ w'.cell? ⟨w6.heap.size, 12, none⟩ = some (.int .i64 (u 11))) (first | exact HC.out | exact z4 | exact z5 | go_keep)
    (first
      | (go_at_call 32; refine (d_spell t _ HQ.out.2.2).mono ?_; rintro e w8 ⟨rfl, k4⟩; have z4 := HC.out.kept k4)
      | (go_at_call 31; refine (b_find (m : Int) u (sp0 t) (sp1 t) _).mono ?_; rintro e w9 ⟨rfl, k5⟩; have z5 := Cb.kept z4 k5))
  have HD9 : Hid (_) := Db.still HD.out (k4.trans k5 (by simp))
  have HZ9 : Hid (Cb w9 w6.heap.size (m : Int) u) := z5
  clear z4 z5 k4 k5 HD HC e1
  have hz := HZ9.out
  obtain ⟨h0, h1, h2, h3, h4, h5, h6, h7, h8, h9, h10, h11, h12⟩ := hz
  go_wp2_with fail
  refine (b_find (m : Int) u 0 0 _).mono ?_
  rintro e w10 ⟨rfl, k6⟩
  have HD10 : Hid (_) := Db.still HD9.out k6
  have HZ10 : Hid (Cb w10 w6.heap.size (m : Int) u) := HZ9.out.kept k6
  have HY10 : Hid (Cb w10 w2.heap.size (n : Int) v) := Cb.of (HD10.out.at_ (x := (w2.heap.size, .cells (bk (n : Int) v) 74 (0, 0))) (List.mem_cons_of_mem _ (List.mem_cons_self ..)))
  clear h0 h1 h2 h3 h4 h5 h6 h7 h8 h9 h10 h11 h12 k6 HD9 HZ9
  have y0 := HY10.out.1
  have x0 := HZ10.out.1
  have hY := HY10.out
  obtain ⟨q0, q1, q2, q3, q4, q5, q6, q7, q8, q9, q10, q11, q12⟩ := hY
  by_cases hmn : m = n
  · have e2 : ((m : Int) == (n : Int)) = true := by simp [hmn]
    rcases HX.out with ⟨-, hne, -⟩ | ⟨-, j, hj, hjj, rfl, rfl⟩
    · exact absurd hmn hne
    have hji : j = i := by
      rcases hjj with ⟨-, h⟩ | ⟨h, -⟩
      · exact h
      · exact absurd hmn h
    clear hjj HX hmn
    subst hji
    go_wp2_with fail
    refine (d_put HD10.out c n j v 0 0 0 _ rfl hc hn8 hj HS.out.2.1 (by omega)).mono ?_
    rintro e w11 ⟨rfl, h11⟩
    have H11 : Hid (_) := h11
    clear h11 HD10 HZ10 HY10
    clear q0 q1 q2 q3 q4 q5 q6 q7 q8 q9 q10 q11 q12 y0 x0
    go_wp2_with fail
    have HD12 : Hid (_) := Db.still H11.out (Kept.refl [] w11).drew
    have HC12 : Hid (Cb w11.drew w6.heap.size (m : Int) u) := Cb.of (HD12.out.at_ (x := (w6.heap.size, .cells (bk (m : Int) u) 74 (0, 0))) (List.mem_cons_self ..))
    have HE12 : Hid (w11.drew.cell? ⟨w2.heap.size, 1 + j * 3, none⟩ = some (.int .i64 (v (j * 3)))) := cell_slot (Cb.of (HD12.out.at_ (x := (w2.heap.size, .cells (bk (n : Int) v) 74 (0, 0))) (List.mem_cons_of_mem _ (List.mem_cons_self ..)))) hj
    have i0 : (0 : Int) ≤ (j : Int) := by omega
    have i4 : (j : Int) < 4 := by omega
    clear H11
    go_region_held3 (fun w' => (w'.cell? ⟨w6.heap.size, 0, none⟩ = some (.int .i64 (m : Int)) ∧ w'.cell? ⟨w6.heap.size, 1, none⟩ = some (.int .i64 (u 0)) ∧ w'.cell? ⟨w6.heap.size, 2, none⟩ = some (.int .i64 (u 1)) ∧ w'.cell? ⟨w6.heap.size, 3, none⟩ = some (.int .i64 (u 2)) ∧ w'.cell? ⟨w6.heap.size, 4, none⟩ = some (.int .i64 (u 3)) ∧ w'.cell? ⟨w6.heap.size, 5, none⟩ = some (.int .i64 (u 4)) ∧ w'.cell? ⟨w6.heap.size, 6, none⟩ = some (.int .i64 (u 5)) ∧ w'.cell? ⟨w6.heap.size, 7, none⟩ = some (.int .i64 (u 6)) ∧ w'.cell? ⟨w6.heap.size, 8, none⟩ = some (.int .i64 (u 7)) ∧ w'.cell? ⟨w6.heap.size, 9, none⟩ = some (.int .i64 (u 8)) ∧ w'.cell? ⟨w6.heap.size, 10, none⟩ = some (.int .i64 (u 9)) ∧ w'.cell? ⟨w6.heap.size, 11, none⟩ = some (.int .i64 (u 10)) ∧ w'.cell? ⟨w6.heap.size, 12, none⟩ = some (.int .i64 (u 11))) ∧ w'.cell? ⟨w2.heap.size, 1 + j * 3, none⟩ = some (.int .i64 (v (j * 3)))) (first | exact ⟨HC12.out, HE12.out⟩ | exact z13 | exact z14 | go_keep)
      (first
        | (go_at_call 32; refine (d_spell t _ HQ.out.2.2).mono ?_; rintro e w13 ⟨rfl, k13⟩; have z13 : Cb w13 w6.heap.size (m : Int) u ∧ w13.cell? ⟨w2.heap.size, 1 + j * 3, none⟩ = some (.int .i64 (v (j * 3))) := ⟨Cb.kept HC12.out k13, k13.cell HE12.out (by simp)⟩)
        | (go_at_call 33; refine (d_put (Db.still HD12.out k13) c m j u (v (j * 3)) (sp0 t) (sp1 t) _ rfl hc hm8 hj HS.out.2.2 (by omega)).mono ?_; rintro e w14 ⟨rfl, h14⟩; have z14 : Cb w14 w6.heap.size (m : Int) u ∧ w14.cell? ⟨w2.heap.size, 1 + j * 3, none⟩ = some (.int .i64 (v (j * 3))) := ⟨Cb.of (h14.at_ (x := (w6.heap.size, .cells (bk (m : Int) u) 74 (0, 0))) (List.mem_cons_self ..)), cell_slot (Cb.of (h14.at_ (x := (w2.heap.size, .cells (bk (n : Int) v) 74 (0, 0))) (List.mem_cons_of_mem _ (List.mem_cons_self ..)))) hj⟩))
    have H14 : Hid (_) := ((h14.drop (List.mem_cons_of_mem _ HS.out.1)).drop HS.out.1).mono (show _ ≤ N + 30 by omega)
    clear h14 z13 z14 k13 HD12 HC12 HE12
    go_wp2_with fail
    go_ret
    refine ⟨rfl, ?_⟩
    rw [← HX2.out j]
    exact H14.out
  · have e2 : ((m : Int) == (n : Int)) = false := by simp; omega
    have e3 : ¬ ((m : Int) = (n : Int)) := by omega
    rcases HX.out with ⟨-, -, hF0, rfl, rfl⟩ | ⟨-, j, hj, hjj, rfl, rfl⟩
    · rw [hF0]
      clear hF0 HX
      go_wp2_with fail
      go_ret
      exact ⟨rfl, ((HD10.out.drop (List.mem_cons_of_mem _ HS.out.1)).drop HS.out.1).mono (by omega)⟩
    have hF0 : fnd u 0 0 = (j : Int) := by
      rcases hjj with ⟨h, -⟩ | ⟨-, h⟩
      · exact absurd h hmn
      · exact h
    rw [hF0]
    have nj : ((j : Int) == -1) = false := by simp
    have nj2 : ¬ ((j : Int) = -1) := by omega
    clear hjj HX hmn hF0
    go_wp2_with fail
    refine (d_put HD10.out c n i v 0 0 0 _ rfl hc hn8 hi HS.out.2.1 (by omega)).mono ?_
    rintro e w11 ⟨rfl, h11⟩
    have H11 : Hid (_) := h11
    clear h11 HD10 HZ10 HY10
    clear q0 q1 q2 q3 q4 q5 q6 q7 q8 q9 q10 q11 q12 y0 x0
    go_wp2_with fail
    have HD12 : Hid (_) := Db.still H11.out (Kept.refl [] w11).drew
    have HC12 : Hid (Cb w11.drew w6.heap.size (m : Int) u) := Cb.of (HD12.out.at_ (x := (w6.heap.size, .cells (bk (m : Int) u) 74 (0, 0))) (List.mem_cons_self ..))
    have HE12 : Hid (w11.drew.cell? ⟨w2.heap.size, 1 + i * 3, none⟩ = some (.int .i64 (v (i * 3)))) := cell_slot (Cb.of (HD12.out.at_ (x := (w2.heap.size, .cells (bk (n : Int) v) 74 (0, 0))) (List.mem_cons_of_mem _ (List.mem_cons_self ..)))) hi
    have i0 : (0 : Int) ≤ (i : Int) := by omega
    have i4 : (i : Int) < 4 := by omega
    clear H11
    go_region_held3 (fun w' => (w'.cell? ⟨w6.heap.size, 0, none⟩ = some (.int .i64 (m : Int)) ∧ w'.cell? ⟨w6.heap.size, 1, none⟩ = some (.int .i64 (u 0)) ∧ w'.cell? ⟨w6.heap.size, 2, none⟩ = some (.int .i64 (u 1)) ∧ w'.cell? ⟨w6.heap.size, 3, none⟩ = some (.int .i64 (u 2)) ∧ w'.cell? ⟨w6.heap.size, 4, none⟩ = some (.int .i64 (u 3)) ∧ w'.cell? ⟨w6.heap.size, 5, none⟩ = some (.int .i64 (u 4)) ∧ w'.cell? ⟨w6.heap.size, 6, none⟩ = some (.int .i64 (u 5)) ∧ w'.cell? ⟨w6.heap.size, 7, none⟩ = some (.int .i64 (u 6)) ∧ w'.cell? ⟨w6.heap.size, 8, none⟩ = some (.int .i64 (u 7)) ∧ w'.cell? ⟨w6.heap.size, 9, none⟩ = some (.int .i64 (u 8)) ∧ w'.cell? ⟨w6.heap.size, 10, none⟩ = some (.int .i64 (u 9)) ∧ w'.cell? ⟨w6.heap.size, 11, none⟩ = some (.int .i64 (u 10)) ∧ w'.cell? ⟨w6.heap.size, 12, none⟩ = some (.int .i64 (u 11))) ∧ w'.cell? ⟨w2.heap.size, 1 + i * 3, none⟩ = some (.int .i64 (v (i * 3)))) (first | exact ⟨HC12.out, HE12.out⟩ | exact z13 | exact z14 | go_keep)
      (first
        | (go_at_call 32; refine (d_spell t _ HQ.out.2.2).mono ?_; rintro e w13 ⟨rfl, k13⟩; have z13 : Cb w13 w6.heap.size (m : Int) u ∧ w13.cell? ⟨w2.heap.size, 1 + i * 3, none⟩ = some (.int .i64 (v (i * 3))) := ⟨Cb.kept HC12.out k13, k13.cell HE12.out (by simp)⟩)
        | (go_at_call 33; refine (d_put (Db.still HD12.out k13) c m j u (v (i * 3)) (sp0 t) (sp1 t) _ rfl hc hm8 hj HS.out.2.2 (by omega)).mono ?_; rintro e w14 ⟨rfl, h14⟩; have z14 : Cb w14 w6.heap.size (m : Int) u ∧ w14.cell? ⟨w2.heap.size, 1 + i * 3, none⟩ = some (.int .i64 (v (i * 3))) := ⟨Cb.of (h14.at_ (x := (w6.heap.size, .cells (bk (m : Int) u) 74 (0, 0))) (List.mem_cons_self ..)), cell_slot (Cb.of (h14.at_ (x := (w2.heap.size, .cells (bk (n : Int) v) 74 (0, 0))) (List.mem_cons_of_mem _ (List.mem_cons_self ..)))) hi⟩))
    have H14 : Hid (_) := ((h14.drop (List.mem_cons_of_mem _ HS.out.1)).drop HS.out.1).mono (show _ ≤ N + 30 by omega)
    clear h14 z13 z14 k13 HD12 HC12 HE12
    go_wp2_with fail
    go_ret
    refine ⟨rfl, ?_⟩
    rw [← HX2.out i]
    exact H14.out

end
end Go.Proofs.YtnbbcbjfejdceaaDoor
