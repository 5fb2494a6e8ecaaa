/-
  A directory of package dir: Find, Remove, Insert, by the words.
-/
import Derived.Test.YtnbbcbjfejdceaaDoorDt
import Derived.Test.YtnbbcbjfejdceaaDoorSy
import Derived.Deep.RegionHeld3
namespace Go.Proofs.YtnbbcbjfejdceaaDoor
open Go.RowKit
set_option linter.unusedVariables false

theorem fnd_cases (v : Nat → Int) (x y : Int) : (fnd v x y = -1 ∧ ∀ i, i < 4 → hit v x y i = false) ∨ ∃ i : Nat, i < 4 ∧ fnd v x y = (i : Int) ∧ hit v x y i = true := by
  unfold fnd
  rcases h0 : hit v x y 0 with _ | _
  · rcases h1 : hit v x y 1 with _ | _
    · rcases h2 : hit v x y 2 with _ | _
      · rcases h3 : hit v x y 3 with _ | _
        · left
          refine ⟨rfl, fun i hi => ?_⟩
          rcases (show i = 0 ∨ i = 1 ∨ i = 2 ∨ i = 3 by omega) with rfl | rfl | rfl | rfl <;> assumption
        · exact Or.inr ⟨3, by omega, rfl, h3⟩
      · exact Or.inr ⟨2, by omega, rfl, h2⟩
    · exact Or.inr ⟨1, by omega, rfl, h1⟩
  · exact Or.inr ⟨0, by omega, rfl, h0⟩

/-- The thirteen cells of a bucket in a block. -/
def Cb (w : World) (B : Nat) (n : Int) (v : Nat → Int) : Prop := w.cell? ⟨B, 0, none⟩ = some (.int .i64 (n : Int)) ∧ w.cell? ⟨B, 1, none⟩ = some (.int .i64 (v 0)) ∧ w.cell? ⟨B, 2, none⟩ = some (.int .i64 (v 1)) ∧ w.cell? ⟨B, 3, none⟩ = some (.int .i64 (v 2)) ∧ w.cell? ⟨B, 4, none⟩ = some (.int .i64 (v 3)) ∧ w.cell? ⟨B, 5, none⟩ = some (.int .i64 (v 4)) ∧ w.cell? ⟨B, 6, none⟩ = some (.int .i64 (v 5)) ∧ w.cell? ⟨B, 7, none⟩ = some (.int .i64 (v 6)) ∧ w.cell? ⟨B, 8, none⟩ = some (.int .i64 (v 7)) ∧ w.cell? ⟨B, 9, none⟩ = some (.int .i64 (v 8)) ∧ w.cell? ⟨B, 10, none⟩ = some (.int .i64 (v 9)) ∧ w.cell? ⟨B, 11, none⟩ = some (.int .i64 (v 10)) ∧ w.cell? ⟨B, 12, none⟩ = some (.int .i64 (v 11))

theorem Cb.of {w : World} {B : Nat} {n : Int} {v : Nat → Int} (h : w.heap[B]? = some (.cells (bk n v) 74 (0, 0))) : Cb w B n v := by
  unfold Cb
  refine ⟨?_, ?_, ?_, ?_, ?_, ?_, ?_, ?_, ?_, ?_, ?_, ?_, ?_⟩ <;> exact (cell_of_row _ _ _ _ _ _ h).trans rfl

theorem Cb.kept {w w' : World} {B : Nat} {n : Int} {v : Nat → Int} (h : Cb w B n v) (k : Kept [] w w') : Cb w' B n v := by
  unfold Cb at h ⊢
  obtain ⟨h0, h1, h2, h3, h4, h5, h6, h7, h8, h9, h10, h11, h12⟩ := h
  exact ⟨k.cell h0 (by simp), k.cell h1 (by simp), k.cell h2 (by simp), k.cell h3 (by simp), k.cell h4 (by simp), k.cell h5 (by simp), k.cell h6 (by simp), k.cell h7 (by simp), k.cell h8 (by simp), k.cell h9 (by simp), k.cell h10 (by simp), k.cell h11 (by simp), k.cell h12 (by simp)⟩

theorem one_name {w : World} (s : ByteArray) (t : TypeId) : ∀ i, (hi : i < [s].length) → ∃ B, some (⟨w.heap.size, 0, none⟩ : Addr) = some ⟨B, 0, none⟩ ∧ (w.alloc (.cells #[.string s] t)).cell? ⟨B, i, none⟩ = some (.string [s][i]) := by
  intro i hi
  have : i = 0 := by simp at hi; omega
  subst this
  exact ⟨_, rfl, by rw [cell_of_row _ _ _ _ _ _ (heap_alloc_new _ _)]; rfl⟩

theorem wrong_one {c : Int} {k : Nat} {s : ByteArray} : (wrongV c k [s] = 0 ↔ (0 ≤ c ∧ c < (k : Int)) ∧ chk s = 0) ∧ (¬ ((0 ≤ c ∧ c < (k : Int)) ∧ chk s = 0) → wrongV c k [s] = 900) := by
  unfold wrongV
  by_cases h : c < 0 ∨ (k : Int) ≤ c
  · rw [if_pos h]; exact ⟨by omega, fun _ => rfl⟩
  · rw [if_neg h]
    by_cases h2 : chk s = 0
    · rw [if_pos (by simpa using h2)]; exact ⟨by simp [h2]; omega, fun hn => absurd ⟨by omega, h2⟩ hn⟩
    · rw [if_neg (by simpa using h2)]; exact ⟨by simp [h2], fun _ => rfl⟩

section
variable {I : Trc → Prop} {S : List (Nat × Obj)} {w0 w : World} {b g f k L N : Nat} {W V : Nat → Int}

/-- A call that is refused. -/
theorem d_find_bad (h : Db I S w0 w b g f k L N W) (c : Int) (s : ByteArray) (hb : ¬ ((0 ≤ c ∧ c < (k : Int)) ∧ chk s = 0)) :
    Calls Tryd.prog 14 #[.pointer (some ⟨g, 0, none⟩), .int .i64 c, .string s] w fun e w' => e = .returned (.tuple #[.int .i64 0, .int .i64 900]) ∧ Db I S w0 w' b g f k L N W := by
  have HZ : Hid (_) := wrong_one.2 hb
  have H0 : Hid (_) := h.still ((Kept.refl [] w).alloc (.cells #[.string s] 9))
  clear h hb
  go_enter Tryd.func14, Tryd.ntmps14
  go_wp2_with fail
  refine (d_wrong H0.out c [s] _ (by simp) (one_name s 9) _ rfl _).mono ?_
  rintro e w1 ⟨rfl, hk⟩
  rw [HZ.out]
  have H1 : Hid (_) := Db.still H0.out hk
  clear hk H0
  go_wp2_with fail
  go_ret2
  exact ⟨rfl, H1.out⟩

set_option maxRecDepth 100000 in
set_option maxHeartbeats 4000000 in
theorem d_find_go (h : Db I S w0 w b g f k L N W) (c n : Nat) (s : ByteArray) (hs : chk s = 0) (hn : bkt s = (n : Int)) (hc : c < k) (hI : Rd I c f n) (hN : N < 900000) (x z : Int)
    (hx : (fnd (fun j => W (n * 12 + j)) (sp0 s) (sp1 s) = -1 ∧ x = 0 ∧ z = 903) ∨ (∃ i : Nat, i < 4 ∧ fnd (fun j => W (n * 12 + j)) (sp0 s) (sp1 s) = (i : Int) ∧ x = W (n * 12 + i * 3) ∧ z = 0)) :
    Calls Tryd.prog 14 #[.pointer (some ⟨g, 0, none⟩), .int .i64 (c : Int), .string s] w fun e w' => e = .returned (.tuple #[.int .i64 x, .int .i64 z]) ∧ Db I S w0 w' b g f k L (N + 12) W := by
  have HZ : Hid (wrongV (c : Int) k [s] = 0) := wrong_one.1.2 ⟨by omega, hs⟩
  have H0 : Hid (_) := h.still ((Kept.refl [] w).alloc (.cells #[.string s] 9))
  have HX : Hid (_) := hx
  have HR : Hid (bkt s = (n : Int) ∧ Rd I c f n ∧ chk s = 0) := ⟨hn, hI, hs⟩
  clear h hx hI hn hs
  go_enter Tryd.func14, Tryd.ntmps14
  go_wp2_with fail
  refine (d_wrong H0.out (c : Int) [s] _ (by simp) (one_name s 9) _ rfl _).mono ?_
  rintro e w1 ⟨rfl, hk⟩
  rw [HZ.out]
  have H1 : Hid (_) := Db.still H0.out hk
  clear hk H0 HZ
  go_wp2_with fail
  refine (d_bucketOf H1.out c n s HR.out.1 hc HR.out.2.1 hN).mono ?_
  rintro e w2 ⟨rfl, h2⟩
  have H2 : Hid (_) := h2
  clear h2 H1
  obtain ⟨v, hv⟩ : ∃ v : Nat → Int, v = fun j => W (n * 12 + j) := ⟨_, rfl⟩
  have HV : Hid (∀ j, v j = W (n * 12 + j)) := fun j => by rw [hv]
  rw [← hv] at HX ⊢
  clear hv
  unfold bk
  go_wp2_with fail
  have H3 : Hid (Db I S w0 (w2.alloc (.cells (bk (n : Int) v) 74)) b g f k L (N + 12) W ∧ Cb (w2.alloc (.cells (bk (n : Int) v) 74)) w2.heap.size (n : Int) v) := ⟨Db.still H2.out ((Kept.refl [] w2).alloc _), Cb.of (heap_alloc_new _ _)⟩
  unfold bk at H3
  clear H2
  obtain ⟨W3, hW3⟩ : ∃ W3, W3 = w2.alloc (.cells #[.int .i64 (n : Int), .int .i64 (v 0), .int .i64 (v 1), .int .i64 (v 2), .int .i64 (v 3), .int .i64 (v 4), .int .i64 (v 5), .int .i64 (v 6), .int .i64 (v 7), .int .i64 (v 8), .int .i64 (v 9), .int .i64 (v 10), .int .i64 (v 11)] 74) := ⟨_, rfl⟩
  rw [← hW3] at H3 ⊢
  clear hW3
  have HD : Hid (Db I S w0 W3.drew b g f k L (N + 12) W ∧ Cb W3.drew w2.heap.size (n : Int) v) := ⟨Db.still H3.out.1 (Kept.refl [] W3).drew, Cb.kept H3.out.2 (Kept.refl [] W3).drew⟩
  clear H3
  go_region_held3 (fun w' => w'.cell? ⟨w2.heap.size, 0, none⟩ = some (.int .i64 (n : Int)) ∧ w'.cell? ⟨w2.heap.size, 1, none⟩ = some (.int .i64 (v 0)) ∧ w'.cell? ⟨w2.heap.size, 2, none⟩ = some (.int .i64 (v 1)) ∧ w'.cell? ⟨w2.heap.size, 3, none⟩ = some (.int .i64 (v 2)) ∧ w'.cell? ⟨w2.heap.size, 4, none⟩ = some (.int .i64 (v 3)) ∧ w'.cell? ⟨w2.heap.size, 5, none⟩ = some (.int .i64 (v 4)) ∧ w'.cell? ⟨w2.heap.size, 6, none⟩ = some (.int .i64 (v 5)) ∧ w'.cell? ⟨w2.heap.size, 7, none⟩ = some (.int .i64 (v 6)) ∧ w'.cell? ⟨w2.heap.size, 8, none⟩ = some (.int .i64 (v 7)) ∧ w'.cell? ⟨w2.heap.size, 9, none⟩ = some (.int .i64 (v 8)) ∧ w'.cell? ⟨w2.heap.size, 10, none⟩ = some (.int .i64 (v 9)) ∧ w'.cell? ⟨w2.heap.size, 11, none⟩ = some (.int .i64 (v 10)) ∧ w'.cell? ⟨w2.heap.size, 12, none⟩ = some (.int .i64 (v 11))) (first | exact HD.out.2 | exact z4 | exact z5 | go_keep)
    (first
      | (go_at_call 32; refine (d_spell s _ HR.out.2.2).mono ?_; rintro e w4 ⟨rfl, k4⟩; have z4 := HD.out.2.kept k4)
      | (go_at_call 31; refine (b_find (n : Int) v (sp0 s) (sp1 s) _).mono ?_; rintro e w5 ⟨rfl, k5⟩; have z5 := Cb.kept z4 k5))
  have HD5 : Hid (Db I S w0 w5 b g f k L (N + 12) W) := Db.still HD.out.1 (k4.trans k5 (by simp))
  have HZ5 : Hid (Cb w5 w2.heap.size (n : Int) v) := z5
  clear z4 z5 k4 k5 HD
  rcases HX.out with ⟨hF, rfl, rfl⟩ | ⟨i, hi, hF, rfl, rfl⟩
  · rw [hF]
    clear hF HX
    go_wp2_with fail
    go_ret2
    exact ⟨rfl, HD5.out⟩
  · rw [hF]
    clear hF HX
    have hz := HZ5.out
    obtain ⟨h0, h1, h2, h3, h4, h5, h6, h7, h8, h9, h10, h11, h12⟩ := hz
    rcases (show i = 0 ∨ i = 1 ∨ i = 2 ∨ i = 3 by omega) with rfl | rfl | rfl | rfl
    all_goals
      go_wp2_with fail
      go_ret2
      exact ⟨by simp [HV.out], HD5.out⟩

/-! ### Remove -/

theorem d_remove_bad (h : Db I S w0 w b g f k L N W) (c : Int) (s : ByteArray) (hb : ¬ ((0 ≤ c ∧ c < (k : Int)) ∧ chk s = 0)) :
    Calls Tryd.prog 12 #[.pointer (some ⟨g, 0, none⟩), .int .i64 c, .string s] w fun e w' => e = .returned (.int .i64 900) ∧ Db I S w0 w' b g f k L N W := by
  have HZ : Hid (_) := wrong_one.2 hb
  have H0 : Hid (_) := h.still ((Kept.refl [] w).alloc (.cells #[.string s] 9))
  clear h hb
  go_enter Tryd.func12, Tryd.ntmps12
  go_wp2_with fail
  refine (d_wrong H0.out c [s] _ (by simp) (one_name s 9) _ rfl _).mono ?_
  rintro e w1 ⟨rfl, hk⟩
  rw [HZ.out]
  have H1 : Hid (_) := Db.still H0.out hk
  clear hk H0
  go_wp2_with fail
  go_ret
  exact ⟨rfl, H1.out⟩

theorem d_insert_bad (h : Db I S w0 w b g f k L N W) (c : Int) (s : ByteArray) (num : Int) (hb : ¬ ((0 ≤ c ∧ c < (k : Int)) ∧ chk s = 0)) :
    Calls Tryd.prog 10 #[.pointer (some ⟨g, 0, none⟩), .int .i64 c, .string s, .int .i64 num] w fun e w' => e = .returned (.int .i64 900) ∧ Db I S w0 w' b g f k L N W := by
  have HZ : Hid (_) := wrong_one.2 hb
  have H0 : Hid (_) := h.still ((Kept.refl [] w).alloc (.cells #[.string s] 9))
  clear h hb
  go_enter Tryd.func10, Tryd.ntmps10
  go_wp2_with fail
  refine (d_wrong H0.out c [s] _ (by simp) (one_name s 9) _ rfl _).mono ?_
  rintro e w1 ⟨rfl, hk⟩
  rw [HZ.out]
  have H1 : Hid (_) := Db.still H0.out hk
  clear hk H0
  go_wp2_with fail
  go_ret
  exact ⟨rfl, H1.out⟩

theorem d_insert_num (h : Db I S w0 w b g f k L N W) (c : Nat) (s : ByteArray) (num : Int) (hc : c < k) (hs : chk s = 0) (hnum : num < 1 ∨ 2147483647 < num) :
    Calls Tryd.prog 10 #[.pointer (some ⟨g, 0, none⟩), .int .i64 (c : Int), .string s, .int .i64 num] w fun e w' => e = .returned (.int .i64 900) ∧ Db I S w0 w' b g f k L N W := by
  have HZ : Hid (wrongV (c : Int) k [s] = 0) := wrong_one.1.2 ⟨by omega, hs⟩
  have H0 : Hid (_) := h.still ((Kept.refl [] w).alloc (.cells #[.string s] 9))
  clear h hs
  by_cases h1 : num < 1
  · have d1 : decide (num < 1) = true := by simpa using h1
    clear hnum
    go_enter Tryd.func10, Tryd.ntmps10
    go_wp2_with fail
    refine (d_wrong H0.out (c : Int) [s] _ (by simp) (one_name s 9) _ rfl _).mono ?_
    rintro e w1 ⟨rfl, hk⟩
    rw [HZ.out]
    have H1 : Hid (_) := Db.still H0.out hk
    clear hk H0
    go_wp2_with fail
    go_ret
    exact ⟨rfl, H1.out⟩
  · have d1 : decide (num < 1) = false := by simpa using h1
    have h2 : 2147483647 < num := by omega
    have d2 : decide (2147483647 < num) = true := by simpa using h2
    clear hnum
    go_enter Tryd.func10, Tryd.ntmps10
    go_wp2_with fail
    refine (d_wrong H0.out (c : Int) [s] _ (by simp) (one_name s 9) _ rfl _).mono ?_
    rintro e w1 ⟨rfl, hk⟩
    rw [HZ.out]
    have H1 : Hid (_) := Db.still H0.out hk
    clear hk H0
    go_wp2_with fail
    go_ret
    exact ⟨rfl, H1.out⟩

/-- What a call that writes makes of the words. -/
def RemW (W : Nat → Int) (n : Nat) (s : ByteArray) (z : Int) (W' : Nat → Int) : Prop :=
  (fnd (fun j => W (n * 12 + j)) (sp0 s) (sp1 s) = -1 ∧ z = 903 ∧ W' = W) ∨ (∃ i : Nat, i < 4 ∧ fnd (fun j => W (n * 12 + j)) (sp0 s) (sp1 s) = (i : Int) ∧ z = 0 ∧ W' = upd3 W (n * 12 + i * 3) 0 0 0)

set_option maxRecDepth 100000 in
set_option maxHeartbeats 4000000 in
theorem d_remove_go (h : Db I S w0 w b g f k L N W) (c n : Nat) (s : ByteArray) (hs : chk s = 0) (hn : bkt s = (n : Int)) (hc : c < k) (hI : Rd I c f n) (hJ : Wr I c f n) (hN : N < 800000) (z : Int) (W' : Nat → Int) (hx : RemW W n s z W') :
    Calls Tryd.prog 12 #[.pointer (some ⟨g, 0, none⟩), .int .i64 (c : Int), .string s] w fun e w' => e = .returned (.int .i64 z) ∧ Db I S w0 w' b g f k L (N + 15) W' := by
  have HZ : Hid (wrongV (c : Int) k [s] = 0) := wrong_one.1.2 ⟨by omega, hs⟩
  have HS : Hid ((g, box b f) ∈ S ∧ Wr I c f n) := ⟨h.mem, hJ⟩
  have H0 : Hid (_) := h.still ((Kept.refl [] w).alloc (.cells #[.string s] 9))
  have HX : Hid (_) := hx
  have hn8 : n < 8 := by have := bkt_range s; omega
  have HR : Hid (bkt s = (n : Int) ∧ Rd I c f n ∧ chk s = 0) := ⟨hn, hI, hs⟩
  clear h hx hI hn hs hJ
  go_enter Tryd.func12, Tryd.ntmps12
  go_wp2_with fail
  refine (d_wrong H0.out (c : Int) [s] _ (by simp) (one_name s 9) _ rfl _).mono ?_
  rintro e w1 ⟨rfl, hk⟩
  rw [HZ.out]
  have H1 : Hid (_) := Db.still H0.out hk
  clear hk H0 HZ
  go_wp2_with fail
  refine (d_bucketOf H1.out c n s HR.out.1 hc HR.out.2.1 (by omega)).mono ?_
  rintro e w2 ⟨rfl, h2⟩
  have H2 : Hid (_) := h2
  clear h2 H1
  obtain ⟨v, hv⟩ : ∃ v : Nat → Int, v = fun j => W (n * 12 + j) := ⟨_, rfl⟩
  rw [← hv] at HX ⊢
  clear hv
  have H3 : Hid (_) := Db.push H2.out (.cells (bk (n : Int) v) 74 (0, 0))
  clear H2
  unfold bk at H3 ⊢
  go_wp2_with fail
  obtain ⟨W3, hW3⟩ : ∃ W3, W3 = w2.alloc (.cells #[.int .i64 (n : Int), .int .i64 (v 0), .int .i64 (v 1), .int .i64 (v 2), .int .i64 (v 3), .int .i64 (v 4), .int .i64 (v 5), .int .i64 (v 6), .int .i64 (v 7), .int .i64 (v 8), .int .i64 (v 9), .int .i64 (v 10), .int .i64 (v 11)] 74 (0, 0)) := ⟨_, rfl⟩
  rw [← hW3] at H3
  have HW : Hid (_) := hW3.symm
  rw [HW.out]
  clear hW3 HW
  have HD : Hid (_) := Db.still H3.out (Kept.refl [] W3).drew
  have HC : Hid (Cb W3.drew w2.heap.size (n : Int) v) := Cb.of (HD.out.at_ (x := (w2.heap.size, .cells (bk (n : Int) v) 74 (0, 0))) (List.mem_cons_self ..))
  clear H3
  go_region_held3 (fun w' => w'.cell? ⟨w2.heap.size, 0, none⟩ = some (.int .i64 (n : Int)) ∧ w'.cell? ⟨w2.heap.size, 1, none⟩ = some (.int .i64 (v 0)) ∧ w'.cell? ⟨w2.heap.size, 2, none⟩ = some (.int .i64 (v 1)) ∧ w'.cell? ⟨w2.heap.size, 3, none⟩ = some (.int .i64 (v 2)) ∧ w'.cell? ⟨w2.heap.size, 4, none⟩ = some (.int .i64 (v 3)) ∧ w'.cell? ⟨w2.heap.size, 5, none⟩ = some (.int .i64 (v 4)) ∧ w'.cell? ⟨w2.heap.size, 6, none⟩ = some (.int .i64 (v 5)) ∧ w'.cell? ⟨w2.heap.size, 7, none⟩ = some (.int .i64 (v 6)) ∧ w'.cell? ⟨w2.heap.size, 8, none⟩ = some (.int .i64 (v 7)) ∧ w'.cell? ⟨w2.heap.size, 9, none⟩ = some (.int .i64 (v 8)) ∧ w'.cell? ⟨w2.heap.size, 10, none⟩ = some (.int .i64 (v 9)) ∧ w'.cell? ⟨w2.heap.size, 11, none⟩ = some (.int .i64 (v 10)) ∧ w'.cell? ⟨w2.heap.size, 12, none⟩ = some (.int .i64 (v 11))) (first | exact HC.out | exact z4 | exact z5 | go_keep)
    (first
      | (go_at_call 32; refine (d_spell s _ HR.out.2.2).mono ?_; rintro e w4 ⟨rfl, k4⟩; have z4 := HC.out.kept k4)
      | (go_at_call 31; refine (b_find (n : Int) v (sp0 s) (sp1 s) _).mono ?_; rintro e w5 ⟨rfl, k5⟩; have z5 := Cb.kept z4 k5))
  have HD5 : Hid (_) := Db.still HD.out (k4.trans k5 (by simp))
  have HZ5 : Hid (Cb w5 w2.heap.size (n : Int) v) := z5
  clear z4 z5 k4 k5 HD HC
  rcases HX.out with ⟨hF, rfl, rfl⟩ | ⟨i, hi, hF, rfl, rfl⟩
  · rw [hF]
    clear hF HX
    go_wp2_with fail
    go_ret
    exact ⟨rfl, (HD5.out.drop HS.out.1).mono (by omega)⟩
  · rw [hF]
    clear hF HX
    have hz := HZ5.out
    obtain ⟨h0, h1, h2, h3, h4, h5, h6, h7, h8, h9, h10, h11, h12⟩ := hz
    have ni : ((i : Int) == -1) = false := by simp
    have ni2 : ¬ ((i : Int) = -1) := by omega
    go_wp2_with fail
    refine (d_put HD5.out c n i v 0 0 0 _ rfl hc hn8 hi HS.out.2 (by omega)).mono ?_
    rintro e w6 ⟨rfl, h6⟩
    have H6 : Hid (_) := (h6.drop HS.out.1).mono (show _ ≤ N + 15 by omega)
    clear h6 HD5
    go_wp2_with fail
    go_ret
    exact ⟨rfl, H6.out⟩

/-! ### Insert -/

def InsW (W : Nat → Int) (n : Nat) (s : ByteArray) (num z : Int) (W' : Nat → Int) : Prop :=
  (∃ i : Nat, i < 4 ∧ fnd (fun j => W (n * 12 + j)) (sp0 s) (sp1 s) = (i : Int) ∧ z = 901 ∧ W' = W) ∨ (fnd (fun j => W (n * 12 + j)) (sp0 s) (sp1 s) = -1 ∧ fnd (fun j => W (n * 12 + j)) 0 0 = -1 ∧ z = 902 ∧ W' = W) ∨ (fnd (fun j => W (n * 12 + j)) (sp0 s) (sp1 s) = -1 ∧ ∃ i : Nat, i < 4 ∧ fnd (fun j => W (n * 12 + j)) 0 0 = (i : Int) ∧ z = 0 ∧ W' = upd3 W (n * 12 + i * 3) num (sp0 s) (sp1 s))

set_option maxRecDepth 100000 in
set_option maxHeartbeats 4000000 in
theorem d_insert_go (h : Db I S w0 w b g f k L N W) (c n : Nat) (s : ByteArray) (num : Int) (hs : chk s = 0) (hn : bkt s = (n : Int)) (hc : c < k) (hn1 : 1 ≤ num) (hn2 : num ≤ 2147483647) (hI : Rd I c f n) (hJ : Wr I c f n) (hN : N < 800000) (z : Int) (W' : Nat → Int) (hx : InsW W n s num z W') :
    Calls Tryd.prog 10 #[.pointer (some ⟨g, 0, none⟩), .int .i64 (c : Int), .string s, .int .i64 num] w fun e w' => e = .returned (.int .i64 z) ∧ Db I S w0 w' b g f k L (N + 15) W' := by
  have HZ : Hid (wrongV (c : Int) k [s] = 0) := wrong_one.1.2 ⟨by omega, hs⟩
  have HS : Hid ((g, box b f) ∈ S ∧ Wr I c f n) := ⟨h.mem, hJ⟩
  have H0 : Hid (_) := h.still ((Kept.refl [] w).alloc (.cells #[.string s] 9))
  have HX : Hid (_) := hx
  have hn8 : n < 8 := by have := bkt_range s; omega
  have HR : Hid (bkt s = (n : Int) ∧ Rd I c f n ∧ chk s = 0) := ⟨hn, hI, hs⟩
  clear h hx hI hn hs hJ
  have d1 : decide (num < 1) = false := by simp; omega
  have i1 : ¬ num < 1 := by omega
  have d2 : decide (2147483647 < num) = false := by simp; omega
  have i2 : ¬ 2147483647 < num := by omega
  go_enter Tryd.func10, Tryd.ntmps10
  go_wp2_with fail
  refine (d_wrong H0.out (c : Int) [s] _ (by simp) (one_name s 9) _ rfl _).mono ?_
  rintro e w1 ⟨rfl, hk⟩
  rw [HZ.out]
  have H1 : Hid (_) := Db.still H0.out hk
  clear hk H0 HZ
  go_wp2_with fail
  refine (d_bucketOf H1.out c n s HR.out.1 hc HR.out.2.1 (by omega)).mono ?_
  rintro e w2 ⟨rfl, h2⟩
  have H2 : Hid (_) := h2
  clear h2 H1
  obtain ⟨v, hv⟩ : ∃ v : Nat → Int, v = fun j => W (n * 12 + j) := ⟨_, rfl⟩
  rw [← hv] at HX ⊢
  clear hv
  have H3 : Hid (_) := Db.push H2.out (.cells (bk (n : Int) v) 74 (0, 0))
  clear H2
  unfold bk at H3 ⊢
  go_wp2_with fail
  obtain ⟨W3, hW3⟩ : ∃ W3, W3 = w2.alloc (.cells #[.int .i64 (n : Int), .int .i64 (v 0), .int .i64 (v 1), .int .i64 (v 2), .int .i64 (v 3), .int .i64 (v 4), .int .i64 (v 5), .int .i64 (v 6), .int .i64 (v 7), .int .i64 (v 8), .int .i64 (v 9), .int .i64 (v 10), .int .i64 (v 11)] 74 (0, 0)) := ⟨_, rfl⟩
  rw [← hW3] at H3
  have HW : Hid (_) := hW3.symm
  rw [HW.out]
  clear hW3 HW
  have HD : Hid (_) := Db.still H3.out (Kept.refl [] W3).drew
  have HC : Hid (Cb W3.drew w2.heap.size (n : Int) v) := Cb.of (HD.out.at_ (x := (w2.heap.size, .cells (bk (n : Int) v) 74 (0, 0))) (List.mem_cons_self ..))
  clear H3
  have hF1 : fnd v (sp0 s) (sp1 s) = -1 ∨ ∃ i : Nat, i < 4 ∧ fnd v (sp0 s) (sp1 s) = (i : Int) := by
    rcases fnd_cases v (sp0 s) (sp1 s) with h | ⟨i, h⟩
    · exact Or.inl h.1
    · exact Or.inr ⟨i, h.1, h.2.1⟩
  rcases hF1 with hF | ⟨i, hi, hF⟩
  · have e1 : (fnd v (sp0 s) (sp1 s) != -1) = false := by rw [hF]; rfl
    have HF : Hid (_) := hF
    clear hF
    go_region_held3 (fun w' => w'.cell? ⟨w2.heap.size, 0, none⟩ = some (.int .i64 (n : Int)) ∧ w'.cell? ⟨w2.heap.size, 1, none⟩ = some (.int .i64 (v 0)) ∧ w'.cell? ⟨w2.heap.size, 2, none⟩ = some (.int .i64 (v 1)) ∧ w'.cell? ⟨w2.heap.size, 3, none⟩ = some (.int .i64 (v 2)) ∧ w'.cell? ⟨w2.heap.size, 4, none⟩ = some (.int .i64 (v 3)) ∧ w'.cell? ⟨w2.heap.size, 5, none⟩ = some (.int .i64 (v 4)) ∧ w'.cell? ⟨w2.heap.size, 6, none⟩ = some (.int .i64 (v 5)) ∧ w'.cell? ⟨w2.heap.size, 7, none⟩ = some (.int .i64 (v 6)) ∧ w'.cell? ⟨w2.heap.size, 8, none⟩ = some (.int .i64 (v 7)) ∧ w'.cell? ⟨w2.heap.size, 9, none⟩ = some (.int .i64 (v 8)) ∧ w'.cell? ⟨w2.heap.size, 10, none⟩ = some (.int .i64 (v 9)) ∧ w'.cell? ⟨w2.heap.size, 11, none⟩ = some (.int .i64 (v 10)) ∧ w'.cell? ⟨w2.heap.size, 12, none⟩ = some (.int .i64 (v 11))) (first | exact HC.out | exact z4 | exact z5 | go_keep)
      (first
        | (go_at_call 32; refine (d_spell s _ HR.out.2.2).mono ?_; rintro e w4 ⟨rfl, k4⟩; have z4 := HC.out.kept k4)
        | (go_at_call 31; refine (b_find (n : Int) v (sp0 s) (sp1 s) _).mono ?_; rintro e w5 ⟨rfl, k5⟩; have z5 := Cb.kept z4 k5))
    have HD5 : Hid (_) := Db.still HD.out (k4.trans k5 (by simp))
    have HZ5 : Hid (Cb w5 w2.heap.size (n : Int) v) := z5
    clear z4 z5 k4 k5 HD HC
    have hz := HZ5.out
    obtain ⟨h0, h1, h2, h3, h4, h5, h6, h7, h8, h9, h10, h11, h12⟩ := hz
    go_wp2_with fail
    refine (b_find (n : Int) v 0 0 _).mono ?_
    rintro e w6 ⟨rfl, k6⟩
    have HD6 : Hid (_) := Db.still HD5.out k6
    clear h0 h1 h2 h3 h4 h5 h6 h7 h8 h9 h10 h11 h12
    rcases HX.out with ⟨i, hi, hX, -⟩ | ⟨-, hX, rfl, rfl⟩ | ⟨-, i, hi, hX, rfl, rfl⟩
    · exfalso
      rw [HF.out] at hX
      omega
    · rw [hX]
      clear hX HX HD5 k6 HZ5
      go_wp2_with fail
      go_ret
      exact ⟨rfl, (HD6.out.drop HS.out.1).mono (by omega)⟩
    · rw [hX]
      have HZ6 : Hid (Cb w6 w2.heap.size (n : Int) v) := Cb.kept HZ5.out k6
      clear hX HX HD5 k6 HZ5
      have ni : ((i : Int) == -1) = false := by simp
      have ni2 : ¬ ((i : Int) = -1) := by omega
      go_wp2_with fail
      have HD7 : Hid (_) := Db.still HD6.out (Kept.refl [] w6).drew
      have HC7 : Hid (Cb w6.drew w2.heap.size (n : Int) v) := Cb.kept HZ6.out (Kept.refl [] w6).drew
      clear HD6 HZ6
      go_region_held3 (fun w' => w'.cell? ⟨w2.heap.size, 0, none⟩ = some (.int .i64 (n : Int)) ∧ w'.cell? ⟨w2.heap.size, 1, none⟩ = some (.int .i64 (v 0)) ∧ w'.cell? ⟨w2.heap.size, 2, none⟩ = some (.int .i64 (v 1)) ∧ w'.cell? ⟨w2.heap.size, 3, none⟩ = some (.int .i64 (v 2)) ∧ w'.cell? ⟨w2.heap.size, 4, none⟩ = some (.int .i64 (v 3)) ∧ w'.cell? ⟨w2.heap.size, 5, none⟩ = some (.int .i64 (v 4)) ∧ w'.cell? ⟨w2.heap.size, 6, none⟩ = some (.int .i64 (v 5)) ∧ w'.cell? ⟨w2.heap.size, 7, none⟩ = some (.int .i64 (v 6)) ∧ w'.cell? ⟨w2.heap.size, 8, none⟩ = some (.int .i64 (v 7)) ∧ w'.cell? ⟨w2.heap.size, 9, none⟩ = some (.int .i64 (v 8)) ∧ w'.cell? ⟨w2.heap.size, 10, none⟩ = some (.int .i64 (v 9)) ∧ w'.cell? ⟨w2.heap.size, 11, none⟩ = some (.int .i64 (v 10)) ∧ w'.cell? ⟨w2.heap.size, 12, none⟩ = some (.int .i64 (v 11))) (first | exact HC7.out | exact z8 | exact z9 | go_keep)
        (first
          | (go_at_call 32; refine (d_spell s _ HR.out.2.2).mono ?_; rintro e w8 ⟨rfl, k8⟩; have z8 : Cb w8 w2.heap.size (n : Int) v := Cb.kept HC7.out k8)
          | (go_at_call 33; refine (d_put (Db.still HD7.out k8) c n i v num (sp0 s) (sp1 s) _ rfl hc hn8 hi HS.out.2 (by omega)).mono ?_; rintro e w9 ⟨rfl, h9⟩; have z9 : Cb w9 w2.heap.size (n : Int) v := Cb.of (h9.at_ (x := (w2.heap.size, .cells (bk (n : Int) v) 74 (0, 0))) (List.mem_cons_self ..))))
      have H9 : Hid (_) := (h9.drop HS.out.1).mono (show _ ≤ N + 15 by omega)
      clear h9 z8 z9 k8 HD7 HC7
      go_wp2_with fail
      go_ret
      exact ⟨rfl, H9.out⟩
  · have e1 : (fnd v (sp0 s) (sp1 s) != -1) = true := by rw [hF]; simp
    have HF : Hid (_) := hF
    clear hF
    go_region_held3 (fun w' => w'.cell? ⟨w2.heap.size, 0, none⟩ = some (.int .i64 (n : Int)) ∧ w'.cell? ⟨w2.heap.size, 1, none⟩ = some (.int .i64 (v 0)) ∧ w'.cell? ⟨w2.heap.size, 2, none⟩ = some (.int .i64 (v 1)) ∧ w'.cell? ⟨w2.heap.size, 3, none⟩ = some (.int .i64 (v 2)) ∧ w'.cell? ⟨w2.heap.size, 4, none⟩ = some (.int .i64 (v 3)) ∧ w'.cell? ⟨w2.heap.size, 5, none⟩ = some (.int .i64 (v 4)) ∧ w'.cell? ⟨w2.heap.size, 6, none⟩ = some (.int .i64 (v 5)) ∧ w'.cell? ⟨w2.heap.size, 7, none⟩ = some (.int .i64 (v 6)) ∧ w'.cell? ⟨w2.heap.size, 8, none⟩ = some (.int .i64 (v 7)) ∧ w'.cell? ⟨w2.heap.size, 9, none⟩ = some (.int .i64 (v 8)) ∧ w'.cell? ⟨w2.heap.size, 10, none⟩ = some (.int .i64 (v 9)) ∧ w'.cell? ⟨w2.heap.size, 11, none⟩ = some (.int .i64 (v 10)) ∧ w'.cell? ⟨w2.heap.size, 12, none⟩ = some (.int .i64 (v 11))) (first | exact HC.out | exact z4 | exact z5 | go_keep)
      (first
        | (go_at_call 32; refine (d_spell s _ HR.out.2.2).mono ?_; rintro e w4 ⟨rfl, k4⟩; have z4 := HC.out.kept k4)
        | (go_at_call 31; refine (b_find (n : Int) v (sp0 s) (sp1 s) _).mono ?_; rintro e w5 ⟨rfl, k5⟩; have z5 := Cb.kept z4 k5))
    have HD5 : Hid (_) := Db.still HD.out (k4.trans k5 (by simp))
    clear z4 z5 k4 k5 HD HC
    rcases HX.out with ⟨i', hi', hX, rfl, rfl⟩ | ⟨hX, -⟩ | ⟨hX, -⟩
    · clear hX HX
      go_wp2_with fail
      go_ret
      exact ⟨rfl, (HD5.out.drop HS.out.1).mono (by omega)⟩
    · exfalso
      rw [HF.out] at hX
      omega
    · exfalso
      rw [HF.out] at hX
      omega

end
end Go.Proofs.YtnbbcbjfejdceaaDoor
