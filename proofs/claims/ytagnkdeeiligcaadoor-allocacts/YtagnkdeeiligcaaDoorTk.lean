/-
  What a share's calls do to the arena: clear, wipe, take, drop.
-/
import Derived.Test.YtagnkdeeiligcaaDoorRd
namespace Go.Proofs.YtagnkdeeiligcaaDoor
open Go.RowKit

theorem wordAt_set (l : List Int) (k j : Nat) (v : Int) (hk : k < l.length) : wordAt (l.set k v) j = if j = k then v else wordAt l j := by
  unfold wordAt
  simp only [List.getD, List.getElem?_set]
  by_cases h : j = k
  · subst h; simp [hk]
  · rw [if_neg (Ne.symm h), if_neg h]

set_option maxHeartbeats 1000000 in
theorem clear_any {w : World} {p : Ap} {A : Ar} {b c a n q : Nat} (h : In w p A b c a n q) (hq : 100 ≤ q) :
    Calls Tryd.prog 25 #[shv b c a n] w fun e w' => e = .returned (.tuple #[]) ∧ ∃ p' A', Run c a (a + n) 100 w p A w' p' A' ∧ ∀ j, wordAt A'.words j = if a ≤ j ∧ j < heap a n then 0 else wordAt A.words j := by
  have hK := box_kept w b c a n
  have HI := h.kept hK
  have hB := Bx.new h.is b c a n
  have HX : Hid (_ ∧ _ ∧ _ ∧ _) := ⟨hK, HI, hB, h⟩
  have hf := h.fits
  have hg := gro_le hf.hi
  have hg2 := gro_lt hf.lo
  have h3 := hf.at_
  have hh : heap a n = a + 1 + 2 * gro n := rfl
  have HH : Hid (_) := hh
  have hh2 : a < heap a n := by omega
  have hh3 : heap a n < a + n := by omega
  have hh4 : heap a n ≤ a + 61 := by omega
  clear hK HI hB hh h hg hg2
  go_enter Tryd.func25, Tryd.ntmps25
  go_wp2_with fail
  go_loopw [2] (fun i wr => ∃ k : Nat, i = .int .i64 ((a + k : Nat) : Int) ∧ a + k ≤ heap a n ∧ Hid (∃ p' A', Run c a (a + n) k w p A wr p' A' ∧ Bx w.heap.size b c a n wr p' ∧ ∀ j, wordAt A'.words j = if a ≤ j ∧ j < a + k then 0 else wordAt A.words j)) (fun i _ => (heap a n - intOf i).toNat)
  case atStart => exact ⟨0, by simp, by omega, p, A, (Run.refl HX.out.2.2.2.is).post HX.out.1, HX.out.2.2.1, fun j => by rw [if_neg (by omega)]⟩
  case round =>
    obtain ⟨k, rfl, hk, HK⟩ := hrel
    obtain ⟨p1, A1, hr1, hb1, hj1⟩ := HK.out
    obtain ⟨x0, x1, x2, x3⟩ := hb1.1
    have HR : Hid (_ ∧ _ ∧ _) := ⟨hr1, hb1, hj1⟩
    clear hr1 hb1 hj1 HK
    by_cases hlt : a + k < heap a n
    · have i0 : ((a + k : Nat) : Int) < ((heap a n : Nat) : Int) := by omega
      go_wp2_with fail
      refine (heap_any _ b c a n hf).mono ?_
      rintro e w2 ⟨rfl, hk2⟩
      obtain ⟨hr1, hb1, hj1⟩ := HR.out
      have hb2 := hb1.kept hk2
      have hr2 := hr1.post hk2
      obtain ⟨y0, y1, y2, y3⟩ := hb2.1
      have HR2 : Hid (_ ∧ _ ∧ _) := ⟨hr2, hb2, hj1⟩
      clear hr1 hb1 hj1 hb2 hr2 hk2 x0 x1 x2 x3 HR
      go_wp2_with fail
      refine (put_any (HX.out.2.2.2.next HR2.out.1 1 (by omega)) (by omega) (a + k) 0 (by omega) (by omega)).mono ?_
      rintro e w3 ⟨rfl, p3, A3, hr3, hw3⟩
      obtain ⟨hr2, hb2, hj1⟩ := HR2.out
      have HN : Hid (_) := show ∃ p' A', Run c a (a + n) (k + 1) w p A w3 p' A' ∧ Bx w.heap.size b c a n w3 p' ∧ ∀ j, wordAt A'.words j = if a ≤ j ∧ j < a + (k + 1) then 0 else wordAt A.words j from
        ⟨p3, A3, hr2.trans hr3, hb2.run hr3, fun j => by
          have hl : a + k < A1.words.length := by
            have h1 := hr2.tr.words
            have h2 := HX.out.2.2.2.within
            rw [h1]; omega
          rw [hw3, wordAt_set _ _ _ _ hl, hj1 j]
          by_cases e1 : j = a + k
          · rw [if_pos e1, if_pos (by omega)]
          · rw [if_neg e1]
            by_cases e2 : a ≤ j ∧ j < a + k
            · rw [if_pos e2, if_pos (by omega)]
            · rw [if_neg e2, if_neg (by omega)]⟩
      clear hr2 hb2 hj1 hr3 hw3 HR2 y0 y1 y2 y3
      go_wp2
      go_roundw
      case rel => exact ⟨k + 1, by go_num, by omega, HN.out⟩
      case measure => simp [intOf]; omega
    · have i0 : ¬ ((a + k : Nat) : Int) < ((heap a n : Nat) : Int) := by omega
      go_wp2_with fail
      refine (heap_any _ b c a n hf).mono ?_
      rintro e w2 ⟨rfl, hk2⟩
      obtain ⟨hr1, hb1, hj1⟩ := HR.out
      have HN : Hid (_) := show ∃ p' A', Run c a (a + n) 100 w p A w2 p' A' ∧ ∀ j, wordAt A'.words j = if a ≤ j ∧ j < heap a n then 0 else wordAt A.words j from
        ⟨p1, A1, (hr1.post hk2).mono (by omega), fun j => by rw [hj1, show a + k = heap a n from by omega]⟩
      clear hr1 hb1 hj1 hk2 HR x0 x1 x2 x3
      go_wp2
      go_end0
      exact ⟨rfl, HN.out⟩

set_option maxHeartbeats 1000000 in
theorem wipe_any {w : World} {p : Ap} {A : Ar} {b c a n q : Nat} (h : In w p A b c a n q) (hq : 32 ≤ q) (t z : Nat) (hz : z ≤ 32) (h1 : a ≤ t) (h2 : t + z ≤ a + n) :
    Calls Tryd.prog 42 #[shv b c a n, .int .i64 (t : Int), .int .i64 (z : Int)] w fun e w' => e = .returned (.tuple #[]) ∧ ∃ p' A', Run c a (a + n) 32 w p A w' p' A' ∧ ∀ j, wordAt A'.words j = if t ≤ j ∧ j < t + z then 0 else wordAt A.words j := by
  have hK := box_kept w b c a n
  have HI := h.kept hK
  have hB := Bx.new h.is b c a n
  have HX : Hid (_ ∧ _ ∧ _ ∧ _) := ⟨hK, HI, hB, h⟩
  have hf := h.fits
  have h3 := hf.at_
  have h4 := hf.hi
  clear hK HI hB h
  go_enter Tryd.func42, Tryd.ntmps42
  go_wp2_with fail
  go_loopw [8] (fun i wr => ∃ k : Nat, i = .int .i64 (k : Int) ∧ k ≤ z ∧ Hid (∃ p' A', Run c a (a + n) k w p A wr p' A' ∧ Bx w.heap.size b c a n wr p' ∧ ∀ j, wordAt A'.words j = if t ≤ j ∧ j < t + k then 0 else wordAt A.words j)) (fun i _ => (z - intOf i).toNat)
  case atStart => exact ⟨0, by simp, by omega, p, A, (Run.refl HX.out.2.2.2.is).post HX.out.1, HX.out.2.2.1, fun j => by rw [if_neg (by omega)]⟩
  case round =>
    obtain ⟨k, rfl, hk, HK⟩ := hrel
    obtain ⟨p1, A1, hr1, hb1, hj1⟩ := HK.out
    obtain ⟨x0, x1, x2, x3⟩ := hb1.1
    have HR : Hid (_ ∧ _ ∧ _) := ⟨hr1, hb1, hj1⟩
    clear hr1 hb1 hj1 HK
    by_cases hlt : k < z
    · have i0 : (k : Int) < (z : Int) := by omega
      go_wp2_with fail
      refine (put_any (HX.out.2.2.2.next HR.out.1 1 (by omega)) (by omega) (t + k) 0 (by omega) (by omega)).mono ?_
      rintro e w3 ⟨rfl, p3, A3, hr3, hw3⟩
      obtain ⟨hr2, hb2, hj1⟩ := HR.out
      have HN : Hid (_) := show ∃ p' A', Run c a (a + n) (k + 1) w p A w3 p' A' ∧ Bx w.heap.size b c a n w3 p' ∧ ∀ j, wordAt A'.words j = if t ≤ j ∧ j < t + (k + 1) then 0 else wordAt A.words j from
        ⟨p3, A3, hr2.trans hr3, hb2.run hr3, fun j => by
          have hl : t + k < A1.words.length := by
            have h1 := hr2.tr.words
            have h2 := HX.out.2.2.2.within
            rw [h1]; omega
          rw [hw3, wordAt_set _ _ _ _ hl, hj1 j]
          by_cases e1 : j = t + k
          · rw [if_pos e1, if_pos (by omega)]
          · rw [if_neg e1]
            by_cases e2 : t ≤ j ∧ j < t + k
            · rw [if_pos e2, if_pos (by omega)]
            · rw [if_neg e2, if_neg (by omega)]⟩
      clear hr2 hb2 hj1 hr3 hw3 HR x0 x1 x2 x3
      go_wp2
      go_roundw
      case rel => exact ⟨k + 1, by go_num, by omega, HN.out⟩
      case measure => simp [intOf]; omega
    · have i0 : ¬ (k : Int) < (z : Int) := by omega
      obtain ⟨hr1, hb1, hj1⟩ := HR.out
      have HN : Hid (_) := show ∃ p' A', Run c a (a + n) 32 w p A wr p' A' ∧ ∀ j, wordAt A'.words j = if t ≤ j ∧ j < t + z then 0 else wordAt A.words j from
        ⟨p1, A1, hr1.mono (by omega), fun j => by rw [hj1, show k = z from by omega]⟩
      clear hr1 hb1 hj1 HR x0 x1 x2 x3
      go_wp2
      go_end0
      exact ⟨rfl, HN.out⟩


theorem mod32 {x : Nat} (h : x < 4294967296) : (x : Int) % 4294967296 = (x : Int) := by omega

theorem mul_lt32 {z bit : Nat} (h : bit + z ≤ 32) : ons z * 2 ^ bit < 4294967296 := by
  have h1 : 2 ^ z * 2 ^ bit ≤ 4294967296 := by rw [← Nat.pow_add]; exact Nat.pow_le_pow_right (n := 2) (j := 32) (by omega) (by omega)
  have h2 := (pow_le32 (show z ≤ 32 by omega)).2
  have h3 := (pow_le32 (show bit ≤ 32 by omega)).2
  have h4 : ons z * 2 ^ bit + 2 ^ bit = 2 ^ z * 2 ^ bit := by
    unfold ons
    rw [← Nat.succ_mul, Nat.succ_eq_add_one, Nat.sub_add_cancel h2]
  omega

theorem or_lt32 {x y : Nat} (h1 : x < 4294967296) (h2 : y < 4294967296) : x ||| y < 4294967296 := Nat.or_lt_two_pow (n := 32) h1 h2

theorem or_take {T z bit : Nat} (hT : T < 4294967296) (h : bit + z ≤ 32) : IntKind.i64.wrap (bits .or .u32 (T : Int) (IntKind.u32.wrap (((ons z : Nat) : Int) * 2 ^ bit))) = ((T ||| ons z * 2 ^ bit : Nat) : Int) := by
  have h1 := mul_lt32 h
  have e1 : ((ons z : Nat) : Int) * 2 ^ bit = ((ons z * 2 ^ bit : Nat) : Int) := by simp
  have h2 := or_lt32 hT h1
  rw [e1, IntKind.wrap_u32, mod32 h1, u32_or_nat _ _ hT h1, IntKind.wrap_i64]
  omega

theorem or_begin {G bit : Nat} (hG : G < 4294967296) (h : bit < 32) : IntKind.i64.wrap (bits .or .u32 (G : Int) (IntKind.u32.wrap (2 ^ bit))) = ((G ||| 2 ^ bit : Nat) : Int) := by
  have h1 : 2 ^ bit < 4294967296 := Nat.pow_lt_pow_right (n := 32) (by omega) h
  have e1 : (2 : Int) ^ bit = ((2 ^ bit : Nat) : Int) := by simp
  have h2 := or_lt32 hG h1
  rw [e1, IntKind.wrap_u32, mod32 h1, u32_or_nat _ _ hG h1, IntKind.wrap_i64]
  omega

set_option maxHeartbeats 1000000 in
theorem take_any {w : World} {p : Ap} {A : Ar} {b c a n q : Nat} (h : In w p A b c a n q) (hq : 4 ≤ q) (i bit z T G : Nat) (hi : i < gro n) (hT : T < 4294967296) (hG : G < 4294967296) (hz : z ≤ 32) (hbz : bit + z ≤ 32) (hb : bit < 32)
    (hw : wordAt A.words (a + 1 + 2 * i) = (T : Int)) (hv : wordAt A.words (a + 2 + 2 * i) = (G : Int)) :
    Calls Tryd.prog 41 #[shv b c a n, .int .i64 (i : Int), .int .i64 (bit : Int), .int .i64 (z : Int)] w fun e w' => e = .returned (.tuple #[]) ∧ ∃ p' A', Run c a (a + n) 4 w p A w' p' A' ∧ ∀ j, wordAt A'.words j = if j = a + 1 + 2 * i then ((T ||| ons z * 2 ^ bit : Nat) : Int) else if j = a + 2 + 2 * i then ((G ||| 2 ^ bit : Nat) : Int) else wordAt A.words j := by
  have hK := (box_kept w b c a n).drew
  have HI := h.kept hK
  have hB := (Bx.new h.is b c a n).kept (Kept.refl _ _).drew
  have HX : Hid (_ ∧ _ ∧ _) := ⟨hK, HI, hB⟩
  have hf := h.fits
  have HW : Hid (_ ∧ _) := ⟨hw, hv⟩
  have hg := gro_le hf.hi
  have hg2 := gro_lt hf.lo
  have ib : (bit : Int) < 32 := by omega
  clear hK HI h hB hw hv
  go_enter Tryd.func41, Tryd.ntmps41
  go_wp2
  go_region_held3 (fun w' => w'.cell? ⟨w.heap.size, 0, none⟩ = some (.pointer (some ⟨b, 0, none⟩)) ∧ w'.cell? ⟨w.heap.size, 1, none⟩ = some (.int .i64 (c : Int)) ∧ w'.cell? ⟨w.heap.size, 2, none⟩ = some (.int .i64 (a : Int)) ∧ w'.cell? ⟨w.heap.size, 3, none⟩ = some (.int .i64 (n : Int))) (first | exact HX.out.2.2.1 | exact z1 | exact z2.1 | exact z3.1 | go_keep)
    (first
      | (go_at_call 52; refine (takenAt_any _ b c a n i hf (by omega)).mono ?_; rintro e w1 ⟨rfl, hk1⟩; have z1 := HX.out.2.2.1.kept0 hk1)
      | (go_at_call 39; refine (taken_any (q := 1) (HX.out.2.1.kept hk1 |>.next (Run.refl (m := 0) (HX.out.2.1.kept hk1).is) 1 (by omega)) (by omega) i T hi hT HW.out.1).mono ?_; rintro e w2 ⟨rfl, p2, A2, hr2, hw2⟩; have z2 := (HX.out.2.2.kept hk1).run hr2)
      | (go_at_call 51; refine (ones_any _ z hz).mono ?_; rintro e w3 ⟨rfl, hw3⟩; subst hw3)
      | (go_at_call 34; refine (put_any ((HX.out.2.1.kept hk1).next hr2 3 (by omega)) (by omega) (a + 1 + 2 * i) _ (by omega) (by omega)).mono ?_; rintro e w4 ⟨rfl, p4, A4, hr4, hw4⟩; rw [or_take hT hbz] at hw4; have z3 := z2.run hr4))
  have hl : A.words.length = A4.words.length := ((Run.trans hr2 hr4).tr.words).symm
  have hI4 := (HX.out.2.1.kept hk1).next (Run.trans hr2 hr4) 2 (by omega)
  have hj4 : ∀ j, wordAt A4.words j = if j = a + 1 + 2 * i then ((T ||| ons z * 2 ^ bit : Nat) : Int) else wordAt A.words j := fun j => by
    rw [hw4, hw2, wordAt_set _ _ _ _ (by have := HX.out.2.1.within; omega)]
  have hr := Run.pre (HX.out.1.trans hk1 (by simp)) (Run.trans hr2 hr4)
  have hwG : wordAt A4.words (a + 2 + 2 * i) = (G : Int) := by rw [hj4, if_neg (by omega)]; exact HW.out.2
  obtain ⟨y0, y1, y2, y3⟩ := z3.1
  have HY : Hid (_ ∧ _ ∧ _ ∧ _ ∧ _) := ⟨hI4.kept (Kept.refl _ _).drew, hj4, hr.post (Kept.refl _ _).drew, hwG, z3.kept (Kept.refl _ _).drew⟩
  clear hl hI4 hj4 hr hwG z3 z2 z1 hr2 hr4 hw2 hw4 hk1 HX
  go_wp2
  go_region_held3 (fun w' => w'.cell? ⟨w.heap.size, 0, none⟩ = some (.pointer (some ⟨b, 0, none⟩)) ∧ w'.cell? ⟨w.heap.size, 1, none⟩ = some (.int .i64 (c : Int)) ∧ w'.cell? ⟨w.heap.size, 2, none⟩ = some (.int .i64 (a : Int)) ∧ w'.cell? ⟨w.heap.size, 3, none⟩ = some (.int .i64 (n : Int))) (first | exact HY.out.2.2.2.2.1 | exact z5 | exact z6.1 | exact z7.1 | go_keep)
    (first
      | (go_at_call 53; refine (beginsAt_any _ b c a n i hf (by omega)).mono ?_; rintro e w5 ⟨rfl, hk5⟩; have z5 := HY.out.2.2.2.2.1.kept0 hk5)
      | (go_at_call 47; refine (begins_any (HY.out.1.kept hk5) (by omega) i G hi hG HY.out.2.2.2.1).mono ?_; rintro e w6 ⟨rfl, p6, A6, hr6, hw6⟩; have z6 := (HY.out.2.2.2.2.kept hk5).run hr6)
      | (go_at_call 34; refine (put_any ((HY.out.1.kept hk5).next hr6 1 (by omega)) (by omega) (a + 2 + 2 * i) _ (by omega) (by omega)).mono ?_; rintro e w7 ⟨rfl, p7, A7, hr7, hw7⟩; have z7 := z6.run hr7))
  rw [or_begin hG hb] at hw7
  go_wp2
  go_end0
  refine ⟨rfl, p7, A7, (HY.out.2.2.1.post hk5).trans (hr6.trans hr7), fun j => ?_⟩
  rw [hw7, hw6, wordAt_set _ _ _ _ (by have := HY.out.1.within; omega), HY.out.2.1]
  by_cases e1 : j = a + 1 + 2 * i
  · rw [if_neg (by omega), if_pos e1, if_pos e1]
  · rw [if_neg e1, if_neg e1]

theorem andnot_lt {x : Nat} (y : Nat) (h : x < 4294967296) : x &&& y < 4294967296 := Nat.lt_of_le_of_lt Nat.and_le_left h

theorem pow_lt32 {bit : Nat} (hb : bit < 32) : 2 ^ bit < 4294967296 := Nat.pow_lt_pow_right (n := 32) (by omega) hb

theorem others_eq {G bit : Nat} (hG : G < 4294967296) (hb : bit < 32) : bits .andNot .u32 (G : Int) (IntKind.u32.wrap (2 ^ bit)) = ((G &&& (4294967295 - 2 ^ bit) : Nat) : Int) := by
  have h1 := pow_lt32 hb
  have e1 : (2 : Int) ^ bit = ((2 ^ bit : Nat) : Int) := by simp
  rw [e1, IntKind.wrap_u32, mod32 h1, u32_andNot_nat _ _ hG h1]

theorem and_drop {T z bit : Nat} (hT : T < 4294967296) (h : bit + z ≤ 32) : IntKind.i64.wrap (bits .andNot .u32 (T : Int) (IntKind.u32.wrap (((ons z : Nat) : Int) * 2 ^ bit))) = ((T &&& (4294967295 - ons z * 2 ^ bit) : Nat) : Int) := by
  have h1 := mul_lt32 h
  have e1 : ((ons z : Nat) : Int) * 2 ^ bit = ((ons z * 2 ^ bit : Nat) : Int) := by simp
  have h2 := andnot_lt (4294967295 - ons z * 2 ^ bit) hT
  rw [e1, IntKind.wrap_u32, mod32 h1, u32_andNot_nat _ _ hT h1, IntKind.wrap_i64]
  omega

/-- What is left of a group's bits behind a place, without those at which others begin; turned. -/
def rest (T O bit : Nat) : Nat := 4294967295 - (T &&& (4294967295 - O)) / 2 ^ bit

theorem rest_eq {T O bit : Nat} (hT : T < 4294967296) (hO : O < 4294967296) : bits .xor .u32 IntKind.u32.max (bits .andNot .u32 (T : Int) (O : Int) / 2 ^ bit) = ((rest T O bit : Nat) : Int) := by
  rw [u32_andNot_nat _ _ hT hO]
  have e : (((T &&& (4294967295 - O) : Nat) : Int) / 2 ^ bit) = (((T &&& (4294967295 - O)) / 2 ^ bit : Nat) : Int) := by simp
  rw [e]
  have h1 : (T &&& (4294967295 - O)) / 2 ^ bit ≤ T &&& (4294967295 - O) := Nat.div_le_self _ _
  have h2 := andnot_lt (4294967295 - O) hT
  exact not32 _ (by omega)

theorem tz_any {w : World} (hT : Tab w) {x z : Nat} (hx : x < 4294967296) (h : (x = 0 ∧ z = 32) ∨ (z < 32 ∧ Low x z)) :
    Calls Tryd.prog 54 #[.int .u32 (x : Int)] w fun e w' => e = .returned (.int .i64 (z : Int)) ∧ w' = w := by
  rcases h with ⟨rfl, rfl⟩ | ⟨h1, h2⟩
  · exact tz_zero w
  · exact tz_low hT hx h1 h2

set_option maxHeartbeats 1000000 in
theorem drop_any {w : World} {p : Ap} {A : Ar} {b c a n q : Nat} (h : In w p A b c a n q) (hq : 4 ≤ q) (hTab : Tab w) (h0 : 0 ∉ p.blocks) (i bit z T G : Nat) (hi : i < gro n) (hT : T < 4294967296) (hG : G < 4294967296) (hbz : bit + z ≤ 32) (hb : bit < 32)
    (hw : wordAt A.words (a + 1 + 2 * i) = (T : Int)) (hv : wordAt A.words (a + 2 + 2 * i) = (G : Int))
    (hs : (rest T (G &&& (4294967295 - 2 ^ bit)) bit = 0 ∧ z = 32) ∨ (z < 32 ∧ Low (rest T (G &&& (4294967295 - 2 ^ bit)) bit) z)) :
    Calls Tryd.prog 48 #[shv b c a n, .int .i64 (i : Int), .int .i64 (bit : Int)] w fun e w' => e = .returned (.int .i64 (z : Int)) ∧ ∃ p' A', Run c a (a + n) 4 w p A w' p' A' ∧ ∀ j, wordAt A'.words j = if j = a + 1 + 2 * i then ((T &&& (4294967295 - ons z * 2 ^ bit) : Nat) : Int) else if j = a + 2 + 2 * i then ((G &&& (4294967295 - 2 ^ bit) : Nat) : Int) else wordAt A.words j := by
  have hK := (box_kept w b c a n).drew
  have HI := h.kept hK
  have hB := (Bx.new h.is b c a n).kept (Kept.refl _ _).drew
  have HX : Hid (_ ∧ _ ∧ _ ∧ _) := ⟨hK, HI, hB, hTab.kept hK (by simp)⟩
  have hf := h.fits
  have HW : Hid (_ ∧ _ ∧ _ ∧ _) := ⟨hw, hv, hs, h0⟩
  have hg := gro_le hf.hi
  have hg2 := gro_lt hf.lo
  have ib : (bit : Int) < 32 := by omega
  have sg : IntKind.u32.signed = false := rfl
  clear hK HI h hB hw hv hs hTab h0
  go_enter Tryd.func48, Tryd.ntmps48
  go_wp2
  go_region_held3 (fun w' => w'.cell? ⟨w.heap.size, 0, none⟩ = some (.pointer (some ⟨b, 0, none⟩)) ∧ w'.cell? ⟨w.heap.size, 1, none⟩ = some (.int .i64 (c : Int)) ∧ w'.cell? ⟨w.heap.size, 2, none⟩ = some (.int .i64 (a : Int)) ∧ w'.cell? ⟨w.heap.size, 3, none⟩ = some (.int .i64 (n : Int))) (first | exact HX.out.2.2.1.1 | exact z1.1 | exact z2.1 | go_keep)
    (first
      | (go_at_call 39; refine (taken_any (q := 1) (HX.out.2.1.next (Run.refl (m := 0) HX.out.2.1.is) 1 (by omega)) (by omega) i T hi hT HW.out.1).mono ?_; rintro e w1 ⟨rfl, p1, A1, hr1, hw1⟩; have z1 := HX.out.2.2.1.run hr1)
      | (go_at_call 47; refine (begins_any (HX.out.2.1.next hr1 1 (by omega)) (by omega) i G hi hG (by rw [hw1]; exact HW.out.2.1)).mono ?_; rintro e w2 ⟨rfl, p2, A2, hr2, hw2⟩; have z2 := z1.run hr2))
  rw [others_eq hG hb]
  have hr := hr1.trans hr2
  have hO : G &&& (4294967295 - 2 ^ bit) < 4294967296 := andnot_lt _ hG
  have htab2 : Tab w2 := HX.out.2.2.2.kept hr.to.kept (by simpa using HW.out.2.2.2)
  have hx0 : rest T (G &&& (4294967295 - 2 ^ bit)) bit < 4294967296 := Nat.lt_of_le_of_lt (Nat.sub_le _ _) (by omega)
  have HY : Hid (_ ∧ _ ∧ _ ∧ _ ∧ _) := ⟨HX.out.2.1.next hr 2 (by omega), hw2.trans hw1, Run.pre HX.out.1 hr, z2, tz_any htab2 hx0 HW.out.2.2.1⟩
  have eR := rest_eq (bit := bit) hT hO
  obtain ⟨y0, y1, y2, y3⟩ := z2.1
  clear hr htab2 z1 z2 hr1 hr2 hw1 hw2 HX hx0
  generalize hOO : G &&& (4294967295 - 2 ^ bit) = O at *
  have HO : Hid (_) := hOO
  clear hOO
  go_wp2_with fail
  refine HY.out.2.2.2.2.mono ?_
  rintro e w3 ⟨rfl, hw3⟩
  subst hw3
  have HZ : Hid (_ ∧ _ ∧ _) := ⟨HY.out.1.kept (Kept.refl _ _).drew, HY.out.2.2.1.post (Kept.refl _ _).drew, HY.out.2.2.2.1.kept (Kept.refl _ _).drew⟩
  go_wp2
  go_region_held3 (fun w' => w'.cell? ⟨w.heap.size, 0, none⟩ = some (.pointer (some ⟨b, 0, none⟩)) ∧ w'.cell? ⟨w.heap.size, 1, none⟩ = some (.int .i64 (c : Int)) ∧ w'.cell? ⟨w.heap.size, 2, none⟩ = some (.int .i64 (a : Int)) ∧ w'.cell? ⟨w.heap.size, 3, none⟩ = some (.int .i64 (n : Int))) (first | exact HZ.out.2.2.1 | exact z5 | exact z6.1 | go_keep)
    (first
      | (go_at_call 52; refine (takenAt_any _ b c a n i hf (by omega)).mono ?_; rintro e w5 ⟨rfl, hk5⟩; have z5 := HZ.out.2.2.1.kept0 hk5)
      | (go_at_call 51; refine (ones_any _ z (by omega)).mono ?_; rintro e w4 ⟨rfl, hw4⟩; subst hw4)
      | (go_at_call 34; refine (put_any (HZ.out.1.kept hk5) (by omega) (a + 1 + 2 * i) _ (by omega) (by omega)).mono ?_; rintro e w6 ⟨rfl, p6, A6, hr6, hw6⟩; have z6 := (HZ.out.2.2.kept hk5).run hr6))
  have hr := (HZ.out.2.1.post hk5).trans hr6
  rw [and_drop hT hbz] at hw6
  have hwl := HY.out.1.within
  have hj6 : ∀ j, wordAt A6.words j = if j = a + 1 + 2 * i then ((T &&& (4294967295 - ons z * 2 ^ bit) : Nat) : Int) else wordAt A.words j := fun j => by
    rw [hw6, wordAt_set _ _ _ _ (by omega), HY.out.2.1]
  obtain ⟨x0, x1, x2, x3⟩ := z6.1
  have HU : Hid (_ ∧ _ ∧ _ ∧ _) := ⟨((HZ.out.1.kept hk5).next hr6 1 (by omega)).kept (Kept.refl _ _).drew, hr.post (Kept.refl _ _).drew, z6.kept (Kept.refl _ _).drew, hj6⟩
  clear hr hwl hj6 z6 hw6 hr6 hk5 z5 HZ y0 y1 y2 y3 eR HY
  go_wp2
  go_region_held3 (fun w' => w'.cell? ⟨w.heap.size, 0, none⟩ = some (.pointer (some ⟨b, 0, none⟩)) ∧ w'.cell? ⟨w.heap.size, 1, none⟩ = some (.int .i64 (c : Int)) ∧ w'.cell? ⟨w.heap.size, 2, none⟩ = some (.int .i64 (a : Int)) ∧ w'.cell? ⟨w.heap.size, 3, none⟩ = some (.int .i64 (n : Int))) (first | exact HU.out.2.2.1.1 | exact z7 | exact z8.1 | go_keep)
    (first
      | (go_at_call 53; refine (beginsAt_any _ b c a n i hf (by omega)).mono ?_; rintro e w7 ⟨rfl, hk7⟩; have z7 := HU.out.2.2.1.1.kept0 hk7)
      | (go_at_call 34; refine (put_any (HU.out.1.kept hk7) (by omega) (a + 2 + 2 * i) _ (by omega) (by omega)).mono ?_; rintro e w8 ⟨rfl, p8, A8, hr8, hw8⟩; have z8 := (HU.out.2.2.1.kept hk7).run hr8))
  go_wp2
  go_ret
  refine ⟨rfl, p8, A8, (HU.out.2.1.post hk7).trans hr8, fun j => ?_⟩
  have eO : IntKind.i64.wrap (O : Int) = (O : Int) := by rw [IntKind.wrap_i64]; omega
  rw [hw8, wordAt_set _ _ _ _ (by have := HU.out.1.within; omega), HU.out.2.2.2, eO, HO.out]
  by_cases e1 : j = a + 1 + 2 * i
  · rw [if_neg (by omega), if_pos e1, if_pos e1]
  · rw [if_neg e1, if_neg e1]

end Go.Proofs.YtagnkdeeiligcaaDoor
