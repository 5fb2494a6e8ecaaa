/-
  A share's get.
-/
import Derived.Test.YtagnkdeeiligcaaDoorPieces
namespace Go.Proofs.YtagnkdeeiligcaaDoor
open Go.RowKit

theorem least {P : Nat → Prop} (h : ∃ k, P k) : ∃ k, P k ∧ ∀ k', k' < k → ¬ P k' := by
  obtain ⟨k, hk⟩ := h
  induction k using Nat.strongRecOn with
  | ind k ih =>
    by_cases h2 : ∃ k', k' < k ∧ P k'
    · obtain ⟨k', h3, h4⟩ := h2
      exact ih k' h3 h4
    · exact ⟨k, hk, fun k' h3 h4 => h2 ⟨k', h3, h4⟩⟩

theorem fit_yes (w : World) (T z k : Nat) (hT : T < 4294967296) (z0 : 1 ≤ z) (z1 : z ≤ 32) (hk : k * 2 ^ lv z < 32) (hf : Free T (k * 2 ^ lv z) z) (hn : ∀ k', k' < k → ¬ Free T (k' * 2 ^ lv z) z) :
    Calls Tryd.prog 38 #[.int .u32 (T : Int), .int .i64 (z : Int)] w fun e w' => e = .returned (.tuple #[.int .i64 ((k * 2 ^ lv z : Nat) : Int), .bool true]) ∧ Kept [] w w' := by
  refine (fit_any w T z hT z0 z1).mono ?_
  rintro e w' ⟨⟨k', rfl, h1, h2, h3⟩ | ⟨rfl, h1⟩, hk2⟩
  · rcases Nat.lt_trichotomy k k' with h | h | h
    · exact absurd hf (h3 k h)
    · subst h; exact ⟨rfl, hk2⟩
    · exact absurd h2 (hn k' h)
  · exact absurd hf (h1 k hk)

theorem fit_no (w : World) (T z : Nat) (hT : T < 4294967296) (z0 : 1 ≤ z) (z1 : z ≤ 32) (hn : ∀ k', k' * 2 ^ lv z < 32 → ¬ Free T (k' * 2 ^ lv z) z) :
    Calls Tryd.prog 38 #[.int .u32 (T : Int), .int .i64 (z : Int)] w fun e w' => e = .returned (.tuple #[.int .i64 0, .bool false]) ∧ Kept [] w w' := by
  refine (fit_any w T z hT z0 z1).mono ?_
  rintro e w' ⟨⟨k', rfl, h1, h2, h3⟩ | ⟨rfl, h1⟩, hk2⟩
  · exact absurd h2 (hn k' h1)
  · exact ⟨rfl, hk2⟩

theorem Inv.words {n a : Nat} {f : Nat → Int} {ps : List Pc} (h : Inv n a f ps) : ∃ T : Nat → Nat, ∀ i, i < gro n → f (a + 1 + 2 * i) = (T i : Int) ∧ T i < 4294967296 ∧ ∀ j, j < 32 → (T i).testBit j = cov ps (32 * i + j) := by
  refine ⟨fun i => if hi : i < gro n then (h.tk i hi).choose else 0, fun i hi => ?_⟩
  simp only [hi, dif_pos]
  exact (h.tk i hi).choose_spec

theorem Inv.words2 {n a : Nat} {f : Nat → Int} {ps : List Pc} (h : Inv n a f ps) : ∃ G : Nat → Nat, ∀ i, i < gro n → f (a + 2 + 2 * i) = (G i : Int) ∧ G i < 4294967296 ∧ ∀ j, j < 32 → (G i).testBit j = beg ps (32 * i + j) := by
  refine ⟨fun i => if hi : i < gro n then (h.bg i hi).choose else 0, fun i hi => ?_⟩
  simp only [hi, dif_pos]
  exact (h.bg i hi).choose_spec

theorem miss_lt (n i : Nat) : miss n i < 4294967296 := Nat.lt_of_le_of_lt (Nat.sub_le _ _) (by omega)

set_option maxHeartbeats 1000000 in
theorem get_full {w : World} {p : Ap} {A : Ar} {b c a n q : Nat} (h : In w p A b c a n q) (hq : 1 ≤ q) {ps : List Pc} (inv : Inv n a (wordAt A.words) ps) (z : Nat) (z1 : z ≤ 32) (hz : n / 4 < loads ps + z + 2) :
    Calls Tryd.prog 26 #[shv b c a n, .int .i64 (z : Int)] w fun e w' => e = .returned (.tuple #[.int .i64 0, .int .i64 401]) ∧ ∃ p' A', Run c a (a + n) 100 w p A w' p' A' ∧ A'.words = A.words := by
  have hK := box_kept w b c a n
  have HI := h.kept hK
  have hB := Bx.new h.is b c a n
  have HX : Hid (_ ∧ _ ∧ _ ∧ _) := ⟨hK, HI, hB, inv.load⟩
  have hf := h.fits
  have h1 := hf.hi
  have hm := inv.most
  obtain ⟨x0, x1, x2, x3⟩ := hB.1
  clear hK HI hB h inv
  generalize loads ps = L at *
  go_enter Tryd.func26, Tryd.ntmps26
  go_wp2_with fail
  refine (load_any HX.out.2.1 hq L hm HX.out.2.2.2).mono ?_
  rintro e w1 ⟨rfl, p1, A1, hr1, hw1⟩
  have hb1 := HX.out.2.2.1.run hr1
  obtain ⟨y0, y1, y2, y3⟩ := hb1.1
  have HY : Hid (_ ∧ _) := ⟨Run.pre HX.out.1 hr1, hw1⟩
  clear hr1 hw1 hb1 x0 x1 x2 x3 HX
  have d1 : ((n / 4 : Nat) : Int) < (L : Int) + (z : Int) + 2 := by omega
  go_wp2_with fail
  refine (most_any _ b c a n hf).mono ?_
  rintro e w2 ⟨rfl, hk2⟩
  have HZ : Hid (_) := hk2
  clear hk2 y0 y1 y2 y3
  have d2 : (n : Int) / 4 < (L : Int) + (z : Int) + 2 := by omega
  go_wp2
  go_ret2
  exact ⟨rfl, p1, A1, (HY.out.1.mono (by omega)).post HZ.out, HY.out.2⟩

/-- What a get that gives answers. -/
def Got (w : World) (p : Ap) (A : Ar) (c a n : Nat) (ps : List Pc) (z : Nat) (e : Ending) (w' : World) : Prop :=
  ∃ pos p' A', e = .returned (.tuple #[.int .i64 ((heap a n + pos : Nat) : Int), .int .i64 0]) ∧ Run c a (a + n) 100 w p A w' p' A' ∧ Inv n a (wordAt A'.words) (ps ++ [(pos, z)]) ∧ pos + z ≤ room n ∧
    (∀ x, heap a n + pos ≤ x → x < heap a n + pos + z → wordAt A'.words x = 0) ∧ ∀ x, (x < a ∨ heap a n ≤ x) → (x < heap a n + pos ∨ heap a n + pos + z ≤ x) → wordAt A'.words x = wordAt A.words x

set_option maxRecDepth 100000 in
set_option maxHeartbeats 4000000 in
theorem get_ok {w : World} {p : Ap} {A : Ar} {b c a n q : Nat} (h : In w p A b c a n q) (hq : 100 ≤ q) {ps : List Pc} (inv : Inv n a (wordAt A.words) ps) (z : Nat) (z0 : 1 ≤ z) (z1 : z ≤ 32) (hz : loads ps + z + 2 ≤ n / 4) :
    Calls Tryd.prog 26 #[shv b c a n, .int .i64 (z : Int)] w (Got w p A c a n ps z) := by
  have hK := box_kept w b c a n
  have HI := h.kept hK
  have hB := Bx.new h.is b c a n
  obtain ⟨T, hT⟩ := inv.words
  obtain ⟨G, hG⟩ := inv.words2
  have HX : Hid (_ ∧ _ ∧ _ ∧ _ ∧ _) := ⟨hK, HI, hB, inv, h⟩
  have HT : Hid (_ ∧ _) := ⟨hT, hG⟩
  have hf := h.fits
  have h1 := hf.hi
  have h0 := hf.lo
  have h3 := hf.at_
  have hm := inv.most
  have hg := gro_le hf.hi
  have hg2 := gro_lt hf.lo
  have hh : heap a n = a + 1 + 2 * gro n := rfl
  have HH : Hid (_) := hh
  have hh2 : heap a n ≤ a + 61 := by omega
  have hrm : heap a n + room n ≤ a + n := by unfold room; omega
  obtain ⟨x0, x1, x2, x3⟩ := hB.1
  clear hK HI hB h hT hG hh
  obtain ⟨L, hL⟩ : ∃ L, loads ps = L := ⟨_, rfl⟩
  have HL : Hid (_) := hL
  have hll := inv.load
  rw [hL] at hm hz hll
  have HLL : Hid (_) := hll
  clear hL hll inv
  go_enter Tryd.func26, Tryd.ntmps26
  go_wp2_with fail
  refine (load_any HX.out.2.1 (by omega) L hm HLL.out).mono ?_
  rintro e w1 ⟨rfl, p1, A1, hr1, hw1⟩
  have hb1 := HX.out.2.2.1.run hr1
  obtain ⟨y0, y1, y2, y3⟩ := hb1.1
  have HY : Hid (_ ∧ _ ∧ _) := ⟨Run.pre HX.out.1 hr1, hw1, hb1⟩
  clear hr1 hw1 hb1 x0 x1 x2 x3
  go_wp2_with fail
  refine (most_any _ b c a n hf).mono ?_
  rintro e w2 ⟨rfl, hk2⟩
  have hb2 := HY.out.2.2.kept hk2
  obtain ⟨x0, x1, x2, x3⟩ := hb2.1
  have HZ : Hid (_ ∧ _) := ⟨HY.out.1.post hk2, hb2⟩
  clear hk2 y0 y1 y2 y3 hb2
  have d1 : ¬ ((n / 4 : Nat) : Int) < (L : Int) + (z : Int) + 2 := by omega
  have d2 : ¬ (n : Int) / 4 < (L : Int) + (z : Int) + 2 := by omega
  go_wp2_with fail
  refine (groups_any _ b c a n hf).mono ?_
  rintro e w3 ⟨rfl, hk3⟩
  have HU : Hid (∃ p' A', Run c a (a + n) (1 + 0) w p A w3 p' A' ∧ Bx w.heap.size b c a n w3 p' ∧ A'.words = A.words) := ⟨p1, A1, HZ.out.1.post hk3, HZ.out.2.kept hk3, HY.out.2.1⟩
  clear hk3 x0 x1 x2 x3 HZ HY
  go_wp2_with fail
  go_loopw [22] (fun i wr => ∃ k : Nat, i = .int .i64 (k : Int) ∧ k ≤ gro n ∧ Hid ((∃ p' A', Run c a (a + n) (1 + k) w p A wr p' A' ∧ Bx w.heap.size b c a n wr p' ∧ A'.words = A.words) ∧ ∀ i', i' < k → ∀ k', k' * 2 ^ lv z < 32 → ¬ Free (T i' ||| miss n i') (k' * 2 ^ lv z) z)) (fun i _ => (gro n - intOf i).toNat)
  case atStart => exact ⟨0, rfl, by omega, HU.out, fun i' hi' => by omega⟩
  case round =>
    obtain ⟨k, rfl, hk, HK⟩ := hrel
    obtain ⟨⟨p4, A4, hr4, hb4, hw4⟩, hno⟩ := HK.out
    by_cases hlt : k < gro n
    · have i0 : (k : Int) < (gro n : Int) := by omega
      obtain ⟨t1, t2, t3⟩ := HT.out.1 k hlt
      have hF := or_lt32 t2 (miss_lt n k)
      have hor := u32_or_nat (T k) (miss n k) t2 (miss_lt n k)
      have hI4 := (HX.out.2.2.2.2.next hr4 69 (by omega)).kept (Kept.refl _ _).drew
      have hb4d := hb4.kept (Kept.refl _ _).drew
      obtain ⟨x0, x1, x2, x3⟩ := hb4.1
      by_cases hex : ∃ kk, kk * 2 ^ lv z < 32 ∧ Free (T k ||| miss n k) (kk * 2 ^ lv z) z
      · obtain ⟨kk, ⟨k1, k2⟩, k3⟩ := least hex
        have k4 : ∀ k', k' < kk → ¬ Free (T k ||| miss n k) (k' * 2 ^ lv z) z := fun k' hk' hfr => k3 k' hk' ⟨by have := Nat.mul_le_mul_right (2 ^ lv z) (Nat.le_of_lt hk'); omega, hfr⟩
        have hplace := place_ok h0 h1 HX.out.2.2.2.1.ok z0 z1 (by rw [HL.out]; exact hz) T (fun i hi => (HT.out.1 i hi).2.2) hlt k1 k2 k4 hno
        have HR : Hid (_ ∧ _ ∧ _ ∧ _ ∧ _ ∧ _) := ⟨hr4, hw4, hI4, hb4d, hplace, fun w' => fit_yes w' (T k ||| miss n k) z kk hF z0 z1 k1 k2 k4⟩
        have HO : Hid (_ ∧ _ ∧ _) := ⟨hor, t1, t2⟩
        clear hr4 hw4 hI4 hb4 hb4d hplace hno HK hor t1 t2 t3 hF hex k2 k3 k4 HU
        obtain ⟨bit, hbit⟩ : ∃ bit, kk * 2 ^ lv z = bit := ⟨_, rfl⟩
        rw [hbit] at HR k1
        clear hbit
        have ib : (bit : Int) < 32 := by omega
        go_wp2_with fail
        go_region_held3 (fun w' => w'.cell? ⟨w.heap.size, 0, none⟩ = some (.pointer (some ⟨b, 0, none⟩)) ∧ w'.cell? ⟨w.heap.size, 1, none⟩ = some (.int .i64 (c : Int)) ∧ w'.cell? ⟨w.heap.size, 2, none⟩ = some (.int .i64 (a : Int)) ∧ w'.cell? ⟨w.heap.size, 3, none⟩ = some (.int .i64 (n : Int))) (first | exact HR.out.2.2.2.1.1 | exact z5.1 | exact z6.1 | exact z7.1 | go_keep)
          (first
            | (go_at_call 39; refine (taken_any (HR.out.2.2.1) (by omega) k (T k) hlt HO.out.2.2 (by rw [HR.out.2.1]; exact HO.out.2.1)).mono ?_; rintro e w5 ⟨rfl, p5, A5, hr5, hw5⟩; have z5 := HR.out.2.2.2.1.run hr5)
            | (go_at_call 40; refine (missing_any _ b c a n hf k hlt).mono ?_; rintro e w6 ⟨rfl, hk6⟩; have z6 := z5.kept hk6)
            | (go_at_call 38; rw [HO.out.1]; refine (HR.out.2.2.2.2.2 _).mono ?_; rintro e w7 ⟨rfl, hk7⟩; have z7 := z6.kept hk7))
        have hI7 := ((HR.out.2.2.1.next hr5 68 (by omega)).kept hk6).kept hk7
        have hr7 := (HR.out.1.post (Kept.refl _ _).drew).trans ((hr5.post hk6).post hk7)
        have hw7 := hw5.trans HR.out.2.1
        obtain ⟨y0, y1, y2, y3⟩ := z7.1
        have HS : Hid (_ ∧ _ ∧ _ ∧ _) := ⟨hI7, hr7, hw7, z7⟩
        clear hI7 hr7 hw7 z7 z6 z5 hr5 hk6 hk7 hw5 x0 x1 x2 x3
        obtain ⟨g1, g2, g3⟩ := HT.out.2 k hlt
        have HG : Hid (_ ∧ _) := ⟨g1, g2⟩
        clear g1 g2 g3
        go_wp2_with fail
        refine (take_any HS.out.1 (by omega) k bit z (T k) (G k) hlt HO.out.2.2 HG.out.2 z1 (by have := HR.out.2.2.2.2.1.2.1; omega) k1 (by rw [HS.out.2.2.1]; exact HO.out.2.1) (by rw [HS.out.2.2.1]; exact HG.out.1)).mono ?_
        rintro e w8 ⟨rfl, p8, A8, hr8, hj8⟩
        have hI8 := HS.out.1.next hr8 64 (by omega)
        have hb8 := HS.out.2.2.2.run hr8
        obtain ⟨x0, x1, x2, x3⟩ := hb8.1
        have HV : Hid (_ ∧ _ ∧ _ ∧ _) := ⟨hI8, HS.out.2.1.trans hr8, hb8, hj8⟩
        clear hI8 hb8 hr8 hj8 y0 y1 y2 y3
        go_wp2_with fail
        refine (put_any HV.out.1 (by omega) a ((L : Int) + (z : Int) + 2) (by omega) (by omega)).mono ?_
        rintro e w9 ⟨rfl, p9, A9, hr9, hw9⟩
        have hI9 := HV.out.1.next hr9 63 (by omega)
        have hb9 := HV.out.2.2.1.run hr9
        obtain ⟨y0, y1, y2, y3⟩ := hb9.1
        have HP : Hid (_ ∧ _ ∧ _ ∧ _) := ⟨hI9, HV.out.2.1.trans hr9, hb9, hw9⟩
        clear hI9 hb9 hr9 hw9 x0 x1 x2 x3
        go_wp2_with fail
        refine (heap_any _ b c a n hf).mono ?_
        rintro e w10 ⟨rfl, hk10⟩
        have hb10 := HP.out.2.2.1.kept hk10
        obtain ⟨x0, x1, x2, x3⟩ := hb10.1
        have HQ : Hid (_) := hk10
        clear hk10 hb10 y0 y1 y2 y3
        have hbz : 32 * k + bit + z ≤ room n := HR.out.2.2.2.2.1.2.2.1
        have e10 : ((heap a n : Nat) : Int) + (k : Int) * 32 + (bit : Int) = ((heap a n + (32 * k + bit) : Nat) : Int) := by omega
        have hl10 : ((heap a n : Nat) : Int) + (k : Int) * 32 + (bit : Int) < 200000 := by omega
        go_wp2_with fail
        refine (wipe_any (HP.out.1.kept HQ.out) (by omega) (heap a n + (32 * k + bit)) z z1 (by have := HH.out; omega) (by omega)).mono ?_
        rintro e w11 ⟨rfl, p11, A11, hr11, hj11⟩
        have HF : Hid (_ ∧ _) := ⟨hr11, hj11⟩
        clear hr11 hj11 x0 x1 x2 x3
        go_wp2
        go_ret2
        obtain ⟨hr11, hj11⟩ := HF.out
        obtain ⟨-, hr9, -, hw9⟩ := HP.out
        obtain ⟨hI8, -, -, hj8⟩ := HV.out
        obtain ⟨hok, hfit, hrr, hcv⟩ := HR.out.2.2.2.2.1
        have hl9 : a < A8.words.length := by have := hI8.within; omega
        have hj9 : ∀ j, wordAt A9.words j = if j = a then (L : Int) + (z : Int) + 2 else wordAt A8.words j := fun j => by rw [hw9, wordAt_set _ _ _ _ hl9]
        have hA7 := HS.out.2.2.1
        refine ⟨32 * k + bit, p11, A11, rfl, ((hr9.post HQ.out).trans hr11).mono (by omega), ?_, hrr, ?_, ?_⟩
        · refine HX.out.2.2.2.1.get hlt (by omega) z0 hok (by rw [HL.out]; exact hz) HO.out.2.1 HG.out.1 ?_ ?_ ?_ ?_
          · rw [hj11, if_neg (by have := HH.out; omega), hj9, if_pos rfl, HL.out]; omega
          · have := HH.out
            rw [hj11, if_neg (by omega), hj9, if_neg (by omega), hj8, if_pos rfl]
          · have := HH.out
            rw [hj11, if_neg (by omega), hj9, if_neg (by omega), hj8, if_neg (by omega), if_pos rfl]
          · intro x xa xh x1 x2 x3
            rw [hj11, if_neg (by omega), hj9, if_neg x1, hj8, if_neg x2, if_neg x3, hA7]
        · intro x xa xb
          rw [hj11, if_pos ⟨xa, xb⟩]
        · intro x xa xb
          have := HH.out
          rw [hj11, if_neg (by omega), hj9, if_neg (by omega), hj8, if_neg (by omega), if_neg (by omega), hA7]
      · have hn : ∀ k', k' * 2 ^ lv z < 32 → ¬ Free (T k ||| miss n k) (k' * 2 ^ lv z) z := fun k' h5 h6 => hex ⟨k', h5, h6⟩
        have HR : Hid (_ ∧ _ ∧ _ ∧ _ ∧ _ ∧ _) := ⟨hr4, hw4, hI4, hb4d, And.intro hno hn, fun w' => fit_no w' (T k ||| miss n k) z hF z0 z1 hn⟩
        have HO : Hid (_ ∧ _ ∧ _) := ⟨hor, t1, t2⟩
        clear hr4 hw4 hI4 hb4 hb4d hno HK hor t1 t2 t3 hF hex hn HU
        go_wp2_with fail
        go_region_held3 (fun w' => w'.cell? ⟨w.heap.size, 0, none⟩ = some (.pointer (some ⟨b, 0, none⟩)) ∧ w'.cell? ⟨w.heap.size, 1, none⟩ = some (.int .i64 (c : Int)) ∧ w'.cell? ⟨w.heap.size, 2, none⟩ = some (.int .i64 (a : Int)) ∧ w'.cell? ⟨w.heap.size, 3, none⟩ = some (.int .i64 (n : Int))) (first | exact HR.out.2.2.2.1.1 | exact z5.1 | exact z6.1 | exact z7.1 | go_keep)
          (first
            | (go_at_call 39; refine (taken_any (HR.out.2.2.1) (by omega) k (T k) hlt HO.out.2.2 (by rw [HR.out.2.1]; exact HO.out.2.1)).mono ?_; rintro e w5 ⟨rfl, p5, A5, hr5, hw5⟩; have z5 := HR.out.2.2.2.1.run hr5)
            | (go_at_call 40; refine (missing_any _ b c a n hf k hlt).mono ?_; rintro e w6 ⟨rfl, hk6⟩; have z6 := z5.kept hk6)
            | (go_at_call 38; rw [HO.out.1]; refine (HR.out.2.2.2.2.2 _).mono ?_; rintro e w7 ⟨rfl, hk7⟩; have z7 := z6.kept hk7))
        have hr7 := (HR.out.1.post (Kept.refl _ _).drew).trans ((hr5.post hk6).post hk7)
        have hw7 := hw5.trans HR.out.2.1
        have HN : Hid (_ ∧ _ ∧ _) := ⟨hr7, hw7, z7⟩
        clear hr7 hw7 z7 z6 z5 hr5 hk6 hk7 hw5 x0 x1 x2 x3
        go_wp2
        go_roundw
        case rel =>
          refine ⟨k + 1, by go_num, by omega, ⟨p5, A5, HN.out.1, HN.out.2.2, HN.out.2.1⟩, fun i' hi' k' hk' => ?_⟩
          by_cases e : i' = k
          · subst e; exact HR.out.2.2.2.2.1.2 k' hk'
          · exact HR.out.2.2.2.2.1.1 i' (by omega) k' hk'
        case measure => simp [intOf]; omega
    · exact absurd (no_place h0 h1 HX.out.2.2.2.1.ok z0 z1 (by rw [HL.out]; exact hz) T (fun i hi => (HT.out.1 i hi).2.2) (fun i hi => hno i (by omega))) id

end Go.Proofs.YtagnkdeeiligcaaDoor
