/-
  A share's free and left.
-/
import Derived.Test.YtagnkdeeiligcaaDoorGet
namespace Go.Proofs.YtagnkdeeiligcaaDoor
open Go.RowKit

theorem bit_one {G bit : Nat} (hG : G < 4294967296) : bits .and .u32 ((G : Int) / 2 ^ bit) 1 = if G.testBit bit = true then 1 else 0 := by
  have e : (G : Int) / 2 ^ bit = ((G / 2 ^ bit : Nat) : Int) := by simp
  have h1 : G / 2 ^ bit ≤ G := Nat.div_le_self _ _
  have h2 := u32_and_nat (G / 2 ^ bit) 1 (by omega) (by omega)
  rw [e]
  refine h2.trans ?_
  rw [Nat.and_one_is_mod, Nat.testBit_eq_decide_div_mod_eq]
  by_cases h3 : G / 2 ^ bit % 2 = 1
  · rw [h3]; simp
  · rw [show G / 2 ^ bit % 2 = 0 from by omega]; simp

/-- A place that is out of the heap. -/
theorem free_out {w : World} {p : Ap} {A : Ar} {b c a n q : Nat} (h : In w p A b c a n q) (t : Int) (ht : t < (heap a n : Int) ∨ ((heap a n + room n : Nat) : Int) ≤ t) :
    Calls Tryd.prog 30 #[shv b c a n, .int .i64 t] w fun e w' => e = .returned (.int .i64 402) ∧ Kept [] w w' := by
  have hK := box_kept w b c a n
  have hB := Bx.new h.is b c a n
  have HX : Hid (_ ∧ _) := ⟨hK, hB⟩
  have hf := h.fits
  obtain ⟨x0, x1, x2, x3⟩ := hB.1
  clear hK hB h
  by_cases h1 : t < (heap a n : Int)
  · have d1 : decide (t < (heap a n : Int)) = true := by simpa using h1
    go_enter Tryd.func30, Tryd.ntmps30
    go_wp2_with fail
    refine (heap_any _ b c a n hf).mono ?_
    rintro e w1 ⟨rfl, hk1⟩
    have HY : Hid (_) := hk1
    clear hk1
    go_wp2
    go_ret
    exact ⟨rfl, HX.out.1.trans HY.out (by simp)⟩
  · have d1 : decide (t < (heap a n : Int)) = false := by simpa using h1
    have h2 : ((heap a n + room n : Nat) : Int) ≤ t := by omega
    have d2 : decide (((heap a n + room n : Nat) : Int) ≤ t) = true := by simpa using h2
    clear ht
    go_enter Tryd.func30, Tryd.ntmps30
    go_wp2_with fail
    refine (heap_any _ b c a n hf).mono ?_
    rintro e w1 ⟨rfl, hk1⟩
    have hb1 := HX.out.2.kept hk1
    obtain ⟨y0, y1, y2, y3⟩ := hb1.1
    have HY : Hid (_) := hk1
    clear hk1 x0 x1 x2 x3 hb1
    go_wp2_with fail
    refine (end_any _ b c a n hf).mono ?_
    rintro e w2 ⟨rfl, hk2⟩
    have HZ : Hid (_) := hk2
    clear hk2 y0 y1 y2 y3
    go_wp2
    go_ret
    exact ⟨rfl, (HX.out.1.trans HY.out (by simp)).trans HZ.out (by simp)⟩

set_option maxHeartbeats 2000000 in
theorem free_none {w : World} {p : Ap} {A : Ar} {b c a n q : Nat} (h : In w p A b c a n q) (hq : 1 ≤ q) {ps : List Pc} (inv : Inv n a (wordAt A.words) ps) (x : Nat) (hx : x < room n) (hno : beg ps x = false) :
    Calls Tryd.prog 30 #[shv b c a n, .int .i64 ((heap a n + x : Nat) : Int)] w fun e w' => e = .returned (.int .i64 402) ∧ ∃ p' A', Run c a (a + n) 100 w p A w' p' A' ∧ A'.words = A.words := by
  have hK := box_kept w b c a n
  have HI := h.kept hK
  have hB := Bx.new h.is b c a n
  obtain ⟨G, hG⟩ := inv.words2
  have hi : x / 32 < gro n := by have := room_le n; omega
  obtain ⟨g1, g2, g3⟩ := hG _ hi
  have g4 := bit_one (bit := x % 32) g2
  rw [g3 _ (Nat.mod_lt _ (by omega)), Nat.div_add_mod, hno, if_neg (by simp)] at g4
  have HX : Hid (_ ∧ _ ∧ _ ∧ _ ∧ _ ∧ _) := ⟨hK, HI, hB, g1, g2, h⟩
  have hf := h.fits
  have h1 := hf.hi
  have h3 := hf.at_
  have hg := gro_le hf.hi
  have hh2 : heap a n ≤ a + 61 := by unfold heap; omega
  have hrm : room n ≤ 960 := by unfold room; omega
  obtain ⟨x0, x1, x2, x3⟩ := hB.1
  clear hK hB h HI hG g1 g2 g3 inv
  have d1 : decide (((heap a n + x : Nat) : Int) < (heap a n : Int)) = false := by simp only [decide_eq_false_iff_not]; omega
  have d2 : decide (((heap a n + room n : Nat) : Int) ≤ ((heap a n + x : Nat) : Int)) = false := by simp only [decide_eq_false_iff_not]; omega
  go_enter Tryd.func30, Tryd.ntmps30
  go_wp2_with fail
  refine (heap_any _ b c a n hf).mono ?_
  rintro e w1 ⟨rfl, hk1⟩
  have hb1 := HX.out.2.2.1.kept hk1
  obtain ⟨y0, y1, y2, y3⟩ := hb1.1
  have HY : Hid (_) := hk1
  clear hk1 x0 x1 x2 x3
  go_wp2_with fail
  refine (end_any _ b c a n hf).mono ?_
  rintro e w2 ⟨rfl, hk2⟩
  have hb2 := hb1.kept hk2
  obtain ⟨x0, x1, x2, x3⟩ := hb2.1
  have HZ : Hid (_ ∧ _ ∧ _) := ⟨hk2, hb2.kept (Kept.refl _ _).drew, (((HX.out.1.trans HY.out (by simp)).trans hk2 (by simp)).drew)⟩
  clear hk2 y0 y1 y2 y3 hb1 hb2
  go_wp2
  go_region_held3 (fun w' => w'.cell? ⟨w.heap.size, 0, none⟩ = some (.pointer (some ⟨b, 0, none⟩)) ∧ w'.cell? ⟨w.heap.size, 1, none⟩ = some (.int .i64 (c : Int)) ∧ w'.cell? ⟨w.heap.size, 2, none⟩ = some (.int .i64 (a : Int)) ∧ w'.cell? ⟨w.heap.size, 3, none⟩ = some (.int .i64 (n : Int))) (first | exact HZ.out.2.1.1 | exact z3.1 | exact z4.1 | go_keep)
    (first
      | (go_at_call 33; refine (heap_any _ b c a n hf).mono ?_; rintro e w3 ⟨rfl, hk3⟩; have z3 := HZ.out.2.1.kept hk3)
      | (go_at_call 33; refine (heap_any _ b c a n hf).mono ?_; rintro e w4 ⟨rfl, hk4⟩; have z4 := z3.kept hk4))
  have hxw : IntKind.i64.wrap (((heap a n : Nat) : Int) + (x : Int) - ((heap a n : Nat) : Int)) = (x : Int) := by rw [IntKind.wrap_i64]; omega
  have eQ : IntKind.i64.wrap ((IntKind.i64.wrap (((heap a n : Nat) : Int) + (x : Int) - ((heap a n : Nat) : Int))).tdiv 32) = ((x / 32 : Nat) : Int) := by
    rw [hxw, Int.tdiv_eq_ediv_of_nonneg (by omega), IntKind.wrap_i64]; omega
  have eR : (IntKind.i64.wrap (((heap a n : Nat) : Int) + (x : Int) - ((heap a n : Nat) : Int))).tmod 32 = ((x % 32 : Nat) : Int) := by
    rw [hxw, Int.tmod_eq_emod_of_nonneg (by omega)]; omega
  rw [eQ, eR]
  have hK4 := (HZ.out.2.2.trans hk3 (by simp)).trans hk4 (by simp)
  obtain ⟨y0, y1, y2, y3⟩ := z4.1
  have HU : Hid (_ ∧ _) := ⟨hK4, z4⟩
  clear hK4 z4 z3 hk3 hk4 hxw eQ eR x0 x1 x2 x3
  have ib : ((x % 32 : Nat) : Int) < 32 := by omega
  generalize x / 32 = i at *
  generalize x % 32 = bit at *
  go_wp2_with fail
  refine (begins_any (HX.out.2.2.2.2.2.kept HU.out.1) hq i (G i) hi HX.out.2.2.2.2.1 HX.out.2.2.2.1).mono ?_
  rintro e w5 ⟨rfl, p5, A5, hr5, hw5⟩
  have HV : Hid (_ ∧ _) := ⟨(Run.pre HU.out.1 hr5).mono (show 1 ≤ 100 by omega), hw5⟩
  clear hr5 hw5 y0 y1 y2 y3
  go_wp2
  go_ret
  exact ⟨rfl, p5, A5, HV.out⟩

set_option maxRecDepth 100000 in
set_option maxHeartbeats 4000000 in
theorem free_ok {w : World} {p : Ap} {A : Ar} {b c a n q : Nat} (h : In w p A b c a n q) (hq : 7 ≤ q) (hTab : Tab w) (h00 : 0 ∉ p.blocks) {l1 l2 : List Pc} {pc : Pc} (inv : Inv n a (wordAt A.words) (l1 ++ pc :: l2)) :
    Calls Tryd.prog 30 #[shv b c a n, .int .i64 ((heap a n + pc.1 : Nat) : Int)] w fun e w' => e = .returned (.int .i64 0) ∧ ∃ p' A', Run c a (a + n) 100 w p A w' p' A' ∧ Inv n a (wordAt A'.words) (l1 ++ l2) ∧ ∀ x, (x < a ∨ heap a n ≤ x) → wordAt A'.words x = wordAt A.words x := by
  have hmem : pc ∈ l1 ++ pc :: l2 := List.mem_append.2 (Or.inr (List.mem_cons_self))
  have hfit := inv.ok.fit pc hmem
  have hgr := inv.ok.group hmem
  have hsz := inv.ok.size pc hmem
  have hK := box_kept w b c a n
  have HI := h.kept hK
  have hB := Bx.new h.is b c a n
  obtain ⟨T, hT⟩ := inv.words
  obtain ⟨G, hG⟩ := inv.words2
  have hi : pc.1 / 32 < gro n := by have := room_le n; omega
  obtain ⟨g1, g2, g3⟩ := hG _ hi
  obtain ⟨t1, t2, t3⟩ := hT _ hi
  have g4 := bit_one (bit := pc.1 % 32) g2
  rw [g3 _ (Nat.mod_lt _ (by omega)), Nat.div_add_mod, if_pos (by rw [beg_mid]; simp)] at g4
  have hsize := inv.size hi t1 g1
  have hload := inv.load
  have hm := inv.most
  rw [loads_mid] at hload hm
  have HX : Hid (_ ∧ _ ∧ _ ∧ _ ∧ _ ∧ _) := ⟨hK, HI, hB, g1, g2, h⟩
  have HT : Hid (_ ∧ _ ∧ _ ∧ _ ∧ _ ∧ _ ∧ _) := ⟨t1, t2, hsize, inv, hTab, h00, hload⟩
  have hf := h.fits
  have h1 := hf.hi
  have h0 := hf.lo
  have h3 := hf.at_
  have hg := gro_le hf.hi
  have hg2 := gro_lt hf.lo
  have hh : heap a n = a + 1 + 2 * gro n := rfl
  have HH : Hid (_) := hh
  have hh2 : heap a n ≤ a + 61 := by omega
  have hrm : room n ≤ 960 := by unfold room; omega
  obtain ⟨x0, x1, x2, x3⟩ := hB.1
  clear hK hB h HI hG hT g1 g2 g3 t1 t2 t3 inv hsize hTab h00 hload hh hmem
  obtain ⟨x, z⟩ := pc
  simp only at *
  have d1 : decide (((heap a n + x : Nat) : Int) < (heap a n : Int)) = false := by simp only [decide_eq_false_iff_not]; omega
  have d2 : decide (((heap a n + room n : Nat) : Int) ≤ ((heap a n + x : Nat) : Int)) = false := by simp only [decide_eq_false_iff_not]; omega
  go_enter Tryd.func30, Tryd.ntmps30
  go_wp2_with fail
  refine (heap_any _ b c a n hf).mono ?_
  rintro e w1 ⟨rfl, hk1⟩
  have hb1 := HX.out.2.2.1.kept hk1
  obtain ⟨y0, y1, y2, y3⟩ := hb1.1
  have HY : Hid (_) := hk1
  clear hk1 x0 x1 x2 x3
  go_wp2_with fail
  refine (end_any _ b c a n hf).mono ?_
  rintro e w2 ⟨rfl, hk2⟩
  have hb2 := hb1.kept hk2
  obtain ⟨x0, x1, x2, x3⟩ := hb2.1
  have HZ : Hid (_ ∧ _ ∧ _) := ⟨hk2, hb2.kept (Kept.refl _ _).drew, (((HX.out.1.trans HY.out (by simp)).trans hk2 (by simp)).drew)⟩
  clear hk2 y0 y1 y2 y3 hb1 hb2
  go_wp2
  go_region_held3 (fun w' => w'.cell? ⟨w.heap.size, 0, none⟩ = some (.pointer (some ⟨b, 0, none⟩)) ∧ w'.cell? ⟨w.heap.size, 1, none⟩ = some (.int .i64 (c : Int)) ∧ w'.cell? ⟨w.heap.size, 2, none⟩ = some (.int .i64 (a : Int)) ∧ w'.cell? ⟨w.heap.size, 3, none⟩ = some (.int .i64 (n : Int))) (first | exact HZ.out.2.1.1 | exact z3.1 | exact z4.1 | go_keep)
    (first
      | (go_at_call 33; refine (heap_any _ b c a n hf).mono ?_; rintro e w3 ⟨rfl, hk3⟩; have z3 := HZ.out.2.1.kept hk3)
      | (go_at_call 33; refine (heap_any _ b c a n hf).mono ?_; rintro e w4 ⟨rfl, hk4⟩; have z4 := z3.kept hk4))
  have hxw : IntKind.i64.wrap (((heap a n : Nat) : Int) + (x : Int) - ((heap a n : Nat) : Int)) = (x : Int) := by rw [IntKind.wrap_i64]; omega
  have eQ : IntKind.i64.wrap ((IntKind.i64.wrap (((heap a n : Nat) : Int) + (x : Int) - ((heap a n : Nat) : Int))).tdiv 32) = ((x / 32 : Nat) : Int) := by
    rw [hxw, Int.tdiv_eq_ediv_of_nonneg (by omega), IntKind.wrap_i64]; omega
  have eR : (IntKind.i64.wrap (((heap a n : Nat) : Int) + (x : Int) - ((heap a n : Nat) : Int))).tmod 32 = ((x % 32 : Nat) : Int) := by
    rw [hxw, Int.tmod_eq_emod_of_nonneg (by omega)]; omega
  rw [eQ, eR]
  have hK4 := (HZ.out.2.2.trans hk3 (by simp)).trans hk4 (by simp)
  obtain ⟨y0, y1, y2, y3⟩ := z4.1
  have HU : Hid (_ ∧ _) := ⟨hK4, z4⟩
  clear hK4 z4 z3 hk3 hk4 hxw eQ eR x0 x1 x2 x3
  have ib : ((x % 32 : Nat) : Int) < 32 := by omega
  have hbl : x % 32 < 32 := by omega
  obtain ⟨i, ei⟩ : ∃ i, x / 32 = i := ⟨_, rfl⟩
  obtain ⟨bit, eb⟩ : ∃ bit, x % 32 = bit := ⟨_, rfl⟩
  rw [ei, eb] at g4 HT ⊢
  rw [ei] at hi HX
  rw [eb] at ib hbl hgr
  have HEI : Hid (_ ∧ _) := ⟨ei, eb⟩
  clear ei eb
  go_wp2_with fail
  refine (begins_any (HX.out.2.2.2.2.2.kept HU.out.1) (by omega) i (G i) hi HX.out.2.2.2.2.1 HX.out.2.2.2.1).mono ?_
  rintro e w5 ⟨rfl, p5, A5, hr5, hw5⟩
  have hb5 := HU.out.2.run hr5
  obtain ⟨x0, x1, x2, x3⟩ := hb5.1
  have hr5' := Run.pre HU.out.1 hr5
  have hI5 := HX.out.2.2.2.2.2.next hr5' 6 (by omega)
  have htab5 : Tab w5 := HT.out.2.2.2.2.1.kept hr5'.to.kept (by simpa using HT.out.2.2.2.2.2.1)
  have h05 : 0 ∉ p5.blocks := fun hm => by
    rcases hr5'.to.new 0 hm with h9 | h9
    · exact HT.out.2.2.2.2.2.1 h9
    · have := (HX.out.2.2.2.2.2.is.blocks_lt _ (List.mem_cons_self)); omega
  have HV : Hid (_ ∧ _ ∧ _ ∧ _ ∧ _ ∧ _) := ⟨hI5, hr5', hw5, hb5, htab5, h05⟩
  clear hr5 hw5 hb5 hr5' hI5 htab5 h05 y0 y1 y2 y3
  go_wp2_with fail
  refine (drop_any HV.out.1 (by omega) HV.out.2.2.2.2.1 HV.out.2.2.2.2.2 i bit z (T i) (G i) hi HT.out.2.1 HX.out.2.2.2.2.1 hgr hbl (by rw [HV.out.2.2.1]; exact HT.out.1) (by rw [HV.out.2.2.1]; exact HX.out.2.2.2.1) HT.out.2.2.1).mono ?_
  rintro e w6 ⟨rfl, p6, A6, hr6, hj6⟩
  have hb6 := HV.out.2.2.2.1.run hr6
  obtain ⟨y0, y1, y2, y3⟩ := hb6.1
  have hI6 := HV.out.1.next hr6 2 (by omega)
  have hla : wordAt A6.words a = ((loads (l1 ++ l2) + (z + 2) : Nat) : Int) := by
    rw [hj6, if_neg (by omega), if_neg (by omega), HV.out.2.2.1]; exact HT.out.2.2.2.2.2.2
  have HW : Hid (_ ∧ _ ∧ _ ∧ _ ∧ _) := ⟨hI6.kept (Kept.refl _ _).drew, (HV.out.2.1.trans hr6).post (Kept.refl _ _).drew, hj6, hb6.kept (Kept.refl _ _).drew, hla⟩
  clear hI6 hr6 hj6 hb6 hla x0 x1 x2 x3
  go_wp2
  go_region_held3 (fun w' => w'.cell? ⟨w.heap.size, 0, none⟩ = some (.pointer (some ⟨b, 0, none⟩)) ∧ w'.cell? ⟨w.heap.size, 1, none⟩ = some (.int .i64 (c : Int)) ∧ w'.cell? ⟨w.heap.size, 2, none⟩ = some (.int .i64 (a : Int)) ∧ w'.cell? ⟨w.heap.size, 3, none⟩ = some (.int .i64 (n : Int))) (first | exact HW.out.2.2.2.1.1 | exact z7.1 | exact z8.1 | go_keep)
    (first
      | (go_at_call 35; refine (load_any HW.out.1 (by omega) (loads (l1 ++ l2) + (z + 2)) hm HW.out.2.2.2.2).mono ?_; rintro e w7 ⟨rfl, p7, A7, hr7, hw7⟩; have z7 := HW.out.2.2.2.1.run hr7)
      | (go_at_call 34; refine (put_any (HW.out.1.next hr7 1 (by omega)) (by omega) a _ (by omega) (by omega)).mono ?_; rintro e w8 ⟨rfl, p8, A8, hr8, hw8⟩; have z8 := z7.run hr8))
  have HF : Hid (_ ∧ _ ∧ _) := ⟨hr7.trans hr8, hw7, hw8⟩
  clear hr7 hr8 hw7 hw8 z7 z8 y0 y1 y2 y3
  go_wp2
  go_ret
  obtain ⟨hr8, hw7, hw8⟩ := HF.out
  have hl8 : a < A6.words.length := by have := HW.out.1.within; omega
  have eL : IntKind.i64.wrap (IntKind.i64.wrap (((loads (l1 ++ l2) : Nat) : Int) + ((z : Int) + 2) - (z : Int)) - 2) = ((loads (l1 ++ l2) : Nat) : Int) := by
    simp only [IntKind.wrap_i64]; omega
  have hj8 : ∀ j, wordAt A8.words j = if j = a then ((loads (l1 ++ l2) : Nat) : Int) else wordAt A6.words j := fun j => by
    rw [hw8, hw7, wordAt_set _ _ _ _ hl8]
    by_cases e : j = a
    · rw [if_pos e, if_pos e]; exact eL
    · rw [if_neg e, if_neg e]
  obtain ⟨ei, eb⟩ := HEI.out
  refine ⟨rfl, p8, A8, (HW.out.2.1.trans hr8).mono (by omega), ?_, ?_⟩
  · have hj6 := HW.out.2.2.1
    have hAA := HV.out.2.2.1
    refine HT.out.2.2.2.1.free (T := T i) (G := G i) ?_ ?_ ?_ ?_ ?_ ?_
    · show _ ; rw [ei]; exact HT.out.1
    · show _ ; rw [ei]; exact HX.out.2.2.2.1
    · rw [hj8, if_pos rfl]
    · rw [ei, eb, hj8, if_neg (by omega), hj6, if_pos rfl]
    · rw [ei, eb, hj8, if_neg (by omega), hj6, if_neg (by omega), if_pos rfl]
    · intro y ya yb y1 y2 y3
      rw [ei] at y2 y3
      rw [hj8, if_neg y1, hj6, if_neg y2, if_neg y3, hAA]
  · intro y hy
    have := HH.out
    rw [hj8, if_neg (by omega), HW.out.2.2.1, if_neg (by omega), if_neg (by omega), HV.out.2.2.1]

/-- How many words may still be got. -/
def leftOf (R : Nat) : Nat := R / 34 * 32 + (R % 34 - 2)

set_option maxHeartbeats 2000000 in
theorem left_any {w : World} {p : Ap} {A : Ar} {b c a n q : Nat} (h : In w p A b c a n q) (hq : 1 ≤ q) (L : Nat) (hL : L ≤ n / 4) (hw : wordAt A.words a = (L : Int)) :
    Calls Tryd.prog 32 #[shv b c a n] w fun e w' => e = .returned (.int .i64 ((leftOf (n / 4 - L) : Nat) : Int)) ∧ ∃ p' A', Run c a (a + n) 100 w p A w' p' A' ∧ A'.words = A.words := by
  have hK := (box_kept w b c a n).drew
  have HI := h.kept hK
  have hB := (Bx.new h.is b c a n).kept (Kept.refl _ _).drew
  have HX : Hid (_ ∧ _ ∧ _) := ⟨hK, HI, hB⟩
  have hf := h.fits
  have hn1 := hf.hi
  have HW : Hid (_) := hw
  clear hK HI h hB hw
  go_enter Tryd.func32, Tryd.ntmps32
  go_wp2
  go_region_held3 (fun w' => w'.cell? ⟨w.heap.size, 0, none⟩ = some (.pointer (some ⟨b, 0, none⟩)) ∧ w'.cell? ⟨w.heap.size, 1, none⟩ = some (.int .i64 (c : Int)) ∧ w'.cell? ⟨w.heap.size, 2, none⟩ = some (.int .i64 (a : Int)) ∧ w'.cell? ⟨w.heap.size, 3, none⟩ = some (.int .i64 (n : Int))) (first | exact HX.out.2.2.1 | exact z1.1 | exact z2.1 | go_keep)
    (first
      | (go_at_call 36; refine (most_any _ b c a n hf).mono ?_; rintro e w1 ⟨rfl, hk1⟩; have z1 := HX.out.2.2.kept hk1)
      | (go_at_call 35; refine (load_any (HX.out.2.1.kept hk1) hq L hL HW.out).mono ?_; rintro e w2 ⟨rfl, p2, A2, hr2, hw2⟩; have z2 := z1.run hr2))
  have eR : IntKind.i64.wrap ((n : Int) / 4 - (L : Int)) = ((n / 4 - L : Nat) : Int) := by rw [IntKind.wrap_i64]; omega
  rw [eR]
  have hR : n / 4 - L ≤ 250 := by omega
  have HN : Hid (_) := show ∃ p' A', Run c a (a + n) 100 w p A w2 p' A' ∧ A'.words = A.words from ⟨p2, A2, (Run.pre (HX.out.1.trans hk1 (by simp)) hr2).mono (by omega), hw2⟩
  clear hr2 hw2 z1 z2 hk1 eR
  obtain ⟨R, eRR⟩ : ∃ R, n / 4 - L = R := ⟨_, rfl⟩
  rw [eRR] at hR ⊢
  have HE : Hid (_) := eRR
  clear eRR
  by_cases hc : 2 < R % 34
  · have d1 : ¬ (R : Int) % 34 - 2 < 0 := by omega
    go_wp2
    all_goals
      go_ret
      exact ⟨ret_int (by rw [HE.out]; unfold leftOf; omega), HN.out⟩
  · go_wp2
    all_goals
      go_ret
      exact ⟨ret_int (by rw [HE.out]; unfold leftOf; omega), HN.out⟩

end Go.Proofs.YtagnkdeeiligcaaDoor
