/-
  Joined of my texts Rn.
-/
import Derived.Test.YtmeafancgmkfkaaGreatDoorJo35
import Derived.Test.YtmeafancgmkfkaaGreatDoorJo33
namespace Go.Proofs.YtmeafancgmkfkaaGreatDoor
open List renaming setIfInBounds_toArray → lz0, set_cons_zero → lz1, set_cons_succ → lz2, getElem_toArray → lz3, getElem_cons_zero → lz4, getElem_cons_succ → lz5
open Go.RowKit
set_option linter.unusedVariables false
set_option linter.unusedSimpArgs false
set_option maxRecDepth 100000 in
set_option maxHeartbeats 8000000 in
theorem p_rename_spot2 {w0 w : World} {B : Nat} {c : Cal} {pk v1 v2 v3 : Value} {ev : List Value} {S : Sta} (h : Cb w0 w B c pk v1 v2 v3 ev S) {d1 : Int} {t1 : ByteArray} {k1 i1 j : Nat} (hsp1 : spotR S.ino c.path = .ok (d1, t1)) (hclo : Clo S.ino) (hat1 : atR S.ino d1 = some k1) (hk1 : k1 < S.ino.length) (hi1 : i1 < (S.ino[k1]).ents.length) (hp1 : plR (S.ino[k1]).ents t1 = some i1) (hat2 : atR S.ino ((S.ino[k1]).ents[i1]).2 = some j) (hj : j < S.ino.length) {code : Int} (hsp : spotR S.ino c.path2 = .error code) :
   Calls Tryz.prog 86 #[.pointer (some ⟨B, 0, none⟩)] w (Out w0 w B c pk v1 v2 v3 ev S (.error code)) := by
 obtain ⟨W1, R, HWR, HKR, HRb⟩ := boxR w #[.int .i64 0, .int .i64 0, .int .i64 0, .bool false, .string ⟨#[]⟩, .slice none 0 0] 32
 have HC1 : Hid (Cb w0 W1 B c pk v1 v2 v3 ev S) := h.kept HKR.out
 have HRo : Hid (Off [R] v1 v2 v3 ev ∧ R ≠ B) := h.new (Nat.le_of_eq HWR.out.2)
 have HRw : Hid (w.heap.size ≤ R) := Nat.le_of_eq HWR.out.2
 have HRl : Hid (w0.heap.size ≤ R) := by have := h.k.size; rw [← HWR.out.2]; exact this
 obtain ⟨p, e1, e2, e3, hrd, f1, f3⟩ := HC1.out.rd
 have HR : Hid (Rd W1 B c pk p S) := hrd
 have HV : Hid (v1 = .slice p.a1 S.ino.length p.c1 ∧ v2 = .slice p.a2 S.opn.length p.c2 ∧ v3 = .slice p.a3 S.made.length p.c3 ∧ (∀ x, p.a1 = some x → ∃ g, x = ⟨g, 0, none⟩) ∧ (∀ x, p.a3 = some x → ∃ g, x = ⟨g, 0, none⟩)) := ⟨e1, e2, e3, f1, f3⟩
 have HBd : Hid (Bd S) := h.bd
 have HSp1 : Hid (_) := hsp1
 have HClo : Hid (_) := hclo
 have HAt1 : Hid (_) := hat1
 have HP1 : Hid (plR (S.ino[k1]).ents t1 = some i1 ∧ ∃ hi : i1 < (S.ino[k1]).ents.length, atR S.ino ((S.ino[k1]).ents[i1]).2 = some j) := ⟨hp1, hi1, hat2⟩
 have d5 := hrd.c5
 have HSp : Hid (_) := hsp
 clear h e1 e2 e3 f1 f3 hrd hsp1 hclo hat1 hp1 hat2 hsp
 go_enter Tryz.func86, Tryz.ntmps86
 go_upto_region 1 with fail
 rw [HWR.out.1, HWR.out.2]
 clear HWR
 go_wp2_with fail
 refine (p_spot HR.out HClo.out c.path).mono ?_
 rintro e ws3 ⟨hret, k1⟩
 have hee : e = .returned (.agg #[.int .i64 d1, .string t1]) := by have h9 := HSp1.out; unfold spotV at hret; rw [h9] at hret; exact hret
 subst hee
 obtain ⟨W3, Q3, HWQ, HKQ, q30, q31⟩ := box2 ws3 (.int .i64 d1) (.string t1) 120
 have HQ3 : Hid (W3.heap[Q3]? = some (.cells #[.int .i64 d1, .string t1] 120 (0, 0)) ∧ ws3.heap.size ≤ Q3) := by
   rw [← HWQ.out.1, ← HWQ.out.2]; exact ⟨Go.heap_alloc_new _ _, Nat.le_refl _⟩
 go_upto_region 2 with fail
 rw [HWQ.out.1, HWQ.out.2]
 clear HWQ
 have HKk : Hid (Kept [] W1 W3) := k1.trans HKQ.out (by simp)
 have HR3 : Hid (_) := HR.out.kept HKk.out
 have HC3 : Hid (_) := HC1.out.kept HKk.out
 have HK3 : Hid (Kept [] w W3) := HKR.out.trans HKk.out (by simp)
 have HB3 : Hid (W3.heap[R]? = _) := (HKk.out.block _ (lt_of_heap HRb.out) (by simp)).trans HRb.out
 have HQo3 : Hid (Off [Q3] v1 v2 v3 ev ∧ Q3 ≠ B) := (HC1.out.kept k1).new HQ3.out.2
 clear hret k1 HKQ
 obtain ⟨b1, o1, ae, ce, ha, -⟩ := HR3.out.sv.ino k1 hk1
 have ho1 : o1 = 0 := by
   obtain ⟨g, hg⟩ := HV.out.2.2.2.1 _ ha
   simp only [Addr.mk.injEq, and_true] at hg
   exact hg.2
 subst ho1
 have HA : Hid (p.a1 = some ⟨b1, 0, none⟩) := ha
 have HV1 : Hid (v1 = .slice (some ⟨b1, 0, none⟩) S.ino.length p.c1) := by show _ = _; rw [HV.out.1, HA.out]
 clear ha
 go_wp2_with fail
 refine (p_at_some HR3.out d1 t1 HAt1.out hk1 HP1.out HA.out).mono ?_
 rintro e w2 ⟨rfl, k2⟩
 rw [Nat.zero_add]
 have HC4 : Hid (_) := HC3.out.kept k2
 have HR4 : Hid (_) := HR3.out.kept k2
 have HK4 : Hid (Kept [] w w2) := HK3.out.trans k2 (by simp)
 have HB4 : Hid (w2.heap[R]? = _) := (k2.block _ (lt_of_heap HB3.out) (by simp)).trans HB3.out
 have HQ4 : Hid (w2.heap[Q3]? = _) := (k2.block _ (lt_of_heap HQ3.out.1) (by simp)).trans HQ3.out.1
 clear k2 q30 q31
 go_wp2_with fail
 refine (p_if_no 1 w2).mono ?_
 rintro e w9 ⟨rfl, hw⟩
 have hw2 := hw.symm
 subst hw2
 have d6 := HR4.out.c6
 go_wp2_with fail
 refine (p_spot HR4.out HClo.out c.path2).mono ?_
 rintro e w9 ⟨hret, k1⟩
 have hee : e = thr code := by have h9 := HSp.out; unfold spotV at hret; rw [h9] at hret; exact hret
 subst hee
 exact ⟨rfl, Out.err rfl (HC4.out.kept k1) (FrB.kept (HK4.out.trans k1 (by simp)))⟩
set_option maxRecDepth 100000 in
set_option maxHeartbeats 8000000 in
theorem p_rename_below {w0 w : World} {B : Nat} {c : Cal} {pk v1 v2 v3 : Value} {ev : List Value} {S : Sta} (h : Cb w0 w B c pk v1 v2 v3 ev S) {d1 : Int} {t1 : ByteArray} {k1 i1 j : Nat} (hsp1 : spotR S.ino c.path = .ok (d1, t1)) (hclo : Clo S.ino) (hat1 : atR S.ino d1 = some k1) (hk1 : k1 < S.ino.length) (hi1 : i1 < (S.ino[k1]).ents.length) (hp1 : plR (S.ino[k1]).ents t1 = some i1) (hat2 : atR S.ino ((S.ino[k1]).ents[i1]).2 = some j) (hj : j < S.ino.length) {d : Int} {t : ByteArray} {k : Nat} (hsp : spotR S.ino c.path2 = .ok (d, t)) (hat : atR S.ino d = some k) (hk : k < S.ino.length) (hb : belowR c.path c.path2 = true) :
   Calls Tryz.prog 86 #[.pointer (some ⟨B, 0, none⟩)] w (Out w0 w B c pk v1 v2 v3 ev S (.error 9)) := by
 obtain ⟨W1, R, HWR, HKR, HRb⟩ := boxR w #[.int .i64 0, .int .i64 0, .int .i64 0, .bool false, .string ⟨#[]⟩, .slice none 0 0] 32
 have HC1 : Hid (Cb w0 W1 B c pk v1 v2 v3 ev S) := h.kept HKR.out
 have HRo : Hid (Off [R] v1 v2 v3 ev ∧ R ≠ B) := h.new (Nat.le_of_eq HWR.out.2)
 have HRw : Hid (w.heap.size ≤ R) := Nat.le_of_eq HWR.out.2
 have HRl : Hid (w0.heap.size ≤ R) := by have := h.k.size; rw [← HWR.out.2]; exact this
 obtain ⟨p, e1, e2, e3, hrd, f1, f3⟩ := HC1.out.rd
 have HR : Hid (Rd W1 B c pk p S) := hrd
 have HV : Hid (v1 = .slice p.a1 S.ino.length p.c1 ∧ v2 = .slice p.a2 S.opn.length p.c2 ∧ v3 = .slice p.a3 S.made.length p.c3 ∧ (∀ x, p.a1 = some x → ∃ g, x = ⟨g, 0, none⟩) ∧ (∀ x, p.a3 = some x → ∃ g, x = ⟨g, 0, none⟩)) := ⟨e1, e2, e3, f1, f3⟩
 have HBd : Hid (Bd S) := h.bd
 have HSp1 : Hid (_) := hsp1
 have HClo : Hid (_) := hclo
 have HAt1 : Hid (_) := hat1
 have HP1 : Hid (plR (S.ino[k1]).ents t1 = some i1 ∧ ∃ hi : i1 < (S.ino[k1]).ents.length, atR S.ino ((S.ino[k1]).ents[i1]).2 = some j) := ⟨hp1, hi1, hat2⟩
 have d5 := hrd.c5
 have HSp : Hid (_) := hsp
 have HAt : Hid (_) := hat
 have HBel : Hid (_) := hb
 clear h e1 e2 e3 f1 f3 hrd hsp1 hclo hat1 hp1 hat2 hsp hat hb
 go_enter Tryz.func86, Tryz.ntmps86
 go_upto_region 1 with fail
 rw [HWR.out.1, HWR.out.2]
 clear HWR
 go_wp2_with fail
 refine (p_spot HR.out HClo.out c.path).mono ?_
 rintro e ws3 ⟨hret, k1⟩
 have hee : e = .returned (.agg #[.int .i64 d1, .string t1]) := by have h9 := HSp1.out; unfold spotV at hret; rw [h9] at hret; exact hret
 subst hee
 obtain ⟨W3, Q3, HWQ, HKQ, q30, q31⟩ := box2 ws3 (.int .i64 d1) (.string t1) 120
 have HQ3 : Hid (W3.heap[Q3]? = some (.cells #[.int .i64 d1, .string t1] 120 (0, 0)) ∧ ws3.heap.size ≤ Q3) := by
   rw [← HWQ.out.1, ← HWQ.out.2]; exact ⟨Go.heap_alloc_new _ _, Nat.le_refl _⟩
 go_upto_region 2 with fail
 rw [HWQ.out.1, HWQ.out.2]
 clear HWQ
 have HKk : Hid (Kept [] W1 W3) := k1.trans HKQ.out (by simp)
 have HR3 : Hid (_) := HR.out.kept HKk.out
 have HC3 : Hid (_) := HC1.out.kept HKk.out
 have HK3 : Hid (Kept [] w W3) := HKR.out.trans HKk.out (by simp)
 have HB3 : Hid (W3.heap[R]? = _) := (HKk.out.block _ (lt_of_heap HRb.out) (by simp)).trans HRb.out
 have HQo3 : Hid (Off [Q3] v1 v2 v3 ev ∧ Q3 ≠ B) := (HC1.out.kept k1).new HQ3.out.2
 clear hret k1 HKQ
 obtain ⟨b1, o1, ae, ce, ha, -⟩ := HR3.out.sv.ino k1 hk1
 have ho1 : o1 = 0 := by
   obtain ⟨g, hg⟩ := HV.out.2.2.2.1 _ ha
   simp only [Addr.mk.injEq, and_true] at hg
   exact hg.2
 subst ho1
 have HA : Hid (p.a1 = some ⟨b1, 0, none⟩) := ha
 have HV1 : Hid (v1 = .slice (some ⟨b1, 0, none⟩) S.ino.length p.c1) := by show _ = _; rw [HV.out.1, HA.out]
 clear ha
 go_wp2_with fail
 refine (p_at_some HR3.out d1 t1 HAt1.out hk1 HP1.out HA.out).mono ?_
 rintro e w2 ⟨rfl, k2⟩
 rw [Nat.zero_add]
 have HC4 : Hid (_) := HC3.out.kept k2
 have HR4 : Hid (_) := HR3.out.kept k2
 have HK4 : Hid (Kept [] w w2) := HK3.out.trans k2 (by simp)
 have HB4 : Hid (w2.heap[R]? = _) := (k2.block _ (lt_of_heap HB3.out) (by simp)).trans HB3.out
 have HQ4 : Hid (w2.heap[Q3]? = _) := (k2.block _ (lt_of_heap HQ3.out.1) (by simp)).trans HQ3.out.1
 clear k2 q30 q31
 go_wp2_with fail
 refine (p_if_no 1 w2).mono ?_
 rintro e w9 ⟨rfl, hw⟩
 have hw2 := hw.symm
 subst hw2
 have d6 := HR4.out.c6
 go_wp2_with fail
 refine (p_spot HR4.out HClo.out c.path2).mono ?_
 rintro e ws5 ⟨hret, k1⟩
 have hee : e = .returned (.agg #[.int .i64 d, .string t]) := by have h9 := HSp.out; unfold spotV at hret; rw [h9] at hret; exact hret
 subst hee
 obtain ⟨W5, Q5, HWQ, HKQ, q50, q51⟩ := box2 ws5 (.int .i64 d) (.string t) 120
 have HQ5 : Hid (W5.heap[Q5]? = some (.cells #[.int .i64 d, .string t] 120 (0, 0)) ∧ ws5.heap.size ≤ Q5) := by
   rw [← HWQ.out.1, ← HWQ.out.2]; exact ⟨Go.heap_alloc_new _ _, Nat.le_refl _⟩
 go_upto_region 5 with fail
 rw [HWQ.out.1, HWQ.out.2]
 clear HWQ
 have HKk : Hid (Kept [] w2 W5) := k1.trans HKQ.out (by simp)
 have HR5 : Hid (_) := HR4.out.kept HKk.out
 have HC5 : Hid (_) := HC4.out.kept HKk.out
 have HK5 : Hid (Kept [] w W5) := HK4.out.trans HKk.out (by simp)
 have HB5 : Hid (W5.heap[R]? = _) := (HKk.out.block _ (lt_of_heap HB4.out) (by simp)).trans HB4.out
 have HQo5 : Hid (Off [Q5] v1 v2 v3 ev ∧ Q5 ≠ B) := (HC4.out.kept k1).new HQ5.out.2
 clear hret k1 HKQ
 have HQ6 : Hid (W5.heap[Q3]? = _) := (HKk.out.block _ (lt_of_heap HQ4.out) (by simp)).trans HQ4.out
 have HSb : Hid (W5.cell? ⟨B, 5, none⟩ = some (.string c.path) ∧ W5.cell? ⟨B, 6, none⟩ = some (.string c.path2)) := ⟨HR5.out.c5, HR5.out.c6⟩
 clear q50 q51 d6
 refine wp_region_held_drew (S := fun w' => w'.cell? ⟨B, 5, none⟩ = some (.string c.path) ∧ w'.cell? ⟨B, 6, none⟩ = some (.string c.path2)) (by kernel_rfl) ?_ (fun hHeld => ?_)
 · exact HSb.out
 refine wpAnyH_take (i := 0) (v := ?vp0) rfl (by kernel_rfl) (by kernel_rfl) (by kernel_rfl) (fun _ _ _ h => h) (Or.inl ⟨by rfl, ?hyp0⟩) (by assumption) ?_
 case hyp0 =>
   intro w hSw
   (try dsimp only at hSw)
   go_simp
   try with_reducible rfl
 try simp only [Act.put, lz0, lz1, lz2, lz3, lz4, lz5]
 refine wpAnyH_take (i := 1) (v := ?vp1) rfl (by kernel_rfl) (by kernel_rfl) (by kernel_rfl) (fun _ _ _ h => h) (Or.inl ⟨by rfl, ?hyp1⟩) (by assumption) ?_
 case hyp1 =>
   intro w hSw
   (try dsimp only at hSw)
   go_simp
   try with_reducible rfl
 try simp only [Act.put, lz0, lz1, lz2, lz3, lz4, lz5]
 refine wpAnyH_take (i := 2) (v := ?vp2) rfl (by kernel_rfl) (by kernel_rfl) (by kernel_rfl) (fun _ _ _ h => h) (Or.inl ⟨by rfl, ?hyp2⟩) (by assumption) ?_
 case hyp2 =>
   intro w hSw
   (try dsimp only at hSw)
   go_simp
   try with_reducible rfl
 try simp only [Act.put, lz0, lz1, lz2, lz3, lz4, lz5]
 refine wpAnyH_take (i := 3) (v := ?vp3) rfl (by kernel_rfl) (by kernel_rfl) (by kernel_rfl) (fun _ _ _ h => h) (Or.inl ⟨by rfl, ?hyp3⟩) (by assumption) ?_
 case hyp3 =>
   intro w hSw
   (try dsimp only at hSw)
   go_simp
   try with_reducible rfl
 try simp only [Act.put, lz0, lz1, lz2, lz3, lz4, lz5]
 refine wpAnyH_take (i := 4) (v := ?vp4) rfl (by kernel_rfl) (by kernel_rfl) (by kernel_rfl) (fun _ _ _ h => h) (Or.inl ⟨by rfl, ?hyp4⟩) (by assumption) ?_
 case hyp4 =>
   intro w hSw
   (try dsimp only at hSw)
   go_simp
   try with_reducible rfl
 try simp only [Act.put, lz0, lz1, lz2, lz3, lz4, lz5]
 refine wpAnyH_take (i := 5) (v := ?vp5) rfl (by kernel_rfl) (by kernel_rfl) (by kernel_rfl) (fun _ _ _ h => h) (Or.inl ⟨by rfl, ?hyp5⟩) (by assumption) ?_
 case hyp5 =>
   intro w hSw
   (try dsimp only at hSw)
   go_simp
   try with_reducible rfl
 try simp only [Act.put, lz0, lz1, lz2, lz3, lz4, lz5]
 refine wpAnyH_take (i := 6) (v := ?vp6) rfl (by kernel_rfl) (by kernel_rfl) (by kernel_rfl) (fun _ _ _ h => h) (Or.inl ⟨by rfl, ?hyp6⟩) (by assumption) ?_
 case hyp6 =>
   intro w hSw
   (try dsimp only at hSw)
   go_simp
   try with_reducible rfl
 try simp only [Act.put, lz0, lz1, lz2, lz3, lz4, lz5]
 refine wpAnyH_take (i := 7) (v := ?vp7) rfl (by kernel_rfl) (by kernel_rfl) (by kernel_rfl) (fun _ _ _ h => h) (Or.inl ⟨by rfl, ?hyp7⟩) (by assumption) ?_
 case hyp7 =>
   intro w hSw
   (try dsimp only at hSw)
   go_simp
   try with_reducible rfl
 try simp only [Act.put, lz0, lz1, lz2, lz3, lz4, lz5]
 refine wpAnyH_take (i := 8) (v := ?vp8) rfl (by kernel_rfl) (by kernel_rfl) (by kernel_rfl) (fun _ _ _ h => h) (Or.inl ⟨by rfl, ?hyp8⟩) (by assumption) ?_
 case hyp8 =>
   intro w hSw
   (try dsimp only at hSw)
   go_simp
   try with_reducible rfl
 try simp only [Act.put, lz0, lz1, lz2, lz3, lz4, lz5]
 refine wpAnyH_take (i := 9) (v := ?vp9) rfl (by kernel_rfl) (by kernel_rfl) (by kernel_rfl) (fun _ _ _ h => h) (Or.inl ⟨by rfl, ?hyp9⟩) (by assumption) ?_
 case hyp9 =>
   intro w hSw
   (try dsimp only at hSw)
   go_simp
   try with_reducible rfl
 try simp only [Act.put, lz0, lz1, lz2, lz3, lz4, lz5]
 refine wpAnyH_ready (rs := [10]) (by kernel_rfl) (by simp) ?_
 refine AllReadyH.cons rfl (fun K hK => ?_) AllReadyH.nil
 go_simp
 refine (p_below c.path c.path2 _ (HR5.out.tab.kept (Kept.refl _ _).drew)).mono ?_
 rintro e w6 ⟨rfl, k6⟩
 rw [HBel.out]
 have HK6 : Hid (Kept [] W5 w6) := (Kept.refl _ _).drew.trans k6 (by simp)
 have z6 := (⟨HK6.out.cell (HSb.out.1) (by simp), HK6.out.cell (HSb.out.2) (by simp)⟩ : w6.cell? ⟨B, 5, none⟩ = some (.string c.path) ∧ w6.cell? ⟨B, 6, none⟩ = some (.string c.path2))
 clear k6
 go_wp2_with fail
 refine hK.out _ _ ?_ (fun hHeld => ?_)
 · exact z6
 clear hK K
 try simp only [Act.put, lz0, lz1, lz2, lz3, lz4, lz5]
 refine wpAnyH_ready (rs := [11]) (by kernel_rfl) (by simp) ?_
 refine AllReadyH.cons rfl (fun K hK => ?_) AllReadyH.nil
 go_simp
 refine (p_if 9 (by decide) _).mono ?_
 rintro e w9 ⟨rfl, hw⟩
 subst hw
 exact ⟨rfl, Out.err rfl (HC5.out.kept HK6.out) (FrB.kept (HK5.out.trans HK6.out (by simp)))⟩
set_option maxRecDepth 100000 in
set_option maxHeartbeats 8000000 in
theorem p_rename_there {w0 w : World} {B : Nat} {c : Cal} {pk v1 v2 v3 : Value} {ev : List Value} {S : Sta} (h : Cb w0 w B c pk v1 v2 v3 ev S) {d1 : Int} {t1 : ByteArray} {k1 i1 j : Nat} (hsp1 : spotR S.ino c.path = .ok (d1, t1)) (hclo : Clo S.ino) (hat1 : atR S.ino d1 = some k1) (hk1 : k1 < S.ino.length) (hi1 : i1 < (S.ino[k1]).ents.length) (hp1 : plR (S.ino[k1]).ents t1 = some i1) (hat2 : atR S.ino ((S.ino[k1]).ents[i1]).2 = some j) (hj : j < S.ino.length) {d : Int} {t : ByteArray} {k : Nat} (hsp : spotR S.ino c.path2 = .ok (d, t)) (hat : atR S.ino d = some k) (hk : k < S.ino.length) (hb : belowR c.path c.path2 = false) {i j2 : Nat} (hp : plR (S.ino[k]).ents t = some i ∧ ∃ hi : i < (S.ino[k]).ents.length, atR S.ino ((S.ino[k]).ents[i]).2 = some j2) :
   Calls Tryz.prog 86 #[.pointer (some ⟨B, 0, none⟩)] w (Out w0 w B c pk v1 v2 v3 ev S (.error 2)) := by
 obtain ⟨W1, R, HWR, HKR, HRb⟩ := boxR w #[.int .i64 0, .int .i64 0, .int .i64 0, .bool false, .string ⟨#[]⟩, .slice none 0 0] 32
 have HC1 : Hid (Cb w0 W1 B c pk v1 v2 v3 ev S) := h.kept HKR.out
 have HRo : Hid (Off [R] v1 v2 v3 ev ∧ R ≠ B) := h.new (Nat.le_of_eq HWR.out.2)
 have HRw : Hid (w.heap.size ≤ R) := Nat.le_of_eq HWR.out.2
 have HRl : Hid (w0.heap.size ≤ R) := by have := h.k.size; rw [← HWR.out.2]; exact this
 obtain ⟨p, e1, e2, e3, hrd, f1, f3⟩ := HC1.out.rd
 have HR : Hid (Rd W1 B c pk p S) := hrd
 have HV : Hid (v1 = .slice p.a1 S.ino.length p.c1 ∧ v2 = .slice p.a2 S.opn.length p.c2 ∧ v3 = .slice p.a3 S.made.length p.c3 ∧ (∀ x, p.a1 = some x → ∃ g, x = ⟨g, 0, none⟩) ∧ (∀ x, p.a3 = some x → ∃ g, x = ⟨g, 0, none⟩)) := ⟨e1, e2, e3, f1, f3⟩
 have HBd : Hid (Bd S) := h.bd
 have HSp1 : Hid (_) := hsp1
 have HClo : Hid (_) := hclo
 have HAt1 : Hid (_) := hat1
 have HP1 : Hid (plR (S.ino[k1]).ents t1 = some i1 ∧ ∃ hi : i1 < (S.ino[k1]).ents.length, atR S.ino ((S.ino[k1]).ents[i1]).2 = some j) := ⟨hp1, hi1, hat2⟩
 have d5 := hrd.c5
 have HSp : Hid (_) := hsp
 have HAt : Hid (_) := hat
 have HBel : Hid (_) := hb
 have HP : Hid (_) := hp
 clear h e1 e2 e3 f1 f3 hrd hsp1 hclo hat1 hp1 hat2 hsp hat hb hp
 go_enter Tryz.func86, Tryz.ntmps86
 go_upto_region 1 with fail
 rw [HWR.out.1, HWR.out.2]
 clear HWR
 go_wp2_with fail
 refine (p_spot HR.out HClo.out c.path).mono ?_
 rintro e ws3 ⟨hret, k1⟩
 have hee : e = .returned (.agg #[.int .i64 d1, .string t1]) := by have h9 := HSp1.out; unfold spotV at hret; rw [h9] at hret; exact hret
 subst hee
 obtain ⟨W3, Q3, HWQ, HKQ, q30, q31⟩ := box2 ws3 (.int .i64 d1) (.string t1) 120
 have HQ3 : Hid (W3.heap[Q3]? = some (.cells #[.int .i64 d1, .string t1] 120 (0, 0)) ∧ ws3.heap.size ≤ Q3) := by
   rw [← HWQ.out.1, ← HWQ.out.2]; exact ⟨Go.heap_alloc_new _ _, Nat.le_refl _⟩
 go_upto_region 2 with fail
 rw [HWQ.out.1, HWQ.out.2]
 clear HWQ
 have HKk : Hid (Kept [] W1 W3) := k1.trans HKQ.out (by simp)
 have HR3 : Hid (_) := HR.out.kept HKk.out
 have HC3 : Hid (_) := HC1.out.kept HKk.out
 have HK3 : Hid (Kept [] w W3) := HKR.out.trans HKk.out (by simp)
 have HB3 : Hid (W3.heap[R]? = _) := (HKk.out.block _ (lt_of_heap HRb.out) (by simp)).trans HRb.out
 have HQo3 : Hid (Off [Q3] v1 v2 v3 ev ∧ Q3 ≠ B) := (HC1.out.kept k1).new HQ3.out.2
 clear hret k1 HKQ
 obtain ⟨b1, o1, ae, ce, ha, -⟩ := HR3.out.sv.ino k1 hk1
 have ho1 : o1 = 0 := by
   obtain ⟨g, hg⟩ := HV.out.2.2.2.1 _ ha
   simp only [Addr.mk.injEq, and_true] at hg
   exact hg.2
 subst ho1
 have HA : Hid (p.a1 = some ⟨b1, 0, none⟩) := ha
 have HV1 : Hid (v1 = .slice (some ⟨b1, 0, none⟩) S.ino.length p.c1) := by show _ = _; rw [HV.out.1, HA.out]
 clear ha
 go_wp2_with fail
 refine (p_at_some HR3.out d1 t1 HAt1.out hk1 HP1.out HA.out).mono ?_
 rintro e w2 ⟨rfl, k2⟩
 rw [Nat.zero_add]
 have HC4 : Hid (_) := HC3.out.kept k2
 have HR4 : Hid (_) := HR3.out.kept k2
 have HK4 : Hid (Kept [] w w2) := HK3.out.trans k2 (by simp)
 have HB4 : Hid (w2.heap[R]? = _) := (k2.block _ (lt_of_heap HB3.out) (by simp)).trans HB3.out
 have HQ4 : Hid (w2.heap[Q3]? = _) := (k2.block _ (lt_of_heap HQ3.out.1) (by simp)).trans HQ3.out.1
 clear k2 q30 q31
 go_wp2_with fail
 refine (p_if_no 1 w2).mono ?_
 rintro e w9 ⟨rfl, hw⟩
 have hw2 := hw.symm
 subst hw2
 have d6 := HR4.out.c6
 go_wp2_with fail
 refine (p_spot HR4.out HClo.out c.path2).mono ?_
 rintro e ws5 ⟨hret, k1⟩
 have hee : e = .returned (.agg #[.int .i64 d, .string t]) := by have h9 := HSp.out; unfold spotV at hret; rw [h9] at hret; exact hret
 subst hee
 obtain ⟨W5, Q5, HWQ, HKQ, q50, q51⟩ := box2 ws5 (.int .i64 d) (.string t) 120
 have HQ5 : Hid (W5.heap[Q5]? = some (.cells #[.int .i64 d, .string t] 120 (0, 0)) ∧ ws5.heap.size ≤ Q5) := by
   rw [← HWQ.out.1, ← HWQ.out.2]; exact ⟨Go.heap_alloc_new _ _, Nat.le_refl _⟩
 go_upto_region 5 with fail
 rw [HWQ.out.1, HWQ.out.2]
 clear HWQ
 have HKk : Hid (Kept [] w2 W5) := k1.trans HKQ.out (by simp)
 have HR5 : Hid (_) := HR4.out.kept HKk.out
 have HC5 : Hid (_) := HC4.out.kept HKk.out
 have HK5 : Hid (Kept [] w W5) := HK4.out.trans HKk.out (by simp)
 have HB5 : Hid (W5.heap[R]? = _) := (HKk.out.block _ (lt_of_heap HB4.out) (by simp)).trans HB4.out
 have HQo5 : Hid (Off [Q5] v1 v2 v3 ev ∧ Q5 ≠ B) := (HC4.out.kept k1).new HQ5.out.2
 clear hret k1 HKQ
 have HQ6 : Hid (W5.heap[Q3]? = _) := (HKk.out.block _ (lt_of_heap HQ4.out) (by simp)).trans HQ4.out
 have HSb : Hid (W5.cell? ⟨B, 5, none⟩ = some (.string c.path) ∧ W5.cell? ⟨B, 6, none⟩ = some (.string c.path2)) := ⟨HR5.out.c5, HR5.out.c6⟩
 clear q50 q51 d6
 refine wp_region_held_drew (S := fun w' => w'.cell? ⟨B, 5, none⟩ = some (.string c.path) ∧ w'.cell? ⟨B, 6, none⟩ = some (.string c.path2)) (by kernel_rfl) ?_ (fun hHeld => ?_)
 · exact HSb.out
 refine wpAnyH_take (i := 0) (v := ?vq0) rfl (by kernel_rfl) (by kernel_rfl) (by kernel_rfl) (fun _ _ _ h => h) (Or.inl ⟨by rfl, ?hyq0⟩) (by assumption) ?_
 case hyq0 =>
   intro w hSw
   (try dsimp only at hSw)
   go_simp
   try with_reducible rfl
 try simp only [Act.put, lz0, lz1, lz2, lz3, lz4, lz5]
 refine wpAnyH_take (i := 1) (v := ?vq1) rfl (by kernel_rfl) (by kernel_rfl) (by kernel_rfl) (fun _ _ _ h => h) (Or.inl ⟨by rfl, ?hyq1⟩) (by assumption) ?_
 case hyq1 =>
   intro w hSw
   (try dsimp only at hSw)
   go_simp
   try with_reducible rfl
 try simp only [Act.put, lz0, lz1, lz2, lz3, lz4, lz5]
 refine wpAnyH_take (i := 2) (v := ?vq2) rfl (by kernel_rfl) (by kernel_rfl) (by kernel_rfl) (fun _ _ _ h => h) (Or.inl ⟨by rfl, ?hyq2⟩) (by assumption) ?_
 case hyq2 =>
   intro w hSw
   (try dsimp only at hSw)
   go_simp
   try with_reducible rfl
 try simp only [Act.put, lz0, lz1, lz2, lz3, lz4, lz5]
 refine wpAnyH_take (i := 3) (v := ?vq3) rfl (by kernel_rfl) (by kernel_rfl) (by kernel_rfl) (fun _ _ _ h => h) (Or.inl ⟨by rfl, ?hyq3⟩) (by assumption) ?_
 case hyq3 =>
   intro w hSw
   (try dsimp only at hSw)
   go_simp
   try with_reducible rfl
 try simp only [Act.put, lz0, lz1, lz2, lz3, lz4, lz5]
 refine wpAnyH_take (i := 4) (v := ?vq4) rfl (by kernel_rfl) (by kernel_rfl) (by kernel_rfl) (fun _ _ _ h => h) (Or.inl ⟨by rfl, ?hyq4⟩) (by assumption) ?_
 case hyq4 =>
   intro w hSw
   (try dsimp only at hSw)
   go_simp
   try with_reducible rfl
 try simp only [Act.put, lz0, lz1, lz2, lz3, lz4, lz5]
 refine wpAnyH_take (i := 5) (v := ?vq5) rfl (by kernel_rfl) (by kernel_rfl) (by kernel_rfl) (fun _ _ _ h => h) (Or.inl ⟨by rfl, ?hyq5⟩) (by assumption) ?_
 case hyq5 =>
   intro w hSw
   (try dsimp only at hSw)
   go_simp
   try with_reducible rfl
 try simp only [Act.put, lz0, lz1, lz2, lz3, lz4, lz5]
 refine wpAnyH_take (i := 6) (v := ?vq6) rfl (by kernel_rfl) (by kernel_rfl) (by kernel_rfl) (fun _ _ _ h => h) (Or.inl ⟨by rfl, ?hyq6⟩) (by assumption) ?_
 case hyq6 =>
   intro w hSw
   (try dsimp only at hSw)
   go_simp
   try with_reducible rfl
 try simp only [Act.put, lz0, lz1, lz2, lz3, lz4, lz5]
 refine wpAnyH_take (i := 7) (v := ?vq7) rfl (by kernel_rfl) (by kernel_rfl) (by kernel_rfl) (fun _ _ _ h => h) (Or.inl ⟨by rfl, ?hyq7⟩) (by assumption) ?_
 case hyq7 =>
   intro w hSw
   (try dsimp only at hSw)
   go_simp
   try with_reducible rfl
 try simp only [Act.put, lz0, lz1, lz2, lz3, lz4, lz5]
 refine wpAnyH_take (i := 8) (v := ?vq8) rfl (by kernel_rfl) (by kernel_rfl) (by kernel_rfl) (fun _ _ _ h => h) (Or.inl ⟨by rfl, ?hyq8⟩) (by assumption) ?_
 case hyq8 =>
   intro w hSw
   (try dsimp only at hSw)
   go_simp
   try with_reducible rfl
 try simp only [Act.put, lz0, lz1, lz2, lz3, lz4, lz5]
 refine wpAnyH_take (i := 9) (v := ?vq9) rfl (by kernel_rfl) (by kernel_rfl) (by kernel_rfl) (fun _ _ _ h => h) (Or.inl ⟨by rfl, ?hyq9⟩) (by assumption) ?_
 case hyq9 =>
   intro w hSw
   (try dsimp only at hSw)
   go_simp
   try with_reducible rfl
 try simp only [Act.put, lz0, lz1, lz2, lz3, lz4, lz5]
 refine wpAnyH_ready (rs := [10]) (by kernel_rfl) (by simp) ?_
 refine AllReadyH.cons rfl (fun K hK => ?_) AllReadyH.nil
 go_simp
 refine (p_below c.path c.path2 _ (HR5.out.tab.kept (Kept.refl _ _).drew)).mono ?_
 rintro e w6 ⟨rfl, k6⟩
 rw [HBel.out]
 have HK6 : Hid (Kept [] W5 w6) := (Kept.refl _ _).drew.trans k6 (by simp)
 have z6 := (⟨HK6.out.cell (HSb.out.1) (by simp), HK6.out.cell (HSb.out.2) (by simp)⟩ : w6.cell? ⟨B, 5, none⟩ = some (.string c.path) ∧ w6.cell? ⟨B, 6, none⟩ = some (.string c.path2))
 clear k6
 go_wp2_with fail
 refine hK.out _ _ ?_ (fun hHeld => ?_)
 · exact z6
 clear hK K
 try simp only [Act.put, lz0, lz1, lz2, lz3, lz4, lz5]
 refine wpAnyH_ready (rs := [11]) (by kernel_rfl) (by simp) ?_
 refine AllReadyH.cons rfl (fun K hK => ?_) AllReadyH.nil
 go_simp
 refine (p_if_no 9 _).mono ?_
 rintro e w7 ⟨rfl, hw⟩
 subst hw
 go_wp2_with fail
 refine hK.out _ _ ?_ (fun hHeld => ?_)
 · exact z6
 clear hK K
 try simp only [Act.put, lz0, lz1, lz2, lz3, lz4, lz5]
 refine wpAnyH_done (by kernel_rfl) ?_ _
 have HC7 : Hid (_) := HC5.out.kept HK6.out
 have HR7 : Hid (_) := HR5.out.kept HK6.out
 have HK7 : Hid (Kept [] w w7) := HK5.out.trans HK6.out (by simp)
 have HB7 : Hid (w7.heap[R]? = _) := (HK6.out.block _ (lt_of_heap HB5.out) (by simp)).trans HB5.out
 have HQ7 : Hid (w7.heap[Q5]? = _) := (HK6.out.block _ (lt_of_heap HQ5.out.1) (by simp)).trans HQ5.out.1
 have HQf : Hid (w7.heap[Q3]? = _) := (HK6.out.block _ (lt_of_heap HQ6.out) (by simp)).trans HQ6.out
 have q0 : w7.cell? ⟨Q5, 0, none⟩ = some (.int .i64 d) := cellB HQ7.out
 have q1 : w7.cell? ⟨Q5, 1, none⟩ = some (.string t) := cellB HQ7.out
 clear z6 hHeld HSb
 go_wp2_with fail
 refine (p_at_some HR7.out d t HAt.out hk HP.out HA.out).mono ?_
 rintro e w8 ⟨rfl, k8⟩
 have HC8 : Hid (_) := HC7.out.kept k8
 have HK8 : Hid (Kept [] w w8) := HK7.out.trans k8 (by simp)
 clear k8
 go_wp2_with fail
 refine (p_if 2 (by decide) w8).mono ?_
 rintro e w9 ⟨rfl, hw⟩
 subst hw
 exact ⟨rfl, Out.err rfl HC8.out (FrB.kept HK8.out)⟩
set_option maxRecDepth 100000 in
set_option maxHeartbeats 8000000 in
theorem p_rename_full {w0 w : World} {B : Nat} {c : Cal} {pk v1 v2 v3 : Value} {ev : List Value} {S : Sta} (h : Cb w0 w B c pk v1 v2 v3 ev S) {d1 : Int} {t1 : ByteArray} {k1 i1 j : Nat} (hsp1 : spotR S.ino c.path = .ok (d1, t1)) (hclo : Clo S.ino) (hat1 : atR S.ino d1 = some k1) (hk1 : k1 < S.ino.length) (hi1 : i1 < (S.ino[k1]).ents.length) (hp1 : plR (S.ino[k1]).ents t1 = some i1) (hat2 : atR S.ino ((S.ino[k1]).ents[i1]).2 = some j) (hj : j < S.ino.length) {d : Int} {t : ByteArray} {k : Nat} (hsp : spotR S.ino c.path2 = .ok (d, t)) (hat : atR S.ino d = some k) (hk : k < S.ino.length) (hb : belowR c.path c.path2 = false) (hp : plR (S.ino[k]).ents t = none) (hfu : 4 ≤ nFull (S.ino[k]).ents d t d1 t1) :
   Calls Tryz.prog 86 #[.pointer (some ⟨B, 0, none⟩)] w (Out w0 w B c pk v1 v2 v3 ev S (.error 5)) := by
 obtain ⟨W1, R, HWR, HKR, HRb⟩ := boxR w #[.int .i64 0, .int .i64 0, .int .i64 0, .bool false, .string ⟨#[]⟩, .slice none 0 0] 32
 have HC1 : Hid (Cb w0 W1 B c pk v1 v2 v3 ev S) := h.kept HKR.out
 have HRo : Hid (Off [R] v1 v2 v3 ev ∧ R ≠ B) := h.new (Nat.le_of_eq HWR.out.2)
 have HRw : Hid (w.heap.size ≤ R) := Nat.le_of_eq HWR.out.2
 have HRl : Hid (w0.heap.size ≤ R) := by have := h.k.size; rw [← HWR.out.2]; exact this
 obtain ⟨p, e1, e2, e3, hrd, f1, f3⟩ := HC1.out.rd
 have HR : Hid (Rd W1 B c pk p S) := hrd
 have HV : Hid (v1 = .slice p.a1 S.ino.length p.c1 ∧ v2 = .slice p.a2 S.opn.length p.c2 ∧ v3 = .slice p.a3 S.made.length p.c3 ∧ (∀ x, p.a1 = some x → ∃ g, x = ⟨g, 0, none⟩) ∧ (∀ x, p.a3 = some x → ∃ g, x = ⟨g, 0, none⟩)) := ⟨e1, e2, e3, f1, f3⟩
 have HBd : Hid (Bd S) := h.bd
 have HSp1 : Hid (_) := hsp1
 have HClo : Hid (_) := hclo
 have HAt1 : Hid (_) := hat1
 have HP1 : Hid (plR (S.ino[k1]).ents t1 = some i1 ∧ ∃ hi : i1 < (S.ino[k1]).ents.length, atR S.ino ((S.ino[k1]).ents[i1]).2 = some j) := ⟨hp1, hi1, hat2⟩
 have d5 := hrd.c5
 have HSp : Hid (_) := hsp
 have HAt : Hid (_) := hat
 have HBel : Hid (_) := hb
 have HP : Hid (_) := hp
 have HFu : Hid (_) := decide_eq_true hfu
 clear h e1 e2 e3 f1 f3 hrd hsp1 hclo hat1 hp1 hat2 hsp hat hb hp hfu
 go_enter Tryz.func86, Tryz.ntmps86
 go_upto_region 1 with fail
 rw [HWR.out.1, HWR.out.2]
 clear HWR
 go_wp2_with fail
 refine (p_spot HR.out HClo.out c.path).mono ?_
 rintro e ws3 ⟨hret, k1⟩
 have hee : e = .returned (.agg #[.int .i64 d1, .string t1]) := by have h9 := HSp1.out; unfold spotV at hret; rw [h9] at hret; exact hret
 subst hee
 obtain ⟨W3, Q3, HWQ, HKQ, q30, q31⟩ := box2 ws3 (.int .i64 d1) (.string t1) 120
 have HQ3 : Hid (W3.heap[Q3]? = some (.cells #[.int .i64 d1, .string t1] 120 (0, 0)) ∧ ws3.heap.size ≤ Q3) := by
   rw [← HWQ.out.1, ← HWQ.out.2]; exact ⟨Go.heap_alloc_new _ _, Nat.le_refl _⟩
 go_upto_region 2 with fail
 rw [HWQ.out.1, HWQ.out.2]
 clear HWQ
 have HKk : Hid (Kept [] W1 W3) := k1.trans HKQ.out (by simp)
 have HR3 : Hid (_) := HR.out.kept HKk.out
 have HC3 : Hid (_) := HC1.out.kept HKk.out
 have HK3 : Hid (Kept [] w W3) := HKR.out.trans HKk.out (by simp)
 have HB3 : Hid (W3.heap[R]? = _) := (HKk.out.block _ (lt_of_heap HRb.out) (by simp)).trans HRb.out
 have HQo3 : Hid (Off [Q3] v1 v2 v3 ev ∧ Q3 ≠ B) := (HC1.out.kept k1).new HQ3.out.2
 clear hret k1 HKQ
 obtain ⟨b1, o1, ae, ce, ha, -⟩ := HR3.out.sv.ino k1 hk1
 have ho1 : o1 = 0 := by
   obtain ⟨g, hg⟩ := HV.out.2.2.2.1 _ ha
   simp only [Addr.mk.injEq, and_true] at hg
   exact hg.2
 subst ho1
 have HA : Hid (p.a1 = some ⟨b1, 0, none⟩) := ha
 have HV1 : Hid (v1 = .slice (some ⟨b1, 0, none⟩) S.ino.length p.c1) := by show _ = _; rw [HV.out.1, HA.out]
 clear ha
 go_wp2_with fail
 refine (p_at_some HR3.out d1 t1 HAt1.out hk1 HP1.out HA.out).mono ?_
 rintro e w2 ⟨rfl, k2⟩
 rw [Nat.zero_add]
 have HC4 : Hid (_) := HC3.out.kept k2
 have HR4 : Hid (_) := HR3.out.kept k2
 have HK4 : Hid (Kept [] w w2) := HK3.out.trans k2 (by simp)
 have HB4 : Hid (w2.heap[R]? = _) := (k2.block _ (lt_of_heap HB3.out) (by simp)).trans HB3.out
 have HQ4 : Hid (w2.heap[Q3]? = _) := (k2.block _ (lt_of_heap HQ3.out.1) (by simp)).trans HQ3.out.1
 clear k2 q30 q31
 go_wp2_with fail
 refine (p_if_no 1 w2).mono ?_
 rintro e w9 ⟨rfl, hw⟩
 have hw2 := hw.symm
 subst hw2
 have d6 := HR4.out.c6
 go_wp2_with fail
 refine (p_spot HR4.out HClo.out c.path2).mono ?_
 rintro e ws5 ⟨hret, k1⟩
 have hee : e = .returned (.agg #[.int .i64 d, .string t]) := by have h9 := HSp.out; unfold spotV at hret; rw [h9] at hret; exact hret
 subst hee
 obtain ⟨W5, Q5, HWQ, HKQ, q50, q51⟩ := box2 ws5 (.int .i64 d) (.string t) 120
 have HQ5 : Hid (W5.heap[Q5]? = some (.cells #[.int .i64 d, .string t] 120 (0, 0)) ∧ ws5.heap.size ≤ Q5) := by
   rw [← HWQ.out.1, ← HWQ.out.2]; exact ⟨Go.heap_alloc_new _ _, Nat.le_refl _⟩
 go_upto_region 5 with fail
 rw [HWQ.out.1, HWQ.out.2]
 clear HWQ
 have HKk : Hid (Kept [] w2 W5) := k1.trans HKQ.out (by simp)
 have HR5 : Hid (_) := HR4.out.kept HKk.out
 have HC5 : Hid (_) := HC4.out.kept HKk.out
 have HK5 : Hid (Kept [] w W5) := HK4.out.trans HKk.out (by simp)
 have HB5 : Hid (W5.heap[R]? = _) := (HKk.out.block _ (lt_of_heap HB4.out) (by simp)).trans HB4.out
 have HQo5 : Hid (Off [Q5] v1 v2 v3 ev ∧ Q5 ≠ B) := (HC4.out.kept k1).new HQ5.out.2
 clear hret k1 HKQ
 have HQ6 : Hid (W5.heap[Q3]? = _) := (HKk.out.block _ (lt_of_heap HQ4.out) (by simp)).trans HQ4.out
 have HSb : Hid (W5.cell? ⟨B, 5, none⟩ = some (.string c.path) ∧ W5.cell? ⟨B, 6, none⟩ = some (.string c.path2)) := ⟨HR5.out.c5, HR5.out.c6⟩
 clear q50 q51 d6
 refine wp_region_held_drew (S := fun w' => w'.cell? ⟨B, 5, none⟩ = some (.string c.path) ∧ w'.cell? ⟨B, 6, none⟩ = some (.string c.path2)) (by kernel_rfl) ?_ (fun hHeld => ?_)
 · exact HSb.out
 refine wpAnyH_take (i := 0) (v := ?vq0) rfl (by kernel_rfl) (by kernel_rfl) (by kernel_rfl) (fun _ _ _ h => h) (Or.inl ⟨by rfl, ?hyq0⟩) (by assumption) ?_
 case hyq0 =>
   intro w hSw
   (try dsimp only at hSw)
   go_simp
   try with_reducible rfl
 try simp only [Act.put, lz0, lz1, lz2, lz3, lz4, lz5]
 refine wpAnyH_take (i := 1) (v := ?vq1) rfl (by kernel_rfl) (by kernel_rfl) (by kernel_rfl) (fun _ _ _ h => h) (Or.inl ⟨by rfl, ?hyq1⟩) (by assumption) ?_
 case hyq1 =>
   intro w hSw
   (try dsimp only at hSw)
   go_simp
   try with_reducible rfl
 try simp only [Act.put, lz0, lz1, lz2, lz3, lz4, lz5]
 refine wpAnyH_take (i := 2) (v := ?vq2) rfl (by kernel_rfl) (by kernel_rfl) (by kernel_rfl) (fun _ _ _ h => h) (Or.inl ⟨by rfl, ?hyq2⟩) (by assumption) ?_
 case hyq2 =>
   intro w hSw
   (try dsimp only at hSw)
   go_simp
   try with_reducible rfl
 try simp only [Act.put, lz0, lz1, lz2, lz3, lz4, lz5]
 refine wpAnyH_take (i := 3) (v := ?vq3) rfl (by kernel_rfl) (by kernel_rfl) (by kernel_rfl) (fun _ _ _ h => h) (Or.inl ⟨by rfl, ?hyq3⟩) (by assumption) ?_
 case hyq3 =>
   intro w hSw
   (try dsimp only at hSw)
   go_simp
   try with_reducible rfl
 try simp only [Act.put, lz0, lz1, lz2, lz3, lz4, lz5]
 refine wpAnyH_take (i := 4) (v := ?vq4) rfl (by kernel_rfl) (by kernel_rfl) (by kernel_rfl) (fun _ _ _ h => h) (Or.inl ⟨by rfl, ?hyq4⟩) (by assumption) ?_
 case hyq4 =>
   intro w hSw
   (try dsimp only at hSw)
   go_simp
   try with_reducible rfl
 try simp only [Act.put, lz0, lz1, lz2, lz3, lz4, lz5]
 refine wpAnyH_take (i := 5) (v := ?vq5) rfl (by kernel_rfl) (by kernel_rfl) (by kernel_rfl) (fun _ _ _ h => h) (Or.inl ⟨by rfl, ?hyq5⟩) (by assumption) ?_
 case hyq5 =>
   intro w hSw
   (try dsimp only at hSw)
   go_simp
   try with_reducible rfl
 try simp only [Act.put, lz0, lz1, lz2, lz3, lz4, lz5]
 refine wpAnyH_take (i := 6) (v := ?vq6) rfl (by kernel_rfl) (by kernel_rfl) (by kernel_rfl) (fun _ _ _ h => h) (Or.inl ⟨by rfl, ?hyq6⟩) (by assumption) ?_
 case hyq6 =>
   intro w hSw
   (try dsimp only at hSw)
   go_simp
   try with_reducible rfl
 try simp only [Act.put, lz0, lz1, lz2, lz3, lz4, lz5]
 refine wpAnyH_take (i := 7) (v := ?vq7) rfl (by kernel_rfl) (by kernel_rfl) (by kernel_rfl) (fun _ _ _ h => h) (Or.inl ⟨by rfl, ?hyq7⟩) (by assumption) ?_
 case hyq7 =>
   intro w hSw
   (try dsimp only at hSw)
   go_simp
   try with_reducible rfl
 try simp only [Act.put, lz0, lz1, lz2, lz3, lz4, lz5]
 refine wpAnyH_take (i := 8) (v := ?vq8) rfl (by kernel_rfl) (by kernel_rfl) (by kernel_rfl) (fun _ _ _ h => h) (Or.inl ⟨by rfl, ?hyq8⟩) (by assumption) ?_
 case hyq8 =>
   intro w hSw
   (try dsimp only at hSw)
   go_simp
   try with_reducible rfl
 try simp only [Act.put, lz0, lz1, lz2, lz3, lz4, lz5]
 refine wpAnyH_take (i := 9) (v := ?vq9) rfl (by kernel_rfl) (by kernel_rfl) (by kernel_rfl) (fun _ _ _ h => h) (Or.inl ⟨by rfl, ?hyq9⟩) (by assumption) ?_
 case hyq9 =>
   intro w hSw
   (try dsimp only at hSw)
   go_simp
   try with_reducible rfl
 try simp only [Act.put, lz0, lz1, lz2, lz3, lz4, lz5]
 refine wpAnyH_ready (rs := [10]) (by kernel_rfl) (by simp) ?_
 refine AllReadyH.cons rfl (fun K hK => ?_) AllReadyH.nil
 go_simp
 refine (p_below c.path c.path2 _ (HR5.out.tab.kept (Kept.refl _ _).drew)).mono ?_
 rintro e w6 ⟨rfl, k6⟩
 rw [HBel.out]
 have HK6 : Hid (Kept [] W5 w6) := (Kept.refl _ _).drew.trans k6 (by simp)
 have z6 := (⟨HK6.out.cell (HSb.out.1) (by simp), HK6.out.cell (HSb.out.2) (by simp)⟩ : w6.cell? ⟨B, 5, none⟩ = some (.string c.path) ∧ w6.cell? ⟨B, 6, none⟩ = some (.string c.path2))
 clear k6
 go_wp2_with fail
 refine hK.out _ _ ?_ (fun hHeld => ?_)
 · exact z6
 clear hK K
 try simp only [Act.put, lz0, lz1, lz2, lz3, lz4, lz5]
 refine wpAnyH_ready (rs := [11]) (by kernel_rfl) (by simp) ?_
 refine AllReadyH.cons rfl (fun K hK => ?_) AllReadyH.nil
 go_simp
 refine (p_if_no 9 _).mono ?_
 rintro e w7 ⟨rfl, hw⟩
 subst hw
 go_wp2_with fail
 refine hK.out _ _ ?_ (fun hHeld => ?_)
 · exact z6
 clear hK K
 try simp only [Act.put, lz0, lz1, lz2, lz3, lz4, lz5]
 refine wpAnyH_done (by kernel_rfl) ?_ _
 have HC7 : Hid (_) := HC5.out.kept HK6.out
 have HR7 : Hid (_) := HR5.out.kept HK6.out
 have HK7 : Hid (Kept [] w w7) := HK5.out.trans HK6.out (by simp)
 have HB7 : Hid (w7.heap[R]? = _) := (HK6.out.block _ (lt_of_heap HB5.out) (by simp)).trans HB5.out
 have HQ7 : Hid (w7.heap[Q5]? = _) := (HK6.out.block _ (lt_of_heap HQ5.out.1) (by simp)).trans HQ5.out.1
 have HQf : Hid (w7.heap[Q3]? = _) := (HK6.out.block _ (lt_of_heap HQ6.out) (by simp)).trans HQ6.out
 have q0 : w7.cell? ⟨Q5, 0, none⟩ = some (.int .i64 d) := cellB HQ7.out
 have q1 : w7.cell? ⟨Q5, 1, none⟩ = some (.string t) := cellB HQ7.out
 clear z6 hHeld HSb
 go_wp2_with fail
 refine (p_at_none HR7.out d t HAt.out hk HP.out).mono ?_
 rintro e w8 ⟨rfl, k8⟩
 have HC8 : Hid (_) := HC7.out.kept k8
 have HR8 : Hid (_) := HR7.out.kept k8
 have HK8 : Hid (Kept [] w w8) := HK7.out.trans k8 (by simp)
 have HB8 : Hid (w8.heap[R]? = _) := (k8.block _ (lt_of_heap HB7.out) (by simp)).trans HB7.out
 have HQ8 : Hid (w8.heap[Q5]? = _) := (k8.block _ (lt_of_heap HQ7.out) (by simp)).trans HQ7.out
 have HQg : Hid (w8.heap[Q3]? = _) := (k8.block _ (lt_of_heap HQf.out) (by simp)).trans HQf.out
 clear k8 q0 q1
 go_wp2_with fail
 refine (p_if_no 2 w8).mono ?_
 rintro e w9 ⟨rfl, hw⟩
 have hw2 := hw.symm
 subst hw2
 have q0 : w8.cell? ⟨Q5, 0, none⟩ = some (.int .i64 d) := cellB HQ8.out
 have q1 : w8.cell? ⟨Q5, 1, none⟩ = some (.string t) := cellB HQ8.out
 have q2 : w8.cell? ⟨Q3, 0, none⟩ = some (.int .i64 d1) := cellB HQg.out
 have q3 : w8.cell? ⟨Q3, 1, none⟩ = some (.string t1) := cellB HQg.out
 go_wp2_with fail
 refine (p_full HR8.out d t d1 t1 HAt.out hk).mono ?_
 rintro e w9 ⟨rfl, k9⟩
 have HC9 : Hid (_) := HC8.out.kept k9
 have HK9 : Hid (Kept [] w w9) := HK8.out.trans k9 (by simp)
 have HB9 : Hid (w9.heap[R]? = _) := (k9.block _ (lt_of_heap HB8.out) (by simp)).trans HB8.out
 have HQ9 : Hid (w9.heap[Q5]? = _) := (k9.block _ (lt_of_heap HQ8.out) (by simp)).trans HQ8.out
 have HQh : Hid (w9.heap[Q3]? = _) := (k9.block _ (lt_of_heap HQg.out) (by simp)).trans HQg.out
 clear k9 q0 q1 q2 q3
 rw [HFu.out]
 go_wp2_with fail
 refine (p_if 5 (by decide) w9).mono ?_
 rintro e wa ⟨rfl, hw⟩
 subst hw
 exact ⟨rfl, Out.err rfl HC9.out (FrB.kept HK9.out)⟩
@[reducible] def putR (S : Sta) (k : Nat) (hk : k < S.ino.length) (t : ByteArray) (nu : Int) : Sta := setE S k hk (insR ltE (S.ino[k]).ents (t, nu))
set_option maxRecDepth 100000 in
set_option maxHeartbeats 8000000 in
theorem p_rename {w0 w : World} {B : Nat} {c : Cal} {pk v1 v2 v3 : Value} {ev : List Value} {S : Sta} (h : Cb w0 w B c pk v1 v2 v3 ev S) {d1 : Int} {t1 : ByteArray} {k1 i1 j : Nat} (hsp1 : spotR S.ino c.path = .ok (d1, t1)) (hclo : Clo S.ino) (hat1 : atR S.ino d1 = some k1) (hk1 : k1 < S.ino.length) (hi1 : i1 < (S.ino[k1]).ents.length) (hp1 : plR (S.ino[k1]).ents t1 = some i1) (hat2 : atR S.ino ((S.ino[k1]).ents[i1]).2 = some j) (hj : j < S.ino.length) {d : Int} {t : ByteArray} {k : Nat} (hsp : spotR S.ino c.path2 = .ok (d, t)) (hat : atR S.ino d = some k) (hk : k < S.ino.length) (hb : belowR c.path c.path2 = false) (hp : plR (S.ino[k]).ents t = none) (hfu : ¬ 4 ≤ nFull (S.ino[k]).ents d t d1 t1) (hadj : adj ltE (S.ino[k]).ents = true) {nu : Int} (hnu : (S.ino[j]).num = nu) (hbd : Bd (putR S k hk t nu)) {i2 : Nat} (hk2 : k1 < (putR S k hk t nu).ino.length) (hi2 : i2 < ((putR S k hk t nu).ino[k1]).ents.length) (hp2 : plR ((putR S k hk t nu).ino[k1]).ents t1 = some i2) (hcl2 : (atR S.ino (((putR S k hk t nu).ino[k1]).ents[i2]).2).isSome = true) (hr : adj ltI S.ino = true) (hs : S.ino.length ≤ 60000) :
   Calls Tryz.prog 86 #[.pointer (some ⟨B, 0, none⟩)] w (Out w0 w B c pk v1 v2 v3 ev S (.ok (sweepS (setE (putR S k hk t nu) k1 hk2 (((putR S k hk t nu).ino[k1]).ents.eraseIdx i2)) (((putR S k hk t nu).ino[k1]).ents[i2]).2, ansC 0))) := by
 obtain ⟨W1, R, HWR, HKR, HRb⟩ := boxR w #[.int .i64 0, .int .i64 0, .int .i64 0, .bool false, .string ⟨#[]⟩, .slice none 0 0] 32
 have HC1 : Hid (Cb w0 W1 B c pk v1 v2 v3 ev S) := h.kept HKR.out
 have HRo : Hid (Off [R] v1 v2 v3 ev ∧ R ≠ B) := h.new (Nat.le_of_eq HWR.out.2)
 have HRw : Hid (w.heap.size ≤ R) := Nat.le_of_eq HWR.out.2
 have HRl : Hid (w0.heap.size ≤ R) := by have := h.k.size; rw [← HWR.out.2]; exact this
 obtain ⟨p, e1, e2, e3, hrd, f1, f3⟩ := HC1.out.rd
 have HR : Hid (Rd W1 B c pk p S) := hrd
 have HV : Hid (v1 = .slice p.a1 S.ino.length p.c1 ∧ v2 = .slice p.a2 S.opn.length p.c2 ∧ v3 = .slice p.a3 S.made.length p.c3 ∧ (∀ x, p.a1 = some x → ∃ g, x = ⟨g, 0, none⟩) ∧ (∀ x, p.a3 = some x → ∃ g, x = ⟨g, 0, none⟩)) := ⟨e1, e2, e3, f1, f3⟩
 have HBd : Hid (Bd S) := h.bd
 have HSp1 : Hid (_) := hsp1
 have HClo : Hid (_) := hclo
 have HAt1 : Hid (_) := hat1
 have HP1 : Hid (plR (S.ino[k1]).ents t1 = some i1 ∧ ∃ hi : i1 < (S.ino[k1]).ents.length, atR S.ino ((S.ino[k1]).ents[i1]).2 = some j) := ⟨hp1, hi1, hat2⟩
 have d5 := hrd.c5
 have HSp : Hid (_) := hsp
 have HAt : Hid (_) := hat
 have HBel : Hid (_) := hb
 have HP : Hid (_) := hp
 have HFu : Hid (_) := decide_eq_false hfu
 have HAdj : Hid (_) := hadj
 have HBd2 : Hid (_) := hbd
 have HNu : Hid (_) := hnu
 have HTk : Hid (plR ((putR S k hk t nu).ino[k1]).ents t1 = some i2 ∧ (atR S.ino (((putR S k hk t nu).ino[k1]).ents[i2]).2).isSome = true ∧ adj ltI S.ino = true ∧ S.ino.length ≤ 60000) := ⟨hp2, hcl2, hr, hs⟩
 clear h e1 e2 e3 f1 f3 hrd hsp1 hclo hat1 hp1 hat2 hsp hat hb hp hfu hadj hnu hbd hp2 hcl2 hr hs
 go_enter Tryz.func86, Tryz.ntmps86
 go_upto_region 1 with fail
 rw [HWR.out.1, HWR.out.2]
 clear HWR
 go_wp2_with fail
 refine (p_spot HR.out HClo.out c.path).mono ?_
 rintro e ws3 ⟨hret, k1⟩
 have hee : e = .returned (.agg #[.int .i64 d1, .string t1]) := by have h9 := HSp1.out; unfold spotV at hret; rw [h9] at hret; exact hret
 subst hee
 obtain ⟨W3, Q3, HWQ, HKQ, q30, q31⟩ := box2 ws3 (.int .i64 d1) (.string t1) 120
 have HQ3 : Hid (W3.heap[Q3]? = some (.cells #[.int .i64 d1, .string t1] 120 (0, 0)) ∧ ws3.heap.size ≤ Q3) := by
   rw [← HWQ.out.1, ← HWQ.out.2]; exact ⟨Go.heap_alloc_new _ _, Nat.le_refl _⟩
 go_upto_region 2 with fail
 rw [HWQ.out.1, HWQ.out.2]
 clear HWQ
 have HKk : Hid (Kept [] W1 W3) := k1.trans HKQ.out (by simp)
 have HR3 : Hid (_) := HR.out.kept HKk.out
 have HC3 : Hid (_) := HC1.out.kept HKk.out
 have HK3 : Hid (Kept [] w W3) := HKR.out.trans HKk.out (by simp)
 have HB3 : Hid (W3.heap[R]? = _) := (HKk.out.block _ (lt_of_heap HRb.out) (by simp)).trans HRb.out
 have HQo3 : Hid (Off [Q3] v1 v2 v3 ev ∧ Q3 ≠ B) := (HC1.out.kept k1).new HQ3.out.2
 clear hret k1 HKQ
 obtain ⟨b1, o1, ae, ce, ha, -⟩ := HR3.out.sv.ino k1 hk1
 have ho1 : o1 = 0 := by
   obtain ⟨g, hg⟩ := HV.out.2.2.2.1 _ ha
   simp only [Addr.mk.injEq, and_true] at hg
   exact hg.2
 subst ho1
 have HA : Hid (p.a1 = some ⟨b1, 0, none⟩) := ha
 have HV1 : Hid (v1 = .slice (some ⟨b1, 0, none⟩) S.ino.length p.c1) := by show _ = _; rw [HV.out.1, HA.out]
 clear ha
 go_wp2_with fail
 refine (p_at_some HR3.out d1 t1 HAt1.out hk1 HP1.out HA.out).mono ?_
 rintro e w2 ⟨rfl, k2⟩
 rw [Nat.zero_add]
 have HC4 : Hid (_) := HC3.out.kept k2
 have HR4 : Hid (_) := HR3.out.kept k2
 have HK4 : Hid (Kept [] w w2) := HK3.out.trans k2 (by simp)
 have HB4 : Hid (w2.heap[R]? = _) := (k2.block _ (lt_of_heap HB3.out) (by simp)).trans HB3.out
 have HQ4 : Hid (w2.heap[Q3]? = _) := (k2.block _ (lt_of_heap HQ3.out.1) (by simp)).trans HQ3.out.1
 clear k2 q30 q31
 go_wp2_with fail
 refine (p_if_no 1 w2).mono ?_
 rintro e w9 ⟨rfl, hw⟩
 have hw2 := hw.symm
 subst hw2
 have d6 := HR4.out.c6
 go_wp2_with fail
 refine (p_spot HR4.out HClo.out c.path2).mono ?_
 rintro e ws5 ⟨hret, k1⟩
 have hee : e = .returned (.agg #[.int .i64 d, .string t]) := by have h9 := HSp.out; unfold spotV at hret; rw [h9] at hret; exact hret
 subst hee
 obtain ⟨W5, Q5, HWQ, HKQ, q50, q51⟩ := box2 ws5 (.int .i64 d) (.string t) 120
 have HQ5 : Hid (W5.heap[Q5]? = some (.cells #[.int .i64 d, .string t] 120 (0, 0)) ∧ ws5.heap.size ≤ Q5) := by
   rw [← HWQ.out.1, ← HWQ.out.2]; exact ⟨Go.heap_alloc_new _ _, Nat.le_refl _⟩
 go_upto_region 5 with fail
 rw [HWQ.out.1, HWQ.out.2]
 clear HWQ
 have HKk : Hid (Kept [] w2 W5) := k1.trans HKQ.out (by simp)
 have HR5 : Hid (_) := HR4.out.kept HKk.out
 have HC5 : Hid (_) := HC4.out.kept HKk.out
 have HK5 : Hid (Kept [] w W5) := HK4.out.trans HKk.out (by simp)
 have HB5 : Hid (W5.heap[R]? = _) := (HKk.out.block _ (lt_of_heap HB4.out) (by simp)).trans HB4.out
 have HQo5 : Hid (Off [Q5] v1 v2 v3 ev ∧ Q5 ≠ B) := (HC4.out.kept k1).new HQ5.out.2
 clear hret k1 HKQ
 have HQ6 : Hid (W5.heap[Q3]? = _) := (HKk.out.block _ (lt_of_heap HQ4.out) (by simp)).trans HQ4.out
 have HSb : Hid (W5.cell? ⟨B, 5, none⟩ = some (.string c.path) ∧ W5.cell? ⟨B, 6, none⟩ = some (.string c.path2)) := ⟨HR5.out.c5, HR5.out.c6⟩
 clear q50 q51 d6
 refine wp_region_held_drew (S := fun w' => w'.cell? ⟨B, 5, none⟩ = some (.string c.path) ∧ w'.cell? ⟨B, 6, none⟩ = some (.string c.path2)) (by kernel_rfl) ?_ (fun hHeld => ?_)
 · exact HSb.out
 refine wpAnyH_take (i := 0) (v := ?vq0) rfl (by kernel_rfl) (by kernel_rfl) (by kernel_rfl) (fun _ _ _ h => h) (Or.inl ⟨by rfl, ?hyq0⟩) (by assumption) ?_
 case hyq0 =>
   intro w hSw
   (try dsimp only at hSw)
   go_simp
   try with_reducible rfl
 try simp only [Act.put, lz0, lz1, lz2, lz3, lz4, lz5]
 refine wpAnyH_take (i := 1) (v := ?vq1) rfl (by kernel_rfl) (by kernel_rfl) (by kernel_rfl) (fun _ _ _ h => h) (Or.inl ⟨by rfl, ?hyq1⟩) (by assumption) ?_
 case hyq1 =>
   intro w hSw
   (try dsimp only at hSw)
   go_simp
   try with_reducible rfl
 try simp only [Act.put, lz0, lz1, lz2, lz3, lz4, lz5]
 refine wpAnyH_take (i := 2) (v := ?vq2) rfl (by kernel_rfl) (by kernel_rfl) (by kernel_rfl) (fun _ _ _ h => h) (Or.inl ⟨by rfl, ?hyq2⟩) (by assumption) ?_
 case hyq2 =>
   intro w hSw
   (try dsimp only at hSw)
   go_simp
   try with_reducible rfl
 try simp only [Act.put, lz0, lz1, lz2, lz3, lz4, lz5]
 refine wpAnyH_take (i := 3) (v := ?vq3) rfl (by kernel_rfl) (by kernel_rfl) (by kernel_rfl) (fun _ _ _ h => h) (Or.inl ⟨by rfl, ?hyq3⟩) (by assumption) ?_
 case hyq3 =>
   intro w hSw
   (try dsimp only at hSw)
   go_simp
   try with_reducible rfl
 try simp only [Act.put, lz0, lz1, lz2, lz3, lz4, lz5]
 refine wpAnyH_take (i := 4) (v := ?vq4) rfl (by kernel_rfl) (by kernel_rfl) (by kernel_rfl) (fun _ _ _ h => h) (Or.inl ⟨by rfl, ?hyq4⟩) (by assumption) ?_
 case hyq4 =>
   intro w hSw
   (try dsimp only at hSw)
   go_simp
   try with_reducible rfl
 try simp only [Act.put, lz0, lz1, lz2, lz3, lz4, lz5]
 refine wpAnyH_take (i := 5) (v := ?vq5) rfl (by kernel_rfl) (by kernel_rfl) (by kernel_rfl) (fun _ _ _ h => h) (Or.inl ⟨by rfl, ?hyq5⟩) (by assumption) ?_
 case hyq5 =>
   intro w hSw
   (try dsimp only at hSw)
   go_simp
   try with_reducible rfl
 try simp only [Act.put, lz0, lz1, lz2, lz3, lz4, lz5]
 refine wpAnyH_take (i := 6) (v := ?vq6) rfl (by kernel_rfl) (by kernel_rfl) (by kernel_rfl) (fun _ _ _ h => h) (Or.inl ⟨by rfl, ?hyq6⟩) (by assumption) ?_
 case hyq6 =>
   intro w hSw
   (try dsimp only at hSw)
   go_simp
   try with_reducible rfl
 try simp only [Act.put, lz0, lz1, lz2, lz3, lz4, lz5]
 refine wpAnyH_take (i := 7) (v := ?vq7) rfl (by kernel_rfl) (by kernel_rfl) (by kernel_rfl) (fun _ _ _ h => h) (Or.inl ⟨by rfl, ?hyq7⟩) (by assumption) ?_
 case hyq7 =>
   intro w hSw
   (try dsimp only at hSw)
   go_simp
   try with_reducible rfl
 try simp only [Act.put, lz0, lz1, lz2, lz3, lz4, lz5]
 refine wpAnyH_take (i := 8) (v := ?vq8) rfl (by kernel_rfl) (by kernel_rfl) (by kernel_rfl) (fun _ _ _ h => h) (Or.inl ⟨by rfl, ?hyq8⟩) (by assumption) ?_
 case hyq8 =>
   intro w hSw
   (try dsimp only at hSw)
   go_simp
   try with_reducible rfl
 try simp only [Act.put, lz0, lz1, lz2, lz3, lz4, lz5]
 refine wpAnyH_take (i := 9) (v := ?vq9) rfl (by kernel_rfl) (by kernel_rfl) (by kernel_rfl) (fun _ _ _ h => h) (Or.inl ⟨by rfl, ?hyq9⟩) (by assumption) ?_
 case hyq9 =>
   intro w hSw
   (try dsimp only at hSw)
   go_simp
   try with_reducible rfl
 try simp only [Act.put, lz0, lz1, lz2, lz3, lz4, lz5]
 refine wpAnyH_ready (rs := [10]) (by kernel_rfl) (by simp) ?_
 refine AllReadyH.cons rfl (fun K hK => ?_) AllReadyH.nil
 go_simp
 refine (p_below c.path c.path2 _ (HR5.out.tab.kept (Kept.refl _ _).drew)).mono ?_
 rintro e w6 ⟨rfl, k6⟩
 rw [HBel.out]
 have HK6 : Hid (Kept [] W5 w6) := (Kept.refl _ _).drew.trans k6 (by simp)
 have z6 := (⟨HK6.out.cell (HSb.out.1) (by simp), HK6.out.cell (HSb.out.2) (by simp)⟩ : w6.cell? ⟨B, 5, none⟩ = some (.string c.path) ∧ w6.cell? ⟨B, 6, none⟩ = some (.string c.path2))
 clear k6
 go_wp2_with fail
 refine hK.out _ _ ?_ (fun hHeld => ?_)
 · exact z6
 clear hK K
 try simp only [Act.put, lz0, lz1, lz2, lz3, lz4, lz5]
 refine wpAnyH_ready (rs := [11]) (by kernel_rfl) (by simp) ?_
 refine AllReadyH.cons rfl (fun K hK => ?_) AllReadyH.nil
 go_simp
 refine (p_if_no 9 _).mono ?_
 rintro e w7 ⟨rfl, hw⟩
 subst hw
 go_wp2_with fail
 refine hK.out _ _ ?_ (fun hHeld => ?_)
 · exact z6
 clear hK K
 try simp only [Act.put, lz0, lz1, lz2, lz3, lz4, lz5]
 refine wpAnyH_done (by kernel_rfl) ?_ _
 have HC7 : Hid (_) := HC5.out.kept HK6.out
 have HR7 : Hid (_) := HR5.out.kept HK6.out
 have HK7 : Hid (Kept [] w w7) := HK5.out.trans HK6.out (by simp)
 have HB7 : Hid (w7.heap[R]? = _) := (HK6.out.block _ (lt_of_heap HB5.out) (by simp)).trans HB5.out
 have HQ7 : Hid (w7.heap[Q5]? = _) := (HK6.out.block _ (lt_of_heap HQ5.out.1) (by simp)).trans HQ5.out.1
 have HQf : Hid (w7.heap[Q3]? = _) := (HK6.out.block _ (lt_of_heap HQ6.out) (by simp)).trans HQ6.out
 have q0 : w7.cell? ⟨Q5, 0, none⟩ = some (.int .i64 d) := cellB HQ7.out
 have q1 : w7.cell? ⟨Q5, 1, none⟩ = some (.string t) := cellB HQ7.out
 clear z6 hHeld HSb
 go_wp2_with fail
 refine (p_at_none HR7.out d t HAt.out hk HP.out).mono ?_
 rintro e w8 ⟨rfl, k8⟩
 have HC8 : Hid (_) := HC7.out.kept k8
 have HR8 : Hid (_) := HR7.out.kept k8
 have HK8 : Hid (Kept [] w w8) := HK7.out.trans k8 (by simp)
 have HB8 : Hid (w8.heap[R]? = _) := (k8.block _ (lt_of_heap HB7.out) (by simp)).trans HB7.out
 have HQ8 : Hid (w8.heap[Q5]? = _) := (k8.block _ (lt_of_heap HQ7.out) (by simp)).trans HQ7.out
 have HQg : Hid (w8.heap[Q3]? = _) := (k8.block _ (lt_of_heap HQf.out) (by simp)).trans HQf.out
 clear k8 q0 q1
 go_wp2_with fail
 refine (p_if_no 2 w8).mono ?_
 rintro e w9 ⟨rfl, hw⟩
 have hw2 := hw.symm
 subst hw2
 have q0 : w8.cell? ⟨Q5, 0, none⟩ = some (.int .i64 d) := cellB HQ8.out
 have q1 : w8.cell? ⟨Q5, 1, none⟩ = some (.string t) := cellB HQ8.out
 have q2 : w8.cell? ⟨Q3, 0, none⟩ = some (.int .i64 d1) := cellB HQg.out
 have q3 : w8.cell? ⟨Q3, 1, none⟩ = some (.string t1) := cellB HQg.out
 go_wp2_with fail
 refine (p_full HR8.out d t d1 t1 HAt.out hk).mono ?_
 rintro e w9 ⟨rfl, k9⟩
 have HC9 : Hid (_) := HC8.out.kept k9
 have HK9 : Hid (Kept [] w w9) := HK8.out.trans k9 (by simp)
 have HB9 : Hid (w9.heap[R]? = _) := (k9.block _ (lt_of_heap HB8.out) (by simp)).trans HB8.out
 have HQ9 : Hid (w9.heap[Q5]? = _) := (k9.block _ (lt_of_heap HQ8.out) (by simp)).trans HQ8.out
 have HQh : Hid (w9.heap[Q3]? = _) := (k9.block _ (lt_of_heap HQg.out) (by simp)).trans HQg.out
 clear k9 q0 q1 q2 q3
 rw [HFu.out]
 go_wp2_with fail
 refine (p_if_no 5 w9).mono ?_
 rintro e wb ⟨rfl, hw⟩
 have hw2 := hw.symm
 subst hw2
 have HSx : Hid (w9.cell? ⟨Q5, 0, none⟩ = some (.int .i64 d) ∧ w9.cell? ⟨Q5, 1, none⟩ = some (.string t) ∧ w9.cell? ⟨b1, j * 4, none⟩ = some (.int .i64 nu)) := ⟨cellB HQ9.out, cellB HQ9.out, by have h9 := HC9.out.numAt HV1.out (j := j) hj; rw [HNu.out] at h9; exact h9⟩
 go_upto_region 8 with fail
 refine wp_region_held_drew (S := fun w' => w'.cell? ⟨Q5, 0, none⟩ = some (.int .i64 d) ∧ w'.cell? ⟨Q5, 1, none⟩ = some (.string t) ∧ w'.cell? ⟨b1, j * 4, none⟩ = some (.int .i64 nu)) (by kernel_rfl) ?_ (fun hHeld => ?_)
 · exact HSx.out
 refine wpAnyH_take (i := 0) (v := ?vr0) rfl (by kernel_rfl) (by kernel_rfl) (by kernel_rfl) (fun _ _ _ h => h) (Or.inl ⟨by rfl, ?hyr0⟩) (by assumption) ?_
 case hyr0 =>
   intro w hSw
   (try dsimp only at hSw)
   go_simp
   try with_reducible rfl
 try simp only [Act.put, lz0, lz1, lz2, lz3, lz4, lz5]
 refine wpAnyH_take (i := 1) (v := ?vr1) rfl (by kernel_rfl) (by kernel_rfl) (by kernel_rfl) (fun _ _ _ h => h) (Or.inl ⟨by rfl, ?hyr1⟩) (by assumption) ?_
 case hyr1 =>
   intro w hSw
   (try dsimp only at hSw)
   go_simp
   try with_reducible rfl
 try simp only [Act.put, lz0, lz1, lz2, lz3, lz4, lz5]
 refine wpAnyH_take (i := 2) (v := ?vr2) rfl (by kernel_rfl) (by kernel_rfl) (by kernel_rfl) (fun _ _ _ h => h) (Or.inl ⟨by rfl, ?hyr2⟩) (by assumption) ?_
 case hyr2 =>
   intro w hSw
   (try dsimp only at hSw)
   go_simp
   try with_reducible rfl
 try simp only [Act.put, lz0, lz1, lz2, lz3, lz4, lz5]
 refine wpAnyH_take (i := 3) (v := ?vr3) rfl (by kernel_rfl) (by kernel_rfl) (by kernel_rfl) (fun _ _ _ h => h) (Or.inl ⟨by rfl, ?hyr3⟩) (by assumption) ?_
 case hyr3 =>
   intro w hSw
   (try dsimp only at hSw)
   go_simp
   try with_reducible rfl
 try simp only [Act.put, lz0, lz1, lz2, lz3, lz4, lz5]
 refine wpAnyH_take (i := 4) (v := ?vr4) rfl (by kernel_rfl) (by kernel_rfl) (by kernel_rfl) (fun _ _ _ h => h) (Or.inl ⟨by rfl, ?hyr4⟩) (by assumption) ?_
 case hyr4 =>
   intro w hSw
   (try dsimp only at hSw)
   go_simp
   try with_reducible rfl
 try simp only [Act.put, lz0, lz1, lz2, lz3, lz4, lz5]
 refine wpAnyH_take (i := 5) (v := ?vr5) rfl (by kernel_rfl) (by kernel_rfl) (by kernel_rfl) (fun _ _ _ h => h) (Or.inl ⟨by rfl, ?hyr5⟩) (by assumption) ?_
 case hyr5 =>
   intro w hSw
   (try dsimp only at hSw)
   go_simp
   try with_reducible rfl
 try simp only [Act.put, lz0, lz1, lz2, lz3, lz4, lz5]
 refine wpAnyH_ready (rs := [6]) (by kernel_rfl) (by simp) ?_
 refine AllReadyH.cons rfl (fun K hK => ?_) AllReadyH.nil
 go_simp
 refine (p_put (HC9.out.kept (Kept.refl _ _).drew) d t nu HAt.out hk HAdj.out HBd2.out).mono ?_
 rintro e wa ⟨rfl, eva, hcb, hfr⟩
 have HCa : Hid (_) := hcb
 have HFra : Hid (Frm w9 wa v1 v2 v3 ev v1 v2 v3 eva) := hfr
 have hqa := hfr.2 Q5 (lt_of_heap HQ9.out) HQo5.out.1
 have HQa : Hid (wa.heap[Q5]? = _) := hqa.1.trans HQ9.out
 have za : wa.cell? ⟨Q5, 0, none⟩ = some (.int .i64 d) ∧ wa.cell? ⟨Q5, 1, none⟩ = some (.string t) ∧ wa.cell? ⟨b1, j * 4, none⟩ = some (.int .i64 nu) := ⟨cellB HQa.out, cellB HQa.out, by have h9 := hcb.numAt (g := b1) (c1 := p.c1) (by rw [HV1.out]; simp) (j := j) (by simpa using hj); rw [num_setE hk _ hj, HNu.out] at h9; exact h9⟩
 clear hcb hfr hqa
 go_wp2_with fail
 refine hK.out _ _ ?_ (fun hHeld => ?_)
 · exact za
 clear hK K
 try simp only [Act.put, lz0, lz1, lz2, lz3, lz4, lz5]
 refine wpAnyH_done (by kernel_rfl) ?_ _
 have ha := HFra.out.2 R (lt_of_heap HB9.out) HRo.out.1
 have HBa : Hid (wa.heap[R]? = _) := ha.1.trans HB9.out
 have HOa : Hid (_) := ha.2
 have hqf := HFra.out.2 Q3 (lt_of_heap HQh.out) HQo3.out.1
 have HQi : Hid (wa.heap[Q3]? = _) := hqf.1.trans HQh.out
 have HFa : Hid (FrB B w wa v1 v2 v3 ev v1 v2 v3 eva) := (FrB.kept HK9.out).trans HFra.out.frb
 have q2 : wa.cell? ⟨Q3, 0, none⟩ = some (.int .i64 d1) := cellB HQi.out
 have q3 : wa.cell? ⟨Q3, 1, none⟩ = some (.string t1) := cellB HQi.out
 clear ha za hqf
 go_wp2_with fail
 refine (p_take HCa.out d1 t1 (by rw [at_setE]; exact HAt1.out) hk2 HTk.out.1 hi2 (adj_setE hk _ HTk.out.2.2.1) (by rw [at_setE]; exact HTk.out.2.1) (by simpa using HTk.out.2.2.2)).mono ?_
 rintro e wc ⟨rfl, u1, eu, hcb, hfr⟩
 have hc := hfr.2 R (lt_of_heap HBa.out) HRo.out.2 HOa.out
 have HBc : Hid (wc.heap[R]? = _) := hc.1.trans HBa.out
 have HOc : Hid (_) := hc.2
 have HCc : Hid (_) := hcb
 have HFc : Hid (FrB B w wc v1 v2 v3 ev u1 v2 v3 eu) := HFa.out.trans hfr
 clear hc hcb hfr q2 q3
 have g0 : wc.cell? ⟨R, 0, none⟩ = some (.int .i64 0) := cellB HBc.out
 have z0 := frozen_of HBc.out 0
 have g1 : wc.cell? ⟨R, 1, none⟩ = some (.int .i64 0) := cellB HBc.out
 have z1 := frozen_of HBc.out 1
 have g2 : wc.cell? ⟨R, 2, none⟩ = some (.int .i64 0) := cellB HBc.out
 have z2 := frozen_of HBc.out 2
 have g3 : wc.cell? ⟨R, 3, none⟩ = some (.bool false) := cellB HBc.out
 have z3 := frozen_of HBc.out 3
 have g4 : wc.cell? ⟨R, 4, none⟩ = some (.string ⟨#[]⟩) := cellB HBc.out
 have z4 := frozen_of HBc.out 4
 have g5 : wc.cell? ⟨R, 5, none⟩ = some (.slice none 0 0) := cellB HBc.out
 have z5 := frozen_of HBc.out 5
 go_wp2_with fail
 (try simp only [Exit.inBlock, Exit.then])
 refine bodyPost_ret (results_cell_row rfl _ _ R 32 #[.int .i64 0, .int .i64 0, .int .i64 0, .bool false, .string ⟨#[]⟩, .slice none 0 0] (0, 0) _ rfl (block_res HBc.out _ _ _ _ _ _) Tryz.underlying32 rfl (by kernel_rfl)) rfl ?_
 exact Out.val rfl rfl rfl (HCc.out.res HRl.out HOc.out HRo.out.2 _ _ _ _ _ _) (FrB.res HFc.out HRw.out _ _ _ _ _ _)
end Go.Proofs.YtmeafancgmkfkaaGreatDoor
