/-
  Joined of my texts Un.
-/
import Derived.Test.YtjneoegbknclgaaGreatDoorJn22
set_option linter.unusedVariables false
set_option linter.unusedSimpArgs false
set_option maxRecDepth 100000
set_option maxHeartbeats 8000000
namespace Go.Proofs.YtjneoegbknclgaaGreatDoor
open Go.RowKit
theorem p_unlink_none {w0 w : World} {B : Nat} {c : Cal} {pk v1 v2 v3 : Value} {ev : List Value} {S : Sta} (h : Cb w0 w B c pk v1 v2 v3 ev S) {d : Int} {t : ByteArray} {k : Nat} (hsp : spotR S.ino c.path = .ok (d, t)) (hclo : Clo S.ino) (hat : atR S.ino d = some k) (hk : k < S.ino.length) (hp : plR (S.ino[k]).ents t = none) :
  Calls Tryz.prog 110 #[.pointer (some ⟨B, 0, none⟩)] w (Out w0 w B c pk v1 v2 v3 ev S (.error 1)) := by
 obtain ⟨W1, R, HWR, HKR, HRb, HC1, HRo, HRw, HRl, p, e1, e2, e3, hrd, f1, f3, HR, HV⟩ := prg h
 have HBd : Hid (Bd S) := h.bd
 have HSp : Hid (_) := hsp
 have HClo : Hid (_) := hclo
 have HAt : Hid (_) := hat
 have HP : Hid (_) := hp
 have d5 := hrd.c5
 clear h e1 e2 e3 f1 f3 hrd hsp hclo hat hp
 go_enter Tryz.func110, Tryz.ntmps110
 go_upto_region 1 with fail
 rw [HWR.out.1, HWR.out.2]
 clear HWR
 go_wp2_with fail
 refine (p_spot HR.out HClo.out c.path).mono ?_
 rintro e w1 ⟨hret, k1⟩
 have hee : e = .returned (.agg #[.int .i64 d, .string t]) := by have h9 := HSp.out; unfold spotV at hret; rw [h9] at hret; exact hret
 subst hee
 have HC2 : Hid (_) := HC1.out.kept k1
 have HR1 : Hid (_) := HR.out.kept k1
 have HKw1 : Hid (Kept [] w w1) := HKR.out.trans k1 (by simp)
 have HRb1 : Hid (w1.heap[R]? = _) := (k1.block _ (lt_of_heap HRb.out) (by simp)).trans HRb.out
 clear hret k1 HC1 HR HRb
 obtain ⟨W2, Q, HWQ, HKQ, q0, q1⟩ := box2 w1 (.int .i64 d) (.string t) 147
 have HQb : Hid (W2.heap[Q]? = some (.cells #[.int .i64 d, .string t] 147 (0, 0)) ∧ w1.heap.size ≤ Q) := by
  rw [← HWQ.out.1, ← HWQ.out.2]; exact ⟨Go.heap_alloc_new _ _, Nat.le_refl _⟩
 go_upto_region 2 with fail
 rw [HWQ.out.1, HWQ.out.2]
 clear HWQ
 have HR2 : Hid (_) := HR1.out.kept HKQ.out
 have HC3 : Hid (_) := HC2.out.kept HKQ.out
 have HKw2 : Hid (Kept [] w W2) := HKw1.out.trans HKQ.out (by simp)
 have HRb2 : Hid (W2.heap[R]? = _) := (HKQ.out.block _ (lt_of_heap HRb1.out) (by simp)).trans HRb1.out
 have HQo : Hid (Off [Q] v1 v2 v3 ev ∧ Q ≠ B) := HC2.out.new HQb.out.2
 have HQR : Hid (Q ≠ R) := by have h1 := lt_of_heap HRb1.out; have h2 := HQb.out.2; exact fun e => by omega
 clear HKQ HC2 HR1 HKw1 HRb1
 go_wp2_with fail
 refine (p_at_none HR2.out d t HAt.out hk HP.out).mono ?_
 rintro e w2 ⟨rfl, k2⟩
 have HC4 : Hid (_) := HC3.out.kept k2
 have HKw3 : Hid (Kept [] w w2) := HKw2.out.trans k2 (by simp)
 clear k2 q0 q1
 go_wp2_with fail
 refine (p_if 1 (by decide) w2).mono ?_
 rintro e w9 ⟨rfl, hw⟩
 subst hw
 exact ⟨rfl, Out.err rfl HC4.out (FrB.kept HKw3.out)⟩
theorem p_rename_spot {w0 w : World} {B : Nat} {c : Cal} {pk v1 v2 v3 : Value} {ev : List Value} {S : Sta} (h : Cb w0 w B c pk v1 v2 v3 ev S) {code : Int} (hsp : spotR S.ino c.path = .error code) (hclo : Clo S.ino) :
  Calls Tryz.prog 112 #[.pointer (some ⟨B, 0, none⟩)] w (Out w0 w B c pk v1 v2 v3 ev S (.error code)) := by
 obtain ⟨W1, R, HWR, HKR, HRb, HC1, HRo, HRw, HRl, p, e1, e2, e3, hrd, f1, f3, HR, HV⟩ := prg h
 have HBd : Hid (Bd S) := h.bd
 have HSp : Hid (_) := hsp
 have HClo : Hid (_) := hclo
 have d5 := hrd.c5
 clear h e1 e2 e3 f1 f3 hrd hsp hclo
 go_enter Tryz.func112, Tryz.ntmps112
 go_upto_region 1 with fail
 rw [HWR.out.1, HWR.out.2]
 clear HWR
 go_wp2_with fail
 refine (p_spot HR.out HClo.out c.path).mono ?_
 rintro e w1 ⟨hret, k1⟩
 have hee : e = thr code := by have h9 := HSp.out; unfold spotV at hret; rw [h9] at hret; exact hret
 subst hee
 exact ⟨rfl, Out.err rfl (HC1.out.kept k1) (FrB.kept (HKR.out.trans k1 (by simp)))⟩
theorem p_rename_none {w0 w : World} {B : Nat} {c : Cal} {pk v1 v2 v3 : Value} {ev : List Value} {S : Sta} (h : Cb w0 w B c pk v1 v2 v3 ev S) {d : Int} {t : ByteArray} {k : Nat} (hsp : spotR S.ino c.path = .ok (d, t)) (hclo : Clo S.ino) (hat : atR S.ino d = some k) (hk : k < S.ino.length) (hp : plR (S.ino[k]).ents t = none) :
  Calls Tryz.prog 112 #[.pointer (some ⟨B, 0, none⟩)] w (Out w0 w B c pk v1 v2 v3 ev S (.error 1)) := by
 obtain ⟨W1, R, HWR, HKR, HRb, HC1, HRo, HRw, HRl, p, e1, e2, e3, hrd, f1, f3, HR, HV⟩ := prg h
 have HBd : Hid (Bd S) := h.bd
 have HSp : Hid (_) := hsp
 have HClo : Hid (_) := hclo
 have HAt : Hid (_) := hat
 have HP : Hid (_) := hp
 have d5 := hrd.c5
 clear h e1 e2 e3 f1 f3 hrd hsp hclo hat hp
 go_enter Tryz.func112, Tryz.ntmps112
 go_upto_region 1 with fail
 rw [HWR.out.1, HWR.out.2]
 clear HWR
 go_wp2_with fail
 refine (p_spot HR.out HClo.out c.path).mono ?_
 rintro e w1 ⟨hret, k1⟩
 have hee : e = .returned (.agg #[.int .i64 d, .string t]) := by have h9 := HSp.out; unfold spotV at hret; rw [h9] at hret; exact hret
 subst hee
 have HC2 : Hid (_) := HC1.out.kept k1
 have HR1 : Hid (_) := HR.out.kept k1
 have HKw1 : Hid (Kept [] w w1) := HKR.out.trans k1 (by simp)
 have HRb1 : Hid (w1.heap[R]? = _) := (k1.block _ (lt_of_heap HRb.out) (by simp)).trans HRb.out
 clear hret k1 HC1 HR HRb
 obtain ⟨W2, Q, HWQ, HKQ, q0, q1⟩ := box2 w1 (.int .i64 d) (.string t) 147
 have HQb : Hid (W2.heap[Q]? = some (.cells #[.int .i64 d, .string t] 147 (0, 0)) ∧ w1.heap.size ≤ Q) := by
  rw [← HWQ.out.1, ← HWQ.out.2]; exact ⟨Go.heap_alloc_new _ _, Nat.le_refl _⟩
 go_upto_region 2 with fail
 rw [HWQ.out.1, HWQ.out.2]
 clear HWQ
 have HR2 : Hid (_) := HR1.out.kept HKQ.out
 have HC3 : Hid (_) := HC2.out.kept HKQ.out
 have HKw2 : Hid (Kept [] w W2) := HKw1.out.trans HKQ.out (by simp)
 have HRb2 : Hid (W2.heap[R]? = _) := (HKQ.out.block _ (lt_of_heap HRb1.out) (by simp)).trans HRb1.out
 have HQo : Hid (Off [Q] v1 v2 v3 ev ∧ Q ≠ B) := HC2.out.new HQb.out.2
 have HQR : Hid (Q ≠ R) := by have h1 := lt_of_heap HRb1.out; have h2 := HQb.out.2; exact fun e => by omega
 clear HKQ HC2 HR1 HKw1 HRb1
 go_wp2_with fail
 refine (p_at_none HR2.out d t HAt.out hk HP.out).mono ?_
 rintro e w2 ⟨rfl, k2⟩
 have HC4 : Hid (_) := HC3.out.kept k2
 have HKw3 : Hid (Kept [] w w2) := HKw2.out.trans k2 (by simp)
 clear k2 q0 q1
 go_wp2_with fail
 refine (p_if 1 (by decide) w2).mono ?_
 rintro e w9 ⟨rfl, hw⟩
 subst hw
 exact ⟨rfl, Out.err rfl HC4.out (FrB.kept HKw3.out)⟩
end Go.Proofs.YtjneoegbknclgaaGreatDoor
