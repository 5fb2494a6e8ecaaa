/-
  Joined of my texts Un Rn Pk Ch.
-/
import Derived.Test.YtjneoegbknclgaaGreatDoorJl22
import Derived.Test.YtjneoegbknclgaaGreatDoorJl27
import Derived.Test.YtjneoegbknclgaaGreatDoorJl23
import Derived.Test.YtjneoegbknclgaaGreatDoorJl26
import Derived.Test.YtjneoegbknclgaaGreatDoorJl28
import Derived.Test.YtjneoegbknclgaaGreatDoorJl20
import Derived.Defers
import Derived.Recover
import Derived.Test.YtjneoegbknclgaaGreatDoorTk
set_option linter.unusedVariables false
set_option linter.unusedSimpArgs false
set_option maxRecDepth 100000
set_option maxHeartbeats 8000000
namespace Go.Proofs.YtjneoegbknclgaaGreatDoor
open Go.RowKit
theorem p_unlink_spot {w0 w : World} {B : Nat} {c : Cal} {pk v1 v2 v3 : Value} {ev : List Value} {S : Sta} (h : Cb w0 w B c pk v1 v2 v3 ev S) {code : Int} (hsp : spotR S.ino c.path = .error code) (hclo : Clo S.ino) :
  Calls Tryz.prog 110 #[.pointer (some ⟨B, 0, none⟩)] w (Out w0 w B c pk v1 v2 v3 ev S (.error code)) := by
 obtain ⟨W1, R, HWR, HKR, HRb, HC1, HRo, HRw, HRl, p, e1, e2, e3, hrd, f1, f3, HR, HV⟩ := prg h
 have HBd : Hid (Bd S) := h.bd
 have HSp : Hid (_) := hsp
 have HClo : Hid (_) := hclo
 have d5 := hrd.c5
 clear h e1 e2 e3 f1 f3 hrd hsp hclo
 go_enter Tryz.func110, Tryz.ntmps110
 go_upto_region 1 with fail
 rw [HWR.out.1, HWR.out.2]
 clear HWR
 go_wp2_with fail
 refine (p_spot HR.out HClo.out c.path).mono ?_
 rintro e w1 ⟨hret, k1⟩
 have hee : e = thr code := by have h9 := HSp.out; unfold spotV at hret; rw [h9] at hret; exact hret
 subst hee
 exact ⟨rfl, Out.err rfl (HC1.out.kept k1) (FrB.kept (HKR.out.trans k1 (by simp)))⟩
theorem p_unlink_none {w0 w : World} {B : Nat} {c : Cal} {pk v1 v2 v3 : Value} {ev : List Value} {S : Sta} (h : Cb w0 w B c pk v1 v2 v3 ev S) {d : Int} {t : ByteArray} {k : Nat} (hsp : spotR S.ino c.path = .ok (d, t)) (hclo : Clo S.ino) (hat : atR S.ino d = some k) (hk : k < S.ino.length) (hp : plR (S.ino[k]).ents t = none) :
  Calls Tryz.prog 110 #[.pointer (some ⟨B, 0, none⟩)] w (Out w0 w B c pk v1 v2 v3 ev S (.error 1)) := by
 obtain ⟨W1, R, HWR, HKR, HRb, HC1, HRo, HRw, HRl, p, e1, e2, e3, hrd, f1, f3, HR, HV⟩ := prg h
 have HBd : Hid (Bd S) := h.bd
 have HSp : Hid (_) := hsp
 have HClo : Hid (_) := hclo
 have HAt : Hid (_) := hat
 have HP : Hid (_) := hp
 have d5 := hrd.c5
 clear h e1 e2 e3 f1 f3 hrd hsp hclo hat hp
 go_enter Tryz.func110, Tryz.ntmps110
 go_upto_region 1 with fail
 rw [HWR.out.1, HWR.out.2]
 clear HWR
 go_wp2_with fail
 refine (p_spot HR.out HClo.out c.path).mono ?_
 rintro e w1 ⟨hret, k1⟩
 have hee : e = .returned (.agg #[.int .i64 d, .string t]) := by have h9 := HSp.out; unfold spotV at hret; rw [h9] at hret; exact hret
 subst hee
 have HC2 : Hid (_) := HC1.out.kept k1
 have HR1 : Hid (_) := HR.out.kept k1
 have HKw1 : Hid (Kept [] w w1) := HKR.out.trans k1 (by simp)
 have HRb1 : Hid (w1.heap[R]? = _) := (k1.block _ (lt_of_heap HRb.out) (by simp)).trans HRb.out
 clear hret k1 HC1 HR HRb
 obtain ⟨W2, Q, HWQ, HKQ, q0, q1⟩ := box2 w1 (.int .i64 d) (.string t) 147
 have HQb : Hid (W2.heap[Q]? = some (.cells #[.int .i64 d, .string t] 147 (0, 0)) ∧ w1.heap.size ≤ Q) := by
  rw [← HWQ.out.1, ← HWQ.out.2]; exact ⟨Go.heap_alloc_new _ _, Nat.le_refl _⟩
 go_upto_region 2 with fail
 rw [HWQ.out.1, HWQ.out.2]
 clear HWQ
 have HR2 : Hid (_) := HR1.out.kept HKQ.out
 have HC3 : Hid (_) := HC2.out.kept HKQ.out
 have HKw2 : Hid (Kept [] w W2) := HKw1.out.trans HKQ.out (by simp)
 have HRb2 : Hid (W2.heap[R]? = _) := (HKQ.out.block _ (lt_of_heap HRb1.out) (by simp)).trans HRb1.out
 have HQo : Hid (Off [Q] v1 v2 v3 ev ∧ Q ≠ B) := HC2.out.new HQb.out.2
 have HQR : Hid (Q ≠ R) := by have h1 := lt_of_heap HRb1.out; have h2 := HQb.out.2; exact fun e => by omega
 clear HKQ HC2 HR1 HKw1 HRb1
 go_wp2_with fail
 refine (p_at_none HR2.out d t HAt.out hk HP.out).mono ?_
 rintro e w2 ⟨rfl, k2⟩
 have HC4 : Hid (_) := HC3.out.kept k2
 have HKw3 : Hid (Kept [] w w2) := HKw2.out.trans k2 (by simp)
 clear k2 q0 q1
 go_wp2_with fail
 refine (p_if 1 (by decide) w2).mono ?_
 rintro e w9 ⟨rfl, hw⟩
 subst hw
 exact ⟨rfl, Out.err rfl HC4.out (FrB.kept HKw3.out)⟩
theorem p_unlink_dir {w0 w : World} {B : Nat} {c : Cal} {pk v1 v2 v3 : Value} {ev : List Value} {S : Sta} (h : Cb w0 w B c pk v1 v2 v3 ev S) {d : Int} {t : ByteArray} {k : Nat} (hsp : spotR S.ino c.path = .ok (d, t)) (hclo : Clo S.ino) (hat : atR S.ino d = some k) (hk : k < S.ino.length) {i j : Nat} (hp : plR (S.ino[k]).ents t = some i ∧ ∃ hi : i < (S.ino[k]).ents.length, atR S.ino ((S.ino[k]).ents[i]).2 = some j) (hj : j < S.ino.length) (hd : (S.ino[j]).dir = true) :
  Calls Tryz.prog 110 #[.pointer (some ⟨B, 0, none⟩)] w (Out w0 w B c pk v1 v2 v3 ev S (.error 8)) := by
 obtain ⟨W1, R, HWR, HKR, HRb, HC1, HRo, HRw, HRl, p, e1, e2, e3, hrd, f1, f3, HR, HV⟩ := prg h
 have HBd : Hid (Bd S) := h.bd
 have HSp : Hid (_) := hsp
 have HClo : Hid (_) := hclo
 have HAt : Hid (_) := hat
 have HP : Hid (_) := hp
 have d5 := hrd.c5
 have HDt : Hid (_) := hd
 clear h e1 e2 e3 f1 f3 hrd hsp hclo hat hp hd
 go_enter Tryz.func110, Tryz.ntmps110
 go_upto_region 1 with fail
 rw [HWR.out.1, HWR.out.2]
 clear HWR
 go_wp2_with fail
 refine (p_spot HR.out HClo.out c.path).mono ?_
 rintro e w1 ⟨hret, k1⟩
 have hee : e = .returned (.agg #[.int .i64 d, .string t]) := by have h9 := HSp.out; unfold spotV at hret; rw [h9] at hret; exact hret
 subst hee
 have HC2 : Hid (_) := HC1.out.kept k1
 have HR1 : Hid (_) := HR.out.kept k1
 have HKw1 : Hid (Kept [] w w1) := HKR.out.trans k1 (by simp)
 have HRb1 : Hid (w1.heap[R]? = _) := (k1.block _ (lt_of_heap HRb.out) (by simp)).trans HRb.out
 clear hret k1 HC1 HR HRb
 obtain ⟨W2, Q, HWQ, HKQ, q0, q1⟩ := box2 w1 (.int .i64 d) (.string t) 147
 have HQb : Hid (W2.heap[Q]? = some (.cells #[.int .i64 d, .string t] 147 (0, 0)) ∧ w1.heap.size ≤ Q) := by
  rw [← HWQ.out.1, ← HWQ.out.2]; exact ⟨Go.heap_alloc_new _ _, Nat.le_refl _⟩
 go_upto_region 2 with fail
 rw [HWQ.out.1, HWQ.out.2]
 clear HWQ
 have HR2 : Hid (_) := HR1.out.kept HKQ.out
 have HC3 : Hid (_) := HC2.out.kept HKQ.out
 have HKw2 : Hid (Kept [] w W2) := HKw1.out.trans HKQ.out (by simp)
 have HRb2 : Hid (W2.heap[R]? = _) := (HKQ.out.block _ (lt_of_heap HRb1.out) (by simp)).trans HRb1.out
 have HQo : Hid (Off [Q] v1 v2 v3 ev ∧ Q ≠ B) := HC2.out.new HQb.out.2
 have HQR : Hid (Q ≠ R) := by have h1 := lt_of_heap HRb1.out; have h2 := HQb.out.2; exact fun e => by omega
 clear HKQ HC2 HR1 HKw1 HRb1
 obtain ⟨b1, o1, ae, ce, ha, -⟩ := HR2.out.sv.ino k hk
 have ho1 : o1 = 0 := by
  obtain ⟨g, hg⟩ := HV.out.2.2.2.1 _ ha
  simp only [Addr.mk.injEq, and_true] at hg
  exact hg.2
 subst ho1
 have HA : Hid (p.a1 = some ⟨b1, 0, none⟩) := ha
 clear ha
 go_wp2_with fail
 refine (p_at_some HR2.out d t HAt.out hk HP.out HA.out).mono ?_
 rintro e w2 ⟨rfl, k2⟩
 rw [Nat.zero_add]
 have HC4 : Hid (_) := HC3.out.kept k2
 have HR3 : Hid (_) := HR2.out.kept k2
 have HKw3 : Hid (Kept [] w w2) := HKw2.out.trans k2 (by simp)
 have HRb3 : Hid (w2.heap[R]? = _) := (k2.block _ (lt_of_heap HRb2.out) (by simp)).trans HRb2.out
 have HQ3 : Hid (w2.heap[Q]? = _) := (k2.block _ (lt_of_heap HQb.out.1) (by simp)).trans HQb.out.1
 obtain ⟨b2, o2, ae2, ce2, ha2, p0, p1, p2, p3, p4, p5, p6⟩ := HR3.out.sv.ino j hj
 rw [HA.out] at ha2
 simp only [Option.some.injEq, Addr.mk.injEq, and_true] at ha2
 obtain ⟨hb2, ho2⟩ := ha2
 subst hb2 ho2
 rw [Nat.zero_add] at p0 p1 p2 p3
 clear k2 q0 q1 p4 p5 p6 HKw2 HRb2 HC3 HR2
 go_wp2_with fail
 refine (p_if_no 1 w2).mono ?_
 rintro e w9 ⟨rfl, hw⟩
 have hw2 := hw.symm
 subst hw2
 rw [HDt.out] at p1
 go_wp2_with fail
 refine (p_if 8 (by decide) w2).mono ?_
 rintro e w9 ⟨rfl, hw⟩
 subst hw
 exact ⟨rfl, Out.err rfl HC4.out (FrB.kept HKw3.out)⟩
theorem p_unlink {w0 w : World} {B : Nat} {c : Cal} {pk v1 v2 v3 : Value} {ev : List Value} {S : Sta} (h : Cb w0 w B c pk v1 v2 v3 ev S) {d : Int} {t : ByteArray} {k : Nat} (hsp : spotR S.ino c.path = .ok (d, t)) (hclo : Clo S.ino) (hat : atR S.ino d = some k) (hk : k < S.ino.length) {i j : Nat} (hi : i < (S.ino[k]).ents.length) (hp : plR (S.ino[k]).ents t = some i) (hat2 : atR S.ino ((S.ino[k]).ents[i]).2 = some j) (hj : j < S.ino.length) (hr : adj ltI S.ino = true) (hs : S.ino.length ≤ 60000) (hd : (S.ino[j]).dir = false) :
  Calls Tryz.prog 110 #[.pointer (some ⟨B, 0, none⟩)] w (Out w0 w B c pk v1 v2 v3 ev S (.ok (sweepS (setE S k hk ((S.ino[k]).ents.eraseIdx i)) ((S.ino[k]).ents[i]).2, ansC 0))) := by
 obtain ⟨W1, R, HWR, HKR, HRb, HC1, HRo, HRw, HRl, p, e1, e2, e3, hrd, f1, f3, HR, HV⟩ := prg h
 have HBd : Hid (Bd S) := h.bd
 have HSp : Hid (_) := hsp
 have HClo : Hid (_) := hclo
 have HAt : Hid (_) := hat
 have HP : Hid (plR (S.ino[k]).ents t = some i ∧ ∃ hi : i < (S.ino[k]).ents.length, atR S.ino ((S.ino[k]).ents[i]).2 = some j) := ⟨hp, hi, hat2⟩
 have HRow : Hid (adj ltI S.ino = true ∧ S.ino.length ≤ 60000) := ⟨hr, hs⟩
 have d5 := hrd.c5
 have HDt : Hid (_) := hd
 clear h e1 e2 e3 f1 f3 hrd hsp hclo hat hp hat2 hr hs hd
 go_enter Tryz.func110, Tryz.ntmps110
 go_upto_region 1 with fail
 rw [HWR.out.1, HWR.out.2]
 clear HWR
 go_wp2_with fail
 refine (p_spot HR.out HClo.out c.path).mono ?_
 rintro e w1 ⟨hret, k1⟩
 have hee : e = .returned (.agg #[.int .i64 d, .string t]) := by have h9 := HSp.out; unfold spotV at hret; rw [h9] at hret; exact hret
 subst hee
 have HC2 : Hid (_) := HC1.out.kept k1
 have HR1 : Hid (_) := HR.out.kept k1
 have HKw1 : Hid (Kept [] w w1) := HKR.out.trans k1 (by simp)
 have HRb1 : Hid (w1.heap[R]? = _) := (k1.block _ (lt_of_heap HRb.out) (by simp)).trans HRb.out
 clear hret k1 HC1 HR HRb
 obtain ⟨W2, Q, HWQ, HKQ, q0, q1⟩ := box2 w1 (.int .i64 d) (.string t) 147
 have HQb : Hid (W2.heap[Q]? = some (.cells #[.int .i64 d, .string t] 147 (0, 0)) ∧ w1.heap.size ≤ Q) := by
  rw [← HWQ.out.1, ← HWQ.out.2]; exact ⟨Go.heap_alloc_new _ _, Nat.le_refl _⟩
 go_upto_region 2 with fail
 rw [HWQ.out.1, HWQ.out.2]
 clear HWQ
 have HR2 : Hid (_) := HR1.out.kept HKQ.out
 have HC3 : Hid (_) := HC2.out.kept HKQ.out
 have HKw2 : Hid (Kept [] w W2) := HKw1.out.trans HKQ.out (by simp)
 have HRb2 : Hid (W2.heap[R]? = _) := (HKQ.out.block _ (lt_of_heap HRb1.out) (by simp)).trans HRb1.out
 have HQo : Hid (Off [Q] v1 v2 v3 ev ∧ Q ≠ B) := HC2.out.new HQb.out.2
 have HQR : Hid (Q ≠ R) := by have h1 := lt_of_heap HRb1.out; have h2 := HQb.out.2; exact fun e => by omega
 clear HKQ HC2 HR1 HKw1 HRb1
 obtain ⟨b1, o1, ae, ce, ha, -⟩ := HR2.out.sv.ino k hk
 have ho1 : o1 = 0 := by
  obtain ⟨g, hg⟩ := HV.out.2.2.2.1 _ ha
  simp only [Addr.mk.injEq, and_true] at hg
  exact hg.2
 subst ho1
 have HA : Hid (p.a1 = some ⟨b1, 0, none⟩) := ha
 clear ha
 go_wp2_with fail
 refine (p_at_some HR2.out d t HAt.out hk HP.out HA.out).mono ?_
 rintro e w2 ⟨rfl, k2⟩
 rw [Nat.zero_add]
 have HC4 : Hid (_) := HC3.out.kept k2
 have HR3 : Hid (_) := HR2.out.kept k2
 have HKw3 : Hid (Kept [] w w2) := HKw2.out.trans k2 (by simp)
 have HRb3 : Hid (w2.heap[R]? = _) := (k2.block _ (lt_of_heap HRb2.out) (by simp)).trans HRb2.out
 have HQ3 : Hid (w2.heap[Q]? = _) := (k2.block _ (lt_of_heap HQb.out.1) (by simp)).trans HQb.out.1
 obtain ⟨b2, o2, ae2, ce2, ha2, p0, p1, p2, p3, p4, p5, p6⟩ := HR3.out.sv.ino j hj
 rw [HA.out] at ha2
 simp only [Option.some.injEq, Addr.mk.injEq, and_true] at ha2
 obtain ⟨hb2, ho2⟩ := ha2
 subst hb2 ho2
 rw [Nat.zero_add] at p0 p1 p2 p3
 clear k2 q0 q1 p4 p5 p6 HKw2 HRb2 HC3 HR2
 go_wp2_with fail
 refine (p_if_no 1 w2).mono ?_
 rintro e w9 ⟨rfl, hw⟩
 have hw2 := hw.symm
 subst hw2
 rw [HDt.out] at p1
 go_wp2_with fail
 refine (p_if_no 8 w2).mono ?_
 rintro e w9 ⟨rfl, hw⟩
 have hw2 := hw.symm
 subst hw2
 have q0 : w2.cell? ⟨Q, 0, none⟩ = some (.int .i64 d) := cellB HQ3.out
 have q1 : w2.cell? ⟨Q, 1, none⟩ = some (.string t) := cellB HQ3.out
 clear p0 p1 p2 p3
 go_wp2_with fail
 refine (p_take HC4.out d t HAt.out hk HP.out.1 HP.out.2.1 HRow.out.1 (by obtain ⟨h9, h8⟩ := HP.out.2; rw [h8]; rfl) HRow.out.2).mono ?_
 rintro e w5 ⟨rfl, u1, eu, hcb, hfr⟩
 have h5 := hfr.2 R (lt_of_heap HRb3.out) HRo.out.2 HRo.out.1
 have HB5 : Hid (w5.heap[R]? = _) := h5.1.trans HRb3.out
 have HO5 : Hid (_) := h5.2
 have HC5 : Hid (_) := hcb
 have HF5 : Hid (FrB B w w5 v1 v2 v3 ev u1 v2 v3 eu) := (FrB.kept HKw3.out).trans hfr
 clear h5 hcb hfr q0 q1
 obtain ⟨g0, g1, g2, g3, g4, g5⟩ := cz6 HB5.out
 obtain ⟨z0, z1, z2, z3, z4, z5⟩ := fz6 HB5.out
 go_wp2_with fail
 (try simp only [Exit.inBlock, Exit.then])
 refine bodyPost_ret (results_cell_row rfl _ _ R 31 #[.int .i64 0, .int .i64 0, .int .i64 0, .bool false, .string ⟨#[]⟩, .slice none 0 0] (0, 0) _ rfl (block_res HB5.out _ _ _ _ _ _) Tryz.underlying31 rfl (by kernel_rfl)) rfl ?_
 exact Out.val rfl rfl rfl (HC5.out.res HRl.out HO5.out HRo.out.2 _ _ _ _ _ _) (FrB.res HF5.out HRw.out _ _ _ _ _ _)
@[reducible] def putR (S : Sta) (k : Nat) (hk : k < S.ino.length) (t : ByteArray) (nu : Int) : Sta := setE S k hk (insR ltE (S.ino[k]).ents (t, nu))
def entNum (E : List En) (i : Nat) : Int := ((E[i]?).map Prod.snd).getD 0
def desNum (D : List Ds) (j : Nat) : Int := ((D[j]?).map fun d => d.2.2).getD 0
def dataAt (S : Sta) (k : Nat) : ByteArray := ((S.ino[k]?).map Ino.data).getD ⟨#[]⟩
def dataOf (L : List Ino) (z : Int) : ByteArray := match atR L z with
 | none => ⟨#[]⟩
 | some k => (L[k]?.map Ino.data).getD ⟨#[]⟩
def setDS (S : Sta) (k : Nat) (d : ByteArray) : Sta := if hk : k < S.ino.length then setD S k hk d else S
def setES (S : Sta) (k : Nat) (E : List En) : Sta := if hk : k < S.ino.length then setE S k hk E else S
def takeS (S : Sta) (d : Int) (t : ByteArray) : Sta := match atR S.ino d with
 | none => S
 | some k => match plR (entsOf S.ino d) t with
  | none => S
  | some i => sweepS (setES S k ((entsOf S.ino d).eraseIdx i)) (entNum (entsOf S.ino d) i)
def openR (S : Sta) (c : Cal) (pick : List Int → Int) : Except Int (Sta × Ans) :=
 if (findR S.ino c.path).2 ≠ 0 then .error (findR S.ino c.path).2 else
 if dirOf S.ino (findR S.ino c.path).1 then .error 8 else
 if freeR S.opn c.core = [] then .error 10 else
 .ok (⟨S.ino, insR ltD S.opn (c.core, pick (freeR S.opn c.core), (findR S.ino c.path).1), S.made⟩, ⟨0, pick (freeR S.opn c.core), 0, false, ⟨#[]⟩, []⟩)
def closeR (S : Sta) (c : Cal) : Except Int (Sta × Ans) := match fdP S.opn c.core c.fd with
 | none => .error 4
 | some j => .ok (sweepS (shutS S j) (desNum S.opn j), ansC 0)
def fileR (S : Sta) (c : Cal) : Except Int Nat := match fdP S.opn c.core c.fd with
 | none => .error 4
 | some j => match atR S.ino (desNum S.opn j) with
  | none => .error 4
  | some k => .ok k
def readR (S : Sta) (c : Cal) : Except Int (Sta × Ans) := match fileR S c with
 | .error e => .error e
 | .ok k => if (0 ≤ c.off ∧ c.off ≤ 256) ∧ 0 ≤ c.num ∧ c.num ≤ 256 then .ok (S, ⟨0, 0, 0, false, (dataAt S k).extract (min c.off.toNat (dataAt S k).size) (min (c.off.toNat + c.num.toNat) (dataAt S k).size), []⟩) else .error 9
def writeR (S : Sta) (c : Cal) : Except Int (Sta × Ans) := match fileR S c with
 | .error e => .error e
 | .ok k => if (0 ≤ c.off ∧ c.off ≤ 256) ∧ c.data.size ≤ 256 then
   (if 256 < c.off.toNat + c.data.size then .error 5 else if c.data.size = 0 then .ok (S, ansC 0) else .ok (setDS S k (strOfNums (writeL (dataAt S k) c.data c.off.toNat)), ⟨0, 0, (c.data.size : Int), false, ⟨#[]⟩, []⟩))
  else .error 9
def truncR (S : Sta) (c : Cal) : Except Int (Sta × Ans) := match fileR S c with
 | .error e => .error e
 | .ok k => if 0 ≤ c.num ∧ c.num ≤ 256 then .ok (setDS S k (strOfNums (sizedL (dataAt S k) c.num.toNat)), ansC 0) else .error 9
def sizeR (S : Sta) (c : Cal) : Except Int (Sta × Ans) := match fileR S c with
 | .error e => .error e
 | .ok k => .ok (S, ⟨0, 0, ((dataAt S k).size : Int), false, ⟨#[]⟩, []⟩)
def fsyncR (S : Sta) (c : Cal) : Except Int (Sta × Ans) := match fdP S.opn c.core c.fd with
 | none => .error 4
 | some _ => .ok (S, ansC 0)
def linkR (S : Sta) (c : Cal) : Except Int (Sta × Ans) :=
 if (findR S.ino c.path).2 ≠ 0 then .error (findR S.ino c.path).2 else
 if dirOf S.ino (findR S.ino c.path).1 then .error 8 else
 match spotR S.ino c.path2 with
 | .error e => .error e
 | .ok (d, t) => if (plR (entsOf S.ino d) t).isSome then .error 2 else
  if 4 ≤ nFull (entsOf S.ino d) d t 0 ⟨#[]⟩ then .error 5 else .ok (putS S d (t, (findR S.ino c.path).1), ansC 0)
def unlinkR (S : Sta) (c : Cal) : Except Int (Sta × Ans) := match spotR S.ino c.path with
 | .error e => .error e
 | .ok (d, t) => match plR (entsOf S.ino d) t with
  | none => .error 1
  | some i => if dirOf S.ino (entNum (entsOf S.ino d) i) then .error 8 else .ok (takeS S d t, ansC 0)
def rmdirR (S : Sta) (c : Cal) : Except Int (Sta × Ans) := match spotR S.ino c.path with
 | .error e => .error e
 | .ok (d, t) => match plR (entsOf S.ino d) t with
  | none => .error 1
  | some i => if dirOf S.ino (entNum (entsOf S.ino d) i) then (if entsOf S.ino (entNum (entsOf S.ino d) i) = [] then .ok (takeS S d t, ansC 0) else .error 3) else .error 7
def renameR (S : Sta) (c : Cal) : Except Int (Sta × Ans) := match spotR S.ino c.path with
 | .error e => .error e
 | .ok (d1, t1) => match plR (entsOf S.ino d1) t1 with
  | none => .error 1
  | some i1 => match spotR S.ino c.path2 with
   | .error e => .error e
   | .ok (d, t) => if belowR c.path c.path2 then .error 9 else
    if (plR (entsOf S.ino d) t).isSome then .error 2 else
    if 4 ≤ nFull (entsOf S.ino d) d t d1 t1 then .error 5 else .ok (takeS (putS S d (t, entNum (entsOf S.ino d1) i1)) d1 t1, ansC 0)
def listR (S : Sta) (c : Cal) : Except Int (Sta × Ans) :=
 if (findR S.ino c.path).2 ≠ 0 then .error (findR S.ino c.path).2 else
 if dirOf S.ino (findR S.ino c.path).1 then .ok (S, ⟨0, 0, 0, false, ⟨#[]⟩, (entsOf S.ino (findR S.ino c.path).1).map Prod.fst⟩) else .error 7
def statR (S : Sta) (c : Cal) : Except Int (Sta × Ans) :=
 if (findR S.ino c.path).2 ≠ 0 then .error (findR S.ino c.path).2 else
 .ok (S, ⟨0, 0, ((dataOf S.ino (findR S.ino c.path).1).size : Int), dirOf S.ino (findR S.ino c.path).1, ⟨#[]⟩, []⟩)
def linksC (S : Sta) (c : Cal) : Except Int (Sta × Ans) :=
 if (findR S.ino c.path).2 ≠ 0 then .error (findR S.ino c.path).2 else
 if dirOf S.ino (findR S.ino c.path).1 then .error 8 else .ok (S, ⟨0, 0, ((linksR S.ino (findR S.ino c.path).1 : Nat) : Int), false, ⟨#[]⟩, []⟩)
theorem des_num {D : List Ds} {j : Nat} (h : j < D.length) : desNum D j = (D[j]).2.2 := by unfold desNum; rw [List.getElem?_eq_getElem h]; rfl
theorem ent_num {E : List En} {i : Nat} (h : i < E.length) : entNum E i = (E[i]).2 := by unfold entNum; rw [List.getElem?_eq_getElem h]; rfl
theorem data_at {S : Sta} {k : Nat} (h : k < S.ino.length) : dataAt S k = (S.ino[k]).data := by unfold dataAt; rw [List.getElem?_eq_getElem h]; rfl
theorem data_of {L : List Ino} {z : Int} {k : Nat} (ha : atR L z = some k) (h : k < L.length) : dataOf L z = (L[k]).data := by unfold dataOf; rw [ha]; simp [h]
theorem dir_of {L : List Ino} {z : Int} {k : Nat} (ha : atR L z = some k) (h : k < L.length) : dirOf L z = (L[k]).dir := by unfold dirOf; rw [ha]; simp [h]
theorem Wel.found {S : Sta} (h : Wel S) {s : ByteArray} (hc : (findR S.ino s).2 = 0) : ∃ k, ∃ hk : k < S.ino.length, findR S.ino s = ((findR S.ino s).1, 0) ∧ atR S.ino (findR S.ino s).1 = some k ∧ (S.ino[k]).num = (findR S.ino s).1 := by
 have he : findR S.ino s = ((findR S.ino s).1, 0) := by rw [← hc]
 have := find_found h.clo he
 rcases ha : atR S.ino (findR S.ino s).1 with _ | k
 · rw [ha] at this; cases this
 ·
  obtain ⟨hk, hn⟩ := at_get ha
  exact ⟨k, hk, he, rfl, hn⟩
theorem Wel.spot {S : Sta} (h : Wel S) {s : ByteArray} {d : Int} {t : ByteArray} (hs : spotR S.ino s = .ok (d, t)) : ∃ k, ∃ hk : k < S.ino.length, atR S.ino d = some k ∧ entsOf S.ino d = (S.ino[k]).ents := by
 obtain ⟨k, hk, ha, -, -⟩ := dir_at (spot_dir hs)
 exact ⟨k, hk, ha, ents_at ha hk⟩
theorem Wel.ent {S : Sta} (h : Wel S) {k : Nat} (hk : k < S.ino.length) {i : Nat} (hi : i < (S.ino[k]).ents.length) : ∃ j, ∃ hj : j < S.ino.length, atR S.ino ((S.ino[k]).ents[i]).2 = some j := by
 have := h.clo.ent k hk _ (List.getElem_mem hi)
 rcases ha : atR S.ino ((S.ino[k]).ents[i]).2 with _ | j
 · rw [ha] at this; cases this
 ·
  obtain ⟨hj, -⟩ := at_get ha
  exact ⟨j, hj, rfl⟩
theorem Wel.fd {S : Sta} (h : Wel S) {j : Nat} (hj : j < S.opn.length) : ∃ k, ∃ hk : k < S.ino.length, atR S.ino (S.opn[j]).2.2 = some k := by
 obtain ⟨-, -, -, -, k, hk, ha, -⟩ := h.fds _ (List.getElem_mem hj)
 exact ⟨k, hk, ha⟩
theorem setDS_in {S : Sta} {k : Nat} (hk : k < S.ino.length) (d : ByteArray) : setDS S k d = setD S k hk d := by unfold setDS; rw [dif_pos hk]
theorem setES_in {S : Sta} {k : Nat} (hk : k < S.ino.length) (E : List En) : setES S k E = setE S k hk E := by unfold setES; rw [dif_pos hk]
theorem take_in {S : Sta} {d : Int} {t : ByteArray} {k i : Nat} (ha : atR S.ino d = some k) (hk : k < S.ino.length) (hp : plR (S.ino[k]).ents t = some i) (hi : i < (S.ino[k]).ents.length) : takeS S d t = sweepS (setE S k hk ((S.ino[k]).ents.eraseIdx i)) ((S.ino[k]).ents[i]).2 := by
 unfold takeS
 rw [ha]
 simp only [ents_at ha hk, hp]
 rw [setES_in hk, ent_num hi]
theorem k_close {w0 w : World} {B : Nat} {c : Cal} {pk v1 v2 v3 : Value} {ev : List Value} {S : Sta} (h : Cb w0 w B c pk v1 v2 v3 ev S) (hw : Wel S) :
  Calls Tryz.prog 104 #[.pointer (some ⟨B, 0, none⟩)] w (Out w0 w B c pk v1 v2 v3 ev S (closeR S c)) := by
 unfold closeR
 rcases hf : fdP S.opn c.core c.fd with _ | j
 · exact p_close_none h hf
 ·
  obtain ⟨hj, -⟩ := idx_get hf
  obtain ⟨k, hk, ha⟩ := hw.fd hj
  simp only [des_num hj]
  exact p_close h hf hj hw.ia (by rw [ha]; rfl) (by have := hw.few; omega)
theorem k_trunc {w0 w : World} {B : Nat} {c : Cal} {pk v1 v2 v3 : Value} {ev : List Value} {S : Sta} (h : Cb w0 w B c pk v1 v2 v3 ev S) (hw : Wel S) :
  Calls Tryz.prog 107 #[.pointer (some ⟨B, 0, none⟩)] w (Out w0 w B c pk v1 v2 v3 ev S (truncR S c)) := by
 unfold truncR
 rcases hf : fdP S.opn c.core c.fd with _ | j
 ·
  have e : fileR S c = .error 4 := by unfold fileR; rw [hf]
  rw [e]
  exact p_truncate_none h hf
 obtain ⟨hj, -⟩ := idx_get hf
 obtain ⟨k, hk, ha⟩ := hw.fd hj
 have e : fileR S c = .ok k := by unfold fileR; rw [hf]; simp only [des_num hj, ha]
 rw [e]
 simp only [data_at hk]
 by_cases hn : 0 ≤ c.num ∧ c.num ≤ 256
 ·
  rw [if_pos hn, setDS_in hk]
  exact p_truncate h hf hj ha hk (n := c.num.toNat) (by omega) (by omega)
 ·
  rw [if_neg hn]
  exact p_truncate_bad h hf hj ha hk hn
theorem k_read {w0 w : World} {B : Nat} {c : Cal} {pk v1 v2 v3 : Value} {ev : List Value} {S : Sta} (h : Cb w0 w B c pk v1 v2 v3 ev S) (hw : Wel S) :
  Calls Tryz.prog 105 #[.pointer (some ⟨B, 0, none⟩)] w (Out w0 w B c pk v1 v2 v3 ev S (readR S c)) := by
 unfold readR
 rcases hf : fdP S.opn c.core c.fd with _ | j
 ·
  have e : fileR S c = .error 4 := by unfold fileR; rw [hf]
  rw [e]
  exact p_read_none h hf
 obtain ⟨hj, -⟩ := idx_get hf
 obtain ⟨k, hk, ha⟩ := hw.fd hj
 have e : fileR S c = .ok k := by unfold fileR; rw [hf]; simp only [des_num hj, ha]
 rw [e]
 simp only [data_at hk]
 by_cases ho : 0 ≤ c.off ∧ c.off ≤ 256
 ·
  by_cases hn : 0 ≤ c.num ∧ c.num ≤ 256
  ·
   rw [if_pos ⟨ho, hn⟩]
   exact p_read h hf hj ha hk (a := c.off.toNat) (m := c.num.toNat) (by omega) (by omega) (by omega) (by omega)
  ·
   rw [if_neg (fun x => hn x.2)]
   exact p_read_num h hf hj ha hk ho hn
 ·
  rw [if_neg (fun x => ho x.1)]
  exact p_read_off h hf hj ha hk ho
theorem k_write {w0 w : World} {B : Nat} {c : Cal} {pk v1 v2 v3 : Value} {ev : List Value} {S : Sta} (h : Cb w0 w B c pk v1 v2 v3 ev S) (hw : Wel S) (hz : c.data.size ≤ 9223372036854775807) :
  Calls Tryz.prog 106 #[.pointer (some ⟨B, 0, none⟩)] w (Out w0 w B c pk v1 v2 v3 ev S (writeR S c)) := by
 unfold writeR
 rcases hf : fdP S.opn c.core c.fd with _ | j
 ·
  have e : fileR S c = .error 4 := by unfold fileR; rw [hf]
  rw [e]
  exact p_write_none h hf
 obtain ⟨hj, -⟩ := idx_get hf
 obtain ⟨k, hk, ha⟩ := hw.fd hj
 have e : fileR S c = .ok k := by unfold fileR; rw [hf]; simp only [des_num hj, ha]
 rw [e]
 simp only [data_at hk]
 by_cases ho : 0 ≤ c.off ∧ c.off ≤ 256
 ·
  by_cases hn : c.data.size ≤ 256
  ·
   rw [if_pos ⟨ho, hn⟩]
   by_cases hq : 256 < c.off.toNat + c.data.size
   ·
    rw [if_pos hq]
    exact p_write_full h hf hj ha hk (a := c.off.toNat) (by omega) (by omega) hn hq
   ·
    rw [if_neg hq]
    by_cases h0 : c.data.size = 0
    ·
     rw [if_pos h0]
     exact p_write_zero h hf hj ha hk (a := c.off.toNat) (by omega) (by omega) h0
    ·
     rw [if_neg h0, setDS_in hk]
     exact p_write h hf hj ha hk (a := c.off.toNat) (by omega) (by omega) (by omega) (by omega)
  ·
   rw [if_neg (fun x => hn x.2)]
   exact p_write_size h hf hj ha hk hz ho (by omega)
 ·
  rw [if_neg (fun x => ho x.1)]
  exact p_write_off h hf hj ha hk hz ho
theorem k_stat {w0 w : World} {B : Nat} {c : Cal} {pk v1 v2 v3 : Value} {ev : List Value} {S : Sta} (h : Cb w0 w B c pk v1 v2 v3 ev S) (hw : Wel S) :
  Calls Tryz.prog 114 #[.pointer (some ⟨B, 0, none⟩)] w (Out w0 w B c pk v1 v2 v3 ev S (statR S c)) := by
 unfold statR
 by_cases hc : (findR S.ino c.path).2 = 0
 rotate_left
 ·
  rw [if_pos hc]
  exact p_stat_bad h (num := (findR S.ino c.path).1) rfl hc
 rw [if_neg (fun x => x hc)]
 obtain ⟨f, hf0, hf, ha, hn⟩ := hw.found hc
 rw [data_of ha hf0, dir_of ha hf0]
 exact p_stat h hf ha hf0
theorem k_links {w0 w : World} {B : Nat} {c : Cal} {pk v1 v2 v3 : Value} {ev : List Value} {S : Sta} (h : Cb w0 w B c pk v1 v2 v3 ev S) (hw : Wel S) :
  Calls Tryz.prog 115 #[.pointer (some ⟨B, 0, none⟩)] w (Out w0 w B c pk v1 v2 v3 ev S (linksC S c)) := by
 unfold linksC
 by_cases hc : (findR S.ino c.path).2 = 0
 rotate_left
 ·
  rw [if_pos hc]
  exact p_links_bad h (num := (findR S.ino c.path).1) rfl hc
 rw [if_neg (fun x => x hc)]
 obtain ⟨f, hf0, hf, ha, hn⟩ := hw.found hc
 rw [dir_of ha hf0]
 rcases hd : (S.ino[f]).dir with _ | _
 ·
  have := p_links_of h hf ha hf0 hd (by have := hw.few; omega)
  rw [hn] at this
  exact this
 · exact p_links_dir h hf ha hf0 hd
theorem k_unlink {w0 w : World} {B : Nat} {c : Cal} {pk v1 v2 v3 : Value} {ev : List Value} {S : Sta} (h : Cb w0 w B c pk v1 v2 v3 ev S) (hw : Wel S) :
  Calls Tryz.prog 110 #[.pointer (some ⟨B, 0, none⟩)] w (Out w0 w B c pk v1 v2 v3 ev S (unlinkR S c)) := by
 unfold unlinkR
 rcases hs : spotR S.ino c.path with code | ⟨d, t⟩
 · exact p_unlink_spot h hs hw.clo
 obtain ⟨k, hk, hat, he⟩ := hw.spot hs
 simp only [he]
 rcases hp : plR (S.ino[k]).ents t with _ | i
 · exact p_unlink_none h hs hw.clo hat hk hp
 obtain ⟨hi, -⟩ := idx_get hp
 obtain ⟨j, hj, hja⟩ := hw.ent hk hi
 simp only [ent_num hi, dir_of hja hj]
 rcases hd : (S.ino[j]).dir with _ | _
 ·
  rw [if_neg (by simp), take_in hat hk hp hi]
  exact p_unlink h hs hw.clo hat hk hi hp hja hj hw.ia (by have := hw.few; omega) hd
 · exact p_unlink_dir h hs hw.clo hat hk ⟨hp, hi, hja⟩ hj hd
theorem k_create {w0 w : World} {B : Nat} {c : Cal} {pk v1 v2 v3 : Value} {ev : List Value} {S : Sta} (h : Cb w0 w B c pk v1 v2 v3 ev S) (hw : Wel S) {i : Nat} (hc : c.core = (i : Int)) (hi : i < S.made.length) (dir : Bool) :
  Calls Tryz.prog 102 #[.pointer (some ⟨B, 0, none⟩), .bool dir] w (Out w0 w B c pk v1 v2 v3 ev S (createR S c i dir)) := by
 refine p_create h (hw.fit hc hi) dir fun S' v hr => ?_
 unfold createR at hr
 rcases hs : spotR S.ino c.path with code | ⟨d, t⟩
 · rw [hs] at hr; cases hr
 rw [hs] at hr
 simp only at hr
 split at hr
 · cases hr
 split at hr
 · cases hr
 simp only [Except.ok.injEq, Prod.mk.injEq] at hr
 obtain ⟨k, hk, hat, he⟩ := hw.spot hs
 rw [← hr.1]
 have hfr := hw.fresh hi
 rw [← hc] at hfr
 have hg : S.made.getD i 0 = S.made[i] := by rw [List.getD_eq_getElem?_getD, List.getElem?_eq_getElem hi]; rfl
 have hmg := hw.mg _ (List.getElem_mem hi)
 have h8 := hw.m8
 obtain ⟨x, hx⟩ : ∃ x : Ino, (⟨2 + c.core + 8 * S.made.getD i 0, dir, [], ⟨#[]⟩⟩ : Ino) = x := ⟨_, rfl⟩
 have hxn : x.num = 2 + c.core + 8 * S.made.getD i 0 := by rw [← hx]
 have hxe : x.ents = [] := by rw [← hx]
 have hxd : x.data = ⟨#[]⟩ := by rw [← hx]
 rw [hx]
 obtain ⟨hk9, hdn⟩ := at_get hat
 have hne : x.num ≠ d := fun e => by
  have := hfr _ (List.getElem_mem hk)
  rw [hdn, ← hxn] at this
  exact this e.symm
 obtain ⟨j, hj1, hj, hj2⟩ := at_ins hat hne hk
 have b1 : Bd ⟨insR ltI S.ino x, S.opn, S.made.set i (S.made.getD i 0 + 1)⟩ := by
  have b0 := h.bd.putIno (x := x) (by have := hw.few; omega) hxe hxd (by rw [hxn, hg, hc]; omega)
  exact ⟨b0.n1, b0.n2, by simpa using b0.n3, b0.n4, b0.w1, b0.d1, b0.e1⟩
 rw [putS_at (S := ⟨insR ltI S.ino x, S.opn, S.made.set i (S.made.getD i 0 + 1)⟩) hj1 hj]
 refine b1.setEnt hj ?_ ?_
 ·
  rw [insR_length]
  have e9 : ((insR ltI S.ino x)[j]).ents.length ≤ 32 := by rw [hj2]; exact hw.en _ (List.getElem_mem hk)
  show ((insR ltI S.ino x)[j]).ents.length + 1 ≤ _
  omega
 ·
  intro e he2
  unfold insR at he2
  simp only [List.mem_append, List.mem_cons] at he2
  have old : ∀ q ∈ ((insR ltI S.ino x)[j]).ents, q.1.size ≤ 140737488351232 := fun q hq => by rw [hj2] at hq; exact h.bd.e1 _ (List.getElem_mem hk) q hq
  rcases he2 with h1 | h1 | h1
  · exact old e (List.mem_of_mem_take h1)
  · rw [h1]; show t.size ≤ _; have := (spot_name hs).2; omega
  · exact old e (List.mem_of_mem_drop h1)
theorem k_least {w0 w : World} {B : Nat} {c : Cal} {v1 v2 v3 : Value} {ev : List Value} {S : Sta} (h : Cb w0 w B c (.func (.func 22) #[] #[]) v1 v2 v3 ev S) (hw : Wel S) :
  Calls Tryz.prog 103 #[.pointer (some ⟨B, 0, none⟩)] w (Out w0 w B c (.func (.func 22) #[] #[]) v1 v2 v3 ev S (openR S c headI)) := by
 unfold openR
 by_cases hc : (findR S.ino c.path).2 = 0
 rotate_left
 ·
  rw [if_pos hc]
  exact p_open_bad h (num := (findR S.ino c.path).1) rfl hc
 rw [if_neg (fun x => x hc)]
 obtain ⟨f, hf0, hf, ha, hn⟩ := hw.found hc
 rw [dir_of ha hf0]
 rcases hd : (S.ino[f]).dir with _ | _
 rotate_left
 · exact p_open_dir h hf ha hf0 hd
 rw [if_neg (by simp)]
 by_cases hn2 : freeR S.opn c.core = []
 ·
  rw [if_pos hn2]
  exact p_open_full h hf ha hf0 hd hn2
 rw [if_neg hn2, ← hn]
 exact p_open_least h hf ha hf0 hd (List.length_pos_iff.2 hn2) hw.da (by have := hw.few2; omega)
theorem k_told {w0 w : World} {X : Nat} {B : Nat} {c : Cal} {v1 v2 v3 : Value} {ev : List Value} {S : Sta} (h : Cb w0 w B c (.func (.func 26) #[] #[.pointer (some ⟨X, 0, none⟩)]) v1 v2 v3 ev S) (hw : Wel S) {z : Int} (hX : w0.cell? ⟨X, 1, none⟩ = some (.int .i64 z)) :
  Calls Tryz.prog 103 #[.pointer (some ⟨B, 0, none⟩)] w (Out w0 w B c (.func (.func 26) #[] #[.pointer (some ⟨X, 0, none⟩)]) v1 v2 v3 ev S (openR S c (fun xs => toldI xs z))) := by
 unfold openR
 by_cases hc : (findR S.ino c.path).2 = 0
 rotate_left
 ·
  rw [if_pos hc]
  exact p_open_bad h (num := (findR S.ino c.path).1) rfl hc
 rw [if_neg (fun x => x hc)]
 obtain ⟨f, hf0, hf, ha, hn⟩ := hw.found hc
 rw [dir_of ha hf0]
 rcases hd : (S.ino[f]).dir with _ | _
 rotate_left
 · exact p_open_dir h hf ha hf0 hd
 rw [if_neg (by simp)]
 by_cases hn2 : freeR S.opn c.core = []
 ·
  rw [if_pos hn2]
  exact p_open_full h hf ha hf0 hd hn2
 rw [if_neg hn2, ← hn]
 exact p_open_told h hf ha hf0 hd (List.length_pos_iff.2 hn2) hw.da (by have := hw.few2; omega) hX
theorem catch_idle (R : Nat) (w : World) : CallsD Tryz.prog 64 #[.pointer (some ⟨R, 0, none⟩)] .returning w fun e u' w' => e = .returned (.tuple #[]) ∧ u' = .returning ∧ w' = w := by
 refine callsD_of_wpS Tryz.func64 rfl fun c₀ cs hu => ?_
 apply wpS_seq
 apply wpS_region
 simp [wpOpsS, go_sem, recoverD, hu, Tryz.ntmps64, Exit.thenS]
 refine wpS_of_wp ?_
 go_wp2_with fail
 cases c₀
 simp_all [bodyPostS, results, Tryz.results64]
theorem catch_thrown (R : Nat) (code : Int) (older : List PanicEntry) {w : World} {c0 c1 c2 c3 c4 c5 : Value} (hb : w.heap[R]? = some (.cells #[c0, c1, c2, c3, c4, c5] 31 (0, 0))) :
  CallsD Tryz.prog 64 #[.pointer (some ⟨R, 0, none⟩)] (.panicking ({ v := .iface 105 (.int .i64 code), recovered := false } :: older)) w fun e u' w' =>
   e = .returned (.tuple #[]) ∧ u' = .panicking ({ v := .iface 105 (.int .i64 code), recovered := true } :: older) ∧ w' = laidR w R (.int .i64 code) (.int .i64 0) (.int .i64 0) (.bool false) (.string ⟨#[]⟩) (.slice none 0 0) := by
 have g0 : w.cell? ⟨R, 0, none⟩ = some c0 := cellB hb
 have g1 : w.cell? ⟨R, 1, none⟩ = some c1 := cellB hb
 have g2 : w.cell? ⟨R, 2, none⟩ = some c2 := cellB hb
 have g3 : w.cell? ⟨R, 3, none⟩ = some c3 := cellB hb
 have g4 : w.cell? ⟨R, 4, none⟩ = some c4 := cellB hb
 have g5 : w.cell? ⟨R, 5, none⟩ = some c5 := cellB hb
 obtain ⟨z0, z1, z2, z3, z4, z5⟩ := fz6 hb
 have HB : Hid (_) := hb
 have hta : ∀ w, (Instr.typeAssert (.iface 105 (.int .i64 code)) 20 105 true).run Tryz.prog w = .ok (.tuple #[.int .i64 code, .bool true]) w := fun w => by kernel_rfl
 clear hb
 refine callsD_of_wpS Tryz.func64 rfl fun c₀ cs hu => ?_
 apply wpS_seq
 apply wpS_region
 simp [wpOpsS, go_sem, recoverD, hu, Tryz.ntmps64, Exit.thenS]
 refine wpS_of_wp ?_
 go_wp2_with fail
 simp [bodyPostS, results, Tryz.results64]
end Go.Proofs.YtjneoegbknclgaaGreatDoor
