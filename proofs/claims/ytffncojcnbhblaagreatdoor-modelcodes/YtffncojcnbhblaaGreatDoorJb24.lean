/-
  Joined of my texts Un.
-/
import Derived.Test.YtffncojcnbhblaaGreatDoorJb17
import Derived.Test.YtffncojcnbhblaaGreatDoorTk
set_option linter.unusedVariables false
set_option linter.unusedSimpArgs false
set_option maxRecDepth 100000
set_option maxHeartbeats 8000000
namespace Go.Proofs.YtffncojcnbhblaaGreatDoor
open Go.RowKit
theorem p_unlink_spot {w0 w:World} {B:Nat} {c:Cal} {pk v1 v2 v3:Value} {ev:List Value} {S:Sta} (h:Cb w0 w B c pk v1 v2 v3 ev S) {code:Int} (hsp:spotR S.ino c.path=.error code) (hclo:Clo S.ino) :
  Calls Tryz.prog 111 #[.pointer (some ⟨B,0,none⟩)] w (Out w0 w B c pk v1 v2 v3 ev S (.error code)):=by
 obtain ⟨W1,R,HWR,HKR,HRb,HC1,HRo,HRw,HRl,p,e1,e2,e3,hrd,f1,f3,HR,HV⟩:=prg h
 have HBd:Hid (Bd S):=h.bd
 have HSp:Hid (_):=hsp
 have HClo:Hid (_):=hclo
 have d5:=hrd.c5
 clear h e1 e2 e3 f1 f3 hrd hsp hclo
 go_enter Tryz.func111,Tryz.ntmps111
 go_upto_region 1 with fail
 rw [HWR.out.1,HWR.out.2]
 clear HWR
 go_wp2_with fail
 refine (p_spot HR.out HClo.out c.path).mono ?_
 rintro e w1 ⟨hret,k1⟩
 have hee:e=thr code:=by have h9:=HSp.out;unfold spotV at hret;rw [h9] at hret;exact hret
 subst hee
 exact ⟨rfl,Out.err rfl (HC1.out.kept k1) (FrB.kept (HKR.out.trans k1 (by simp)))⟩
theorem p_unlink_none {w0 w:World} {B:Nat} {c:Cal} {pk v1 v2 v3:Value} {ev:List Value} {S:Sta} (h:Cb w0 w B c pk v1 v2 v3 ev S) {d:Int} {t:ByteArray} {k:Nat} (hsp:spotR S.ino c.path=.ok (d,t)) (hclo:Clo S.ino) (hat:atR S.ino d=some k) (hk:k < S.ino.length) (hp:plR (S.ino[k]).ents t=none) :
  Calls Tryz.prog 111 #[.pointer (some ⟨B,0,none⟩)] w (Out w0 w B c pk v1 v2 v3 ev S (.error 1)):=by
 obtain ⟨W1,R,HWR,HKR,HRb,HC1,HRo,HRw,HRl,p,e1,e2,e3,hrd,f1,f3,HR,HV⟩:=prg h
 have HBd:Hid (Bd S):=h.bd
 have HSp:Hid (_):=hsp
 have HClo:Hid (_):=hclo
 have HAt:Hid (_):=hat
 have HP:Hid (_):=hp
 have d5:=hrd.c5
 clear h e1 e2 e3 f1 f3 hrd hsp hclo hat hp
 go_enter Tryz.func111,Tryz.ntmps111
 go_upto_region 1 with fail
 rw [HWR.out.1,HWR.out.2]
 clear HWR
 go_wp2_with fail
 refine (p_spot HR.out HClo.out c.path).mono ?_
 rintro e w1 ⟨hret,k1⟩
 have hee:e=.returned (.agg #[.int .i64 d,.string t]):=by have h9:=HSp.out;unfold spotV at hret;rw [h9] at hret;exact hret
 subst hee
 have HC2:Hid (_):=HC1.out.kept k1
 have HR1:Hid (_):=HR.out.kept k1
 have HKw1:Hid (Kept [] w w1):=HKR.out.trans k1 (by simp)
 have HRb1:Hid (w1.heap[R]?=_):=(k1.block _ (lt_of_heap HRb.out) (by simp)).trans HRb.out
 clear hret k1 HC1 HR HRb
 obtain ⟨W2,Q,HWQ,HKQ,q0,q1⟩:=box2 w1 (.int .i64 d) (.string t) 147
 have HQb:Hid (W2.heap[Q]?=some (.cells #[.int .i64 d,.string t] 147 (0,0))∧w1.heap.size≤Q):=by
  rw [← HWQ.out.1,← HWQ.out.2];exact ⟨Go.heap_alloc_new _ _,Nat.le_refl _⟩
 go_upto_region 2 with fail
 rw [HWQ.out.1,HWQ.out.2]
 clear HWQ
 have HR2:Hid (_):=HR1.out.kept HKQ.out
 have HC3:Hid (_):=HC2.out.kept HKQ.out
 have HKw2:Hid (Kept [] w W2):=HKw1.out.trans HKQ.out (by simp)
 have HRb2:Hid (W2.heap[R]?=_):=(HKQ.out.block _ (lt_of_heap HRb1.out) (by simp)).trans HRb1.out
 have HQo:Hid (Off [Q] v1 v2 v3 ev∧Q≠B):=HC2.out.new HQb.out.2
 have HQR:Hid (Q≠R):=by have h1:=lt_of_heap HRb1.out;have h2:=HQb.out.2;exact fun e=>by omega
 clear HKQ HC2 HR1 HKw1 HRb1
 go_wp2_with fail
 refine (p_at_none HR2.out d t HAt.out hk HP.out).mono ?_
 rintro e w2 ⟨rfl,k2⟩
 have HC4:Hid (_):=HC3.out.kept k2
 have HKw3:Hid (Kept [] w w2):=HKw2.out.trans k2 (by simp)
 clear k2 q0 q1
 go_wp2_with fail
 refine (p_if 1 (by decide) w2).mono ?_
 rintro e w9 ⟨rfl,hw⟩
 subst hw
 exact ⟨rfl,Out.err rfl HC4.out (FrB.kept HKw3.out)⟩
theorem p_rmdir_spot {w0 w:World} {B:Nat} {c:Cal} {pk v1 v2 v3:Value} {ev:List Value} {S:Sta} (h:Cb w0 w B c pk v1 v2 v3 ev S) {code:Int} (hsp:spotR S.ino c.path=.error code) (hclo:Clo S.ino) :
  Calls Tryz.prog 112 #[.pointer (some ⟨B,0,none⟩)] w (Out w0 w B c pk v1 v2 v3 ev S (.error code)):=by
 obtain ⟨W1,R,HWR,HKR,HRb,HC1,HRo,HRw,HRl,p,e1,e2,e3,hrd,f1,f3,HR,HV⟩:=prg h
 have HBd:Hid (Bd S):=h.bd
 have HSp:Hid (_):=hsp
 have HClo:Hid (_):=hclo
 have d5:=hrd.c5
 clear h e1 e2 e3 f1 f3 hrd hsp hclo
 go_enter Tryz.func112,Tryz.ntmps112
 go_upto_region 1 with fail
 rw [HWR.out.1,HWR.out.2]
 clear HWR
 go_wp2_with fail
 refine (p_spot HR.out HClo.out c.path).mono ?_
 rintro e w1 ⟨hret,k1⟩
 have hee:e=thr code:=by have h9:=HSp.out;unfold spotV at hret;rw [h9] at hret;exact hret
 subst hee
 exact ⟨rfl,Out.err rfl (HC1.out.kept k1) (FrB.kept (HKR.out.trans k1 (by simp)))⟩
theorem p_rmdir_none {w0 w:World} {B:Nat} {c:Cal} {pk v1 v2 v3:Value} {ev:List Value} {S:Sta} (h:Cb w0 w B c pk v1 v2 v3 ev S) {d:Int} {t:ByteArray} {k:Nat} (hsp:spotR S.ino c.path=.ok (d,t)) (hclo:Clo S.ino) (hat:atR S.ino d=some k) (hk:k < S.ino.length) (hp:plR (S.ino[k]).ents t=none) :
  Calls Tryz.prog 112 #[.pointer (some ⟨B,0,none⟩)] w (Out w0 w B c pk v1 v2 v3 ev S (.error 1)):=by
 obtain ⟨W1,R,HWR,HKR,HRb,HC1,HRo,HRw,HRl,p,e1,e2,e3,hrd,f1,f3,HR,HV⟩:=prg h
 have HBd:Hid (Bd S):=h.bd
 have HSp:Hid (_):=hsp
 have HClo:Hid (_):=hclo
 have HAt:Hid (_):=hat
 have HP:Hid (_):=hp
 have d5:=hrd.c5
 clear h e1 e2 e3 f1 f3 hrd hsp hclo hat hp
 go_enter Tryz.func112,Tryz.ntmps112
 go_upto_region 1 with fail
 rw [HWR.out.1,HWR.out.2]
 clear HWR
 go_wp2_with fail
 refine (p_spot HR.out HClo.out c.path).mono ?_
 rintro e w1 ⟨hret,k1⟩
 have hee:e=.returned (.agg #[.int .i64 d,.string t]):=by have h9:=HSp.out;unfold spotV at hret;rw [h9] at hret;exact hret
 subst hee
 have HC2:Hid (_):=HC1.out.kept k1
 have HR1:Hid (_):=HR.out.kept k1
 have HKw1:Hid (Kept [] w w1):=HKR.out.trans k1 (by simp)
 have HRb1:Hid (w1.heap[R]?=_):=(k1.block _ (lt_of_heap HRb.out) (by simp)).trans HRb.out
 clear hret k1 HC1 HR HRb
 obtain ⟨W2,Q,HWQ,HKQ,q0,q1⟩:=box2 w1 (.int .i64 d) (.string t) 147
 have HQb:Hid (W2.heap[Q]?=some (.cells #[.int .i64 d,.string t] 147 (0,0))∧w1.heap.size≤Q):=by
  rw [← HWQ.out.1,← HWQ.out.2];exact ⟨Go.heap_alloc_new _ _,Nat.le_refl _⟩
 go_upto_region 2 with fail
 rw [HWQ.out.1,HWQ.out.2]
 clear HWQ
 have HR2:Hid (_):=HR1.out.kept HKQ.out
 have HC3:Hid (_):=HC2.out.kept HKQ.out
 have HKw2:Hid (Kept [] w W2):=HKw1.out.trans HKQ.out (by simp)
 have HRb2:Hid (W2.heap[R]?=_):=(HKQ.out.block _ (lt_of_heap HRb1.out) (by simp)).trans HRb1.out
 have HQo:Hid (Off [Q] v1 v2 v3 ev∧Q≠B):=HC2.out.new HQb.out.2
 have HQR:Hid (Q≠R):=by have h1:=lt_of_heap HRb1.out;have h2:=HQb.out.2;exact fun e=>by omega
 clear HKQ HC2 HR1 HKw1 HRb1
 go_wp2_with fail
 refine (p_at_none HR2.out d t HAt.out hk HP.out).mono ?_
 rintro e w2 ⟨rfl,k2⟩
 have HC4:Hid (_):=HC3.out.kept k2
 have HKw3:Hid (Kept [] w w2):=HKw2.out.trans k2 (by simp)
 clear k2 q0 q1
 go_wp2_with fail
 refine (p_if 1 (by decide) w2).mono ?_
 rintro e w9 ⟨rfl,hw⟩
 subst hw
 exact ⟨rfl,Out.err rfl HC4.out (FrB.kept HKw3.out)⟩
theorem p_rename_spot {w0 w:World} {B:Nat} {c:Cal} {pk v1 v2 v3:Value} {ev:List Value} {S:Sta} (h:Cb w0 w B c pk v1 v2 v3 ev S) {code:Int} (hsp:spotR S.ino c.path=.error code) (hclo:Clo S.ino) :
  Calls Tryz.prog 113 #[.pointer (some ⟨B,0,none⟩)] w (Out w0 w B c pk v1 v2 v3 ev S (.error code)):=by
 obtain ⟨W1,R,HWR,HKR,HRb,HC1,HRo,HRw,HRl,p,e1,e2,e3,hrd,f1,f3,HR,HV⟩:=prg h
 have HBd:Hid (Bd S):=h.bd
 have HSp:Hid (_):=hsp
 have HClo:Hid (_):=hclo
 have d5:=hrd.c5
 clear h e1 e2 e3 f1 f3 hrd hsp hclo
 go_enter Tryz.func113,Tryz.ntmps113
 go_upto_region 1 with fail
 rw [HWR.out.1,HWR.out.2]
 clear HWR
 go_wp2_with fail
 refine (p_spot HR.out HClo.out c.path).mono ?_
 rintro e w1 ⟨hret,k1⟩
 have hee:e=thr code:=by have h9:=HSp.out;unfold spotV at hret;rw [h9] at hret;exact hret
 subst hee
 exact ⟨rfl,Out.err rfl (HC1.out.kept k1) (FrB.kept (HKR.out.trans k1 (by simp)))⟩
theorem p_rename_none {w0 w:World} {B:Nat} {c:Cal} {pk v1 v2 v3:Value} {ev:List Value} {S:Sta} (h:Cb w0 w B c pk v1 v2 v3 ev S) {d:Int} {t:ByteArray} {k:Nat} (hsp:spotR S.ino c.path=.ok (d,t)) (hclo:Clo S.ino) (hat:atR S.ino d=some k) (hk:k < S.ino.length) (hp:plR (S.ino[k]).ents t=none) :
  Calls Tryz.prog 113 #[.pointer (some ⟨B,0,none⟩)] w (Out w0 w B c pk v1 v2 v3 ev S (.error 1)):=by
 obtain ⟨W1,R,HWR,HKR,HRb,HC1,HRo,HRw,HRl,p,e1,e2,e3,hrd,f1,f3,HR,HV⟩:=prg h
 have HBd:Hid (Bd S):=h.bd
 have HSp:Hid (_):=hsp
 have HClo:Hid (_):=hclo
 have HAt:Hid (_):=hat
 have HP:Hid (_):=hp
 have d5:=hrd.c5
 clear h e1 e2 e3 f1 f3 hrd hsp hclo hat hp
 go_enter Tryz.func113,Tryz.ntmps113
 go_upto_region 1 with fail
 rw [HWR.out.1,HWR.out.2]
 clear HWR
 go_wp2_with fail
 refine (p_spot HR.out HClo.out c.path).mono ?_
 rintro e w1 ⟨hret,k1⟩
 have hee:e=.returned (.agg #[.int .i64 d,.string t]):=by have h9:=HSp.out;unfold spotV at hret;rw [h9] at hret;exact hret
 subst hee
 have HC2:Hid (_):=HC1.out.kept k1
 have HR1:Hid (_):=HR.out.kept k1
 have HKw1:Hid (Kept [] w w1):=HKR.out.trans k1 (by simp)
 have HRb1:Hid (w1.heap[R]?=_):=(k1.block _ (lt_of_heap HRb.out) (by simp)).trans HRb.out
 clear hret k1 HC1 HR HRb
 obtain ⟨W2,Q,HWQ,HKQ,q0,q1⟩:=box2 w1 (.int .i64 d) (.string t) 147
 have HQb:Hid (W2.heap[Q]?=some (.cells #[.int .i64 d,.string t] 147 (0,0))∧w1.heap.size≤Q):=by
  rw [← HWQ.out.1,← HWQ.out.2];exact ⟨Go.heap_alloc_new _ _,Nat.le_refl _⟩
 go_upto_region 2 with fail
 rw [HWQ.out.1,HWQ.out.2]
 clear HWQ
 have HR2:Hid (_):=HR1.out.kept HKQ.out
 have HC3:Hid (_):=HC2.out.kept HKQ.out
 have HKw2:Hid (Kept [] w W2):=HKw1.out.trans HKQ.out (by simp)
 have HRb2:Hid (W2.heap[R]?=_):=(HKQ.out.block _ (lt_of_heap HRb1.out) (by simp)).trans HRb1.out
 have HQo:Hid (Off [Q] v1 v2 v3 ev∧Q≠B):=HC2.out.new HQb.out.2
 have HQR:Hid (Q≠R):=by have h1:=lt_of_heap HRb1.out;have h2:=HQb.out.2;exact fun e=>by omega
 clear HKQ HC2 HR1 HKw1 HRb1
 go_wp2_with fail
 refine (p_at_none HR2.out d t HAt.out hk HP.out).mono ?_
 rintro e w2 ⟨rfl,k2⟩
 have HC4:Hid (_):=HC3.out.kept k2
 have HKw3:Hid (Kept [] w w2):=HKw2.out.trans k2 (by simp)
 clear k2 q0 q1
 go_wp2_with fail
 refine (p_if 1 (by decide) w2).mono ?_
 rintro e w9 ⟨rfl,hw⟩
 subst hw
 exact ⟨rfl,Out.err rfl HC4.out (FrB.kept HKw3.out)⟩
theorem p_unlink_dir {w0 w:World} {B:Nat} {c:Cal} {pk v1 v2 v3:Value} {ev:List Value} {S:Sta} (h:Cb w0 w B c pk v1 v2 v3 ev S) {d:Int} {t:ByteArray} {k:Nat} (hsp:spotR S.ino c.path=.ok (d,t)) (hclo:Clo S.ino) (hat:atR S.ino d=some k) (hk:k < S.ino.length) {i j:Nat} (hp:plR (S.ino[k]).ents t=some i∧∃ hi:i < (S.ino[k]).ents.length,atR S.ino ((S.ino[k]).ents[i]).2=some j) (hj:j < S.ino.length) (hd:(S.ino[j]).dir=true) :
  Calls Tryz.prog 111 #[.pointer (some ⟨B,0,none⟩)] w (Out w0 w B c pk v1 v2 v3 ev S (.error 8)):=by
 obtain ⟨W1,R,HWR,HKR,HRb,HC1,HRo,HRw,HRl,p,e1,e2,e3,hrd,f1,f3,HR,HV⟩:=prg h
 have HBd:Hid (Bd S):=h.bd
 have HSp:Hid (_):=hsp
 have HClo:Hid (_):=hclo
 have HAt:Hid (_):=hat
 have HP:Hid (_):=hp
 have d5:=hrd.c5
 have HDt:Hid (_):=hd
 clear h e1 e2 e3 f1 f3 hrd hsp hclo hat hp hd
 go_enter Tryz.func111,Tryz.ntmps111
 go_upto_region 1 with fail
 rw [HWR.out.1,HWR.out.2]
 clear HWR
 go_wp2_with fail
 refine (p_spot HR.out HClo.out c.path).mono ?_
 rintro e w1 ⟨hret,k1⟩
 have hee:e=.returned (.agg #[.int .i64 d,.string t]):=by have h9:=HSp.out;unfold spotV at hret;rw [h9] at hret;exact hret
 subst hee
 have HC2:Hid (_):=HC1.out.kept k1
 have HR1:Hid (_):=HR.out.kept k1
 have HKw1:Hid (Kept [] w w1):=HKR.out.trans k1 (by simp)
 have HRb1:Hid (w1.heap[R]?=_):=(k1.block _ (lt_of_heap HRb.out) (by simp)).trans HRb.out
 clear hret k1 HC1 HR HRb
 obtain ⟨W2,Q,HWQ,HKQ,q0,q1⟩:=box2 w1 (.int .i64 d) (.string t) 147
 have HQb:Hid (W2.heap[Q]?=some (.cells #[.int .i64 d,.string t] 147 (0,0))∧w1.heap.size≤Q):=by
  rw [← HWQ.out.1,← HWQ.out.2];exact ⟨Go.heap_alloc_new _ _,Nat.le_refl _⟩
 go_upto_region 2 with fail
 rw [HWQ.out.1,HWQ.out.2]
 clear HWQ
 have HR2:Hid (_):=HR1.out.kept HKQ.out
 have HC3:Hid (_):=HC2.out.kept HKQ.out
 have HKw2:Hid (Kept [] w W2):=HKw1.out.trans HKQ.out (by simp)
 have HRb2:Hid (W2.heap[R]?=_):=(HKQ.out.block _ (lt_of_heap HRb1.out) (by simp)).trans HRb1.out
 have HQo:Hid (Off [Q] v1 v2 v3 ev∧Q≠B):=HC2.out.new HQb.out.2
 have HQR:Hid (Q≠R):=by have h1:=lt_of_heap HRb1.out;have h2:=HQb.out.2;exact fun e=>by omega
 clear HKQ HC2 HR1 HKw1 HRb1
 obtain ⟨b1,o1,ae,ce,ha,-⟩:=HR2.out.sv.ino k hk
 have ho1:o1=0:=by
  obtain ⟨g,hg⟩:=HV.out.2.2.2.1 _ ha
  simp only [Addr.mk.injEq,and_true] at hg
  exact hg.2
 subst ho1
 have HA:Hid (p.a1=some ⟨b1,0,none⟩):=ha
 clear ha
 go_wp2_with fail
 refine (p_at_some HR2.out d t HAt.out hk HP.out HA.out).mono ?_
 rintro e w2 ⟨rfl,k2⟩
 rw [Nat.zero_add]
 have HC4:Hid (_):=HC3.out.kept k2
 have HR3:Hid (_):=HR2.out.kept k2
 have HKw3:Hid (Kept [] w w2):=HKw2.out.trans k2 (by simp)
 have HRb3:Hid (w2.heap[R]?=_):=(k2.block _ (lt_of_heap HRb2.out) (by simp)).trans HRb2.out
 have HQ3:Hid (w2.heap[Q]?=_):=(k2.block _ (lt_of_heap HQb.out.1) (by simp)).trans HQb.out.1
 obtain ⟨b2,o2,ae2,ce2,ha2,p0,p1,p2,p3,p4,p5,p6⟩:=HR3.out.sv.ino j hj
 rw [HA.out] at ha2
 simp only [Option.some.injEq,Addr.mk.injEq,and_true] at ha2
 obtain ⟨hb2,ho2⟩:=ha2
 subst hb2 ho2
 rw [Nat.zero_add] at p0 p1 p2 p3
 clear k2 q0 q1 p4 p5 p6 HKw2 HRb2 HC3 HR2
 go_wp2_with fail
 refine (p_if_no 1 w2).mono ?_
 rintro e w9 ⟨rfl,hw⟩
 have hw2:=hw.symm
 subst hw2
 rw [HDt.out] at p1
 go_wp2_with fail
 refine (p_if 8 (by decide) w2).mono ?_
 rintro e w9 ⟨rfl,hw⟩
 subst hw
 exact ⟨rfl,Out.err rfl HC4.out (FrB.kept HKw3.out)⟩
theorem p_rmdir_file {w0 w:World} {B:Nat} {c:Cal} {pk v1 v2 v3:Value} {ev:List Value} {S:Sta} (h:Cb w0 w B c pk v1 v2 v3 ev S) {d:Int} {t:ByteArray} {k:Nat} (hsp:spotR S.ino c.path=.ok (d,t)) (hclo:Clo S.ino) (hat:atR S.ino d=some k) (hk:k < S.ino.length) {i j:Nat} (hp:plR (S.ino[k]).ents t=some i∧∃ hi:i < (S.ino[k]).ents.length,atR S.ino ((S.ino[k]).ents[i]).2=some j) (hj:j < S.ino.length) (hd:(S.ino[j]).dir=false) :
  Calls Tryz.prog 112 #[.pointer (some ⟨B,0,none⟩)] w (Out w0 w B c pk v1 v2 v3 ev S (.error 7)):=by
 obtain ⟨W1,R,HWR,HKR,HRb,HC1,HRo,HRw,HRl,p,e1,e2,e3,hrd,f1,f3,HR,HV⟩:=prg h
 have HBd:Hid (Bd S):=h.bd
 have HSp:Hid (_):=hsp
 have HClo:Hid (_):=hclo
 have HAt:Hid (_):=hat
 have HP:Hid (_):=hp
 have d5:=hrd.c5
 have HDt:Hid (_):=hd
 clear h e1 e2 e3 f1 f3 hrd hsp hclo hat hp hd
 go_enter Tryz.func112,Tryz.ntmps112
 go_upto_region 1 with fail
 rw [HWR.out.1,HWR.out.2]
 clear HWR
 go_wp2_with fail
 refine (p_spot HR.out HClo.out c.path).mono ?_
 rintro e w1 ⟨hret,k1⟩
 have hee:e=.returned (.agg #[.int .i64 d,.string t]):=by have h9:=HSp.out;unfold spotV at hret;rw [h9] at hret;exact hret
 subst hee
 have HC2:Hid (_):=HC1.out.kept k1
 have HR1:Hid (_):=HR.out.kept k1
 have HKw1:Hid (Kept [] w w1):=HKR.out.trans k1 (by simp)
 have HRb1:Hid (w1.heap[R]?=_):=(k1.block _ (lt_of_heap HRb.out) (by simp)).trans HRb.out
 clear hret k1 HC1 HR HRb
 obtain ⟨W2,Q,HWQ,HKQ,q0,q1⟩:=box2 w1 (.int .i64 d) (.string t) 147
 have HQb:Hid (W2.heap[Q]?=some (.cells #[.int .i64 d,.string t] 147 (0,0))∧w1.heap.size≤Q):=by
  rw [← HWQ.out.1,← HWQ.out.2];exact ⟨Go.heap_alloc_new _ _,Nat.le_refl _⟩
 go_upto_region 2 with fail
 rw [HWQ.out.1,HWQ.out.2]
 clear HWQ
 have HR2:Hid (_):=HR1.out.kept HKQ.out
 have HC3:Hid (_):=HC2.out.kept HKQ.out
 have HKw2:Hid (Kept [] w W2):=HKw1.out.trans HKQ.out (by simp)
 have HRb2:Hid (W2.heap[R]?=_):=(HKQ.out.block _ (lt_of_heap HRb1.out) (by simp)).trans HRb1.out
 have HQo:Hid (Off [Q] v1 v2 v3 ev∧Q≠B):=HC2.out.new HQb.out.2
 have HQR:Hid (Q≠R):=by have h1:=lt_of_heap HRb1.out;have h2:=HQb.out.2;exact fun e=>by omega
 clear HKQ HC2 HR1 HKw1 HRb1
 obtain ⟨b1,o1,ae,ce,ha,-⟩:=HR2.out.sv.ino k hk
 have ho1:o1=0:=by
  obtain ⟨g,hg⟩:=HV.out.2.2.2.1 _ ha
  simp only [Addr.mk.injEq,and_true] at hg
  exact hg.2
 subst ho1
 have HA:Hid (p.a1=some ⟨b1,0,none⟩):=ha
 clear ha
 go_wp2_with fail
 refine (p_at_some HR2.out d t HAt.out hk HP.out HA.out).mono ?_
 rintro e w2 ⟨rfl,k2⟩
 rw [Nat.zero_add]
 have HC4:Hid (_):=HC3.out.kept k2
 have HR3:Hid (_):=HR2.out.kept k2
 have HKw3:Hid (Kept [] w w2):=HKw2.out.trans k2 (by simp)
 have HRb3:Hid (w2.heap[R]?=_):=(k2.block _ (lt_of_heap HRb2.out) (by simp)).trans HRb2.out
 have HQ3:Hid (w2.heap[Q]?=_):=(k2.block _ (lt_of_heap HQb.out.1) (by simp)).trans HQb.out.1
 obtain ⟨b2,o2,ae2,ce2,ha2,p0,p1,p2,p3,p4,p5,p6⟩:=HR3.out.sv.ino j hj
 rw [HA.out] at ha2
 simp only [Option.some.injEq,Addr.mk.injEq,and_true] at ha2
 obtain ⟨hb2,ho2⟩:=ha2
 subst hb2 ho2
 rw [Nat.zero_add] at p0 p1 p2 p3
 clear k2 q0 q1 p4 p5 p6 HKw2 HRb2 HC3 HR2
 go_wp2_with fail
 refine (p_if_no 1 w2).mono ?_
 rintro e w9 ⟨rfl,hw⟩
 have hw2:=hw.symm
 subst hw2
 rw [HDt.out] at p1
 go_wp2_with fail
 refine (p_if 7 (by decide) w2).mono ?_
 rintro e w9 ⟨rfl,hw⟩
 subst hw
 exact ⟨rfl,Out.err rfl HC4.out (FrB.kept HKw3.out)⟩
theorem p_rmdir_full {w0 w:World} {B:Nat} {c:Cal} {pk v1 v2 v3:Value} {ev:List Value} {S:Sta} (h:Cb w0 w B c pk v1 v2 v3 ev S) {d:Int} {t:ByteArray} {k:Nat} (hsp:spotR S.ino c.path=.ok (d,t)) (hclo:Clo S.ino) (hat:atR S.ino d=some k) (hk:k < S.ino.length) {i j:Nat} (hp:plR (S.ino[k]).ents t=some i∧∃ hi:i < (S.ino[k]).ents.length,atR S.ino ((S.ino[k]).ents[i]).2=some j) (hj:j < S.ino.length) (hd:(S.ino[j]).dir=true) (hn:0 < (S.ino[j]).ents.length) :
  Calls Tryz.prog 112 #[.pointer (some ⟨B,0,none⟩)] w (Out w0 w B c pk v1 v2 v3 ev S (.error 3)):=by
 obtain ⟨W1,R,HWR,HKR,HRb,HC1,HRo,HRw,HRl,p,e1,e2,e3,hrd,f1,f3,HR,HV⟩:=prg h
 have HBd:Hid (Bd S):=h.bd
 have HSp:Hid (_):=hsp
 have HClo:Hid (_):=hclo
 have HAt:Hid (_):=hat
 have HP:Hid (_):=hp
 have d5:=hrd.c5
 have HDt:Hid (_):=hd
 have HNn:Hid (_):=hn
 clear h e1 e2 e3 f1 f3 hrd hsp hclo hat hp hd hn
 go_enter Tryz.func112,Tryz.ntmps112
 go_upto_region 1 with fail
 rw [HWR.out.1,HWR.out.2]
 clear HWR
 go_wp2_with fail
 refine (p_spot HR.out HClo.out c.path).mono ?_
 rintro e w1 ⟨hret,k1⟩
 have hee:e=.returned (.agg #[.int .i64 d,.string t]):=by have h9:=HSp.out;unfold spotV at hret;rw [h9] at hret;exact hret
 subst hee
 have HC2:Hid (_):=HC1.out.kept k1
 have HR1:Hid (_):=HR.out.kept k1
 have HKw1:Hid (Kept [] w w1):=HKR.out.trans k1 (by simp)
 have HRb1:Hid (w1.heap[R]?=_):=(k1.block _ (lt_of_heap HRb.out) (by simp)).trans HRb.out
 clear hret k1 HC1 HR HRb
 obtain ⟨W2,Q,HWQ,HKQ,q0,q1⟩:=box2 w1 (.int .i64 d) (.string t) 147
 have HQb:Hid (W2.heap[Q]?=some (.cells #[.int .i64 d,.string t] 147 (0,0))∧w1.heap.size≤Q):=by
  rw [← HWQ.out.1,← HWQ.out.2];exact ⟨Go.heap_alloc_new _ _,Nat.le_refl _⟩
 go_upto_region 2 with fail
 rw [HWQ.out.1,HWQ.out.2]
 clear HWQ
 have HR2:Hid (_):=HR1.out.kept HKQ.out
 have HC3:Hid (_):=HC2.out.kept HKQ.out
 have HKw2:Hid (Kept [] w W2):=HKw1.out.trans HKQ.out (by simp)
 have HRb2:Hid (W2.heap[R]?=_):=(HKQ.out.block _ (lt_of_heap HRb1.out) (by simp)).trans HRb1.out
 have HQo:Hid (Off [Q] v1 v2 v3 ev∧Q≠B):=HC2.out.new HQb.out.2
 have HQR:Hid (Q≠R):=by have h1:=lt_of_heap HRb1.out;have h2:=HQb.out.2;exact fun e=>by omega
 clear HKQ HC2 HR1 HKw1 HRb1
 obtain ⟨b1,o1,ae,ce,ha,-⟩:=HR2.out.sv.ino k hk
 have ho1:o1=0:=by
  obtain ⟨g,hg⟩:=HV.out.2.2.2.1 _ ha
  simp only [Addr.mk.injEq,and_true] at hg
  exact hg.2
 subst ho1
 have HA:Hid (p.a1=some ⟨b1,0,none⟩):=ha
 clear ha
 go_wp2_with fail
 refine (p_at_some HR2.out d t HAt.out hk HP.out HA.out).mono ?_
 rintro e w2 ⟨rfl,k2⟩
 rw [Nat.zero_add]
 have HC4:Hid (_):=HC3.out.kept k2
 have HR3:Hid (_):=HR2.out.kept k2
 have HKw3:Hid (Kept [] w w2):=HKw2.out.trans k2 (by simp)
 have HRb3:Hid (w2.heap[R]?=_):=(k2.block _ (lt_of_heap HRb2.out) (by simp)).trans HRb2.out
 have HQ3:Hid (w2.heap[Q]?=_):=(k2.block _ (lt_of_heap HQb.out.1) (by simp)).trans HQb.out.1
 obtain ⟨b2,o2,ae2,ce2,ha2,p0,p1,p2,p3,p4,p5,p6⟩:=HR3.out.sv.ino j hj
 rw [HA.out] at ha2
 simp only [Option.some.injEq,Addr.mk.injEq,and_true] at ha2
 obtain ⟨hb2,ho2⟩:=ha2
 subst hb2 ho2
 rw [Nat.zero_add] at p0 p1 p2 p3
 clear k2 q0 q1 p4 p5 p6 HKw2 HRb2 HC3 HR2
 go_wp2_with fail
 refine (p_if_no 1 w2).mono ?_
 rintro e w9 ⟨rfl,hw⟩
 have hw2:=hw.symm
 subst hw2
 rw [HDt.out] at p1
 go_wp2_with fail
 refine (p_if_no 7 w2).mono ?_
 rintro e w9 ⟨rfl,hw⟩
 have hw2:=hw.symm
 subst hw2
 obtain ⟨el,hel⟩:∃ el,(S.ino[j]).ents.length=el:=⟨_,rfl⟩
 have hn1:=HNn.out
 have hl9:=HBd.out.n4 _ (List.getElem_mem hj)
 rw [hel] at p2 hn1 hl9
 have n1:(0:Int) < (el:Int):=by omega
 have n2:(el:Int) > 0:=by omega
 have n63:el≤9223372036854775807:=by omega
 have n3:0 < el:=by omega
 have n4:decide (0 < el)=true:=decide_eq_true n3
 clear hel hn1 hl9
 go_wp2_with fail
 refine (p_if 3 (by decide) w2).mono ?_
 rintro e w9 ⟨rfl,hw⟩
 subst hw
 exact ⟨rfl,Out.err rfl HC4.out (FrB.kept HKw3.out)⟩
theorem p_unlink {w0 w:World} {B:Nat} {c:Cal} {pk v1 v2 v3:Value} {ev:List Value} {S:Sta} (h:Cb w0 w B c pk v1 v2 v3 ev S) {d:Int} {t:ByteArray} {k:Nat} (hsp:spotR S.ino c.path=.ok (d,t)) (hclo:Clo S.ino) (hat:atR S.ino d=some k) (hk:k < S.ino.length) {i j:Nat} (hi:i < (S.ino[k]).ents.length) (hp:plR (S.ino[k]).ents t=some i) (hat2:atR S.ino ((S.ino[k]).ents[i]).2=some j) (hj:j < S.ino.length) (hr:adj ltI S.ino=true) (hs:S.ino.length≤60000) (hd:(S.ino[j]).dir=false) :
  Calls Tryz.prog 111 #[.pointer (some ⟨B,0,none⟩)] w (Out w0 w B c pk v1 v2 v3 ev S (.ok (sweepS (setE S k hk ((S.ino[k]).ents.eraseIdx i)) ((S.ino[k]).ents[i]).2,ansC 0))):=by
 obtain ⟨W1,R,HWR,HKR,HRb,HC1,HRo,HRw,HRl,p,e1,e2,e3,hrd,f1,f3,HR,HV⟩:=prg h
 have HBd:Hid (Bd S):=h.bd
 have HSp:Hid (_):=hsp
 have HClo:Hid (_):=hclo
 have HAt:Hid (_):=hat
 have HP:Hid (plR (S.ino[k]).ents t=some i∧∃ hi:i < (S.ino[k]).ents.length,atR S.ino ((S.ino[k]).ents[i]).2=some j):=⟨hp,hi,hat2⟩
 have HRow:Hid (adj ltI S.ino=true∧S.ino.length≤60000):=⟨hr,hs⟩
 have d5:=hrd.c5
 have HDt:Hid (_):=hd
 clear h e1 e2 e3 f1 f3 hrd hsp hclo hat hp hat2 hr hs hd
 go_enter Tryz.func111,Tryz.ntmps111
 go_upto_region 1 with fail
 rw [HWR.out.1,HWR.out.2]
 clear HWR
 go_wp2_with fail
 refine (p_spot HR.out HClo.out c.path).mono ?_
 rintro e w1 ⟨hret,k1⟩
 have hee:e=.returned (.agg #[.int .i64 d,.string t]):=by have h9:=HSp.out;unfold spotV at hret;rw [h9] at hret;exact hret
 subst hee
 have HC2:Hid (_):=HC1.out.kept k1
 have HR1:Hid (_):=HR.out.kept k1
 have HKw1:Hid (Kept [] w w1):=HKR.out.trans k1 (by simp)
 have HRb1:Hid (w1.heap[R]?=_):=(k1.block _ (lt_of_heap HRb.out) (by simp)).trans HRb.out
 clear hret k1 HC1 HR HRb
 obtain ⟨W2,Q,HWQ,HKQ,q0,q1⟩:=box2 w1 (.int .i64 d) (.string t) 147
 have HQb:Hid (W2.heap[Q]?=some (.cells #[.int .i64 d,.string t] 147 (0,0))∧w1.heap.size≤Q):=by
  rw [← HWQ.out.1,← HWQ.out.2];exact ⟨Go.heap_alloc_new _ _,Nat.le_refl _⟩
 go_upto_region 2 with fail
 rw [HWQ.out.1,HWQ.out.2]
 clear HWQ
 have HR2:Hid (_):=HR1.out.kept HKQ.out
 have HC3:Hid (_):=HC2.out.kept HKQ.out
 have HKw2:Hid (Kept [] w W2):=HKw1.out.trans HKQ.out (by simp)
 have HRb2:Hid (W2.heap[R]?=_):=(HKQ.out.block _ (lt_of_heap HRb1.out) (by simp)).trans HRb1.out
 have HQo:Hid (Off [Q] v1 v2 v3 ev∧Q≠B):=HC2.out.new HQb.out.2
 have HQR:Hid (Q≠R):=by have h1:=lt_of_heap HRb1.out;have h2:=HQb.out.2;exact fun e=>by omega
 clear HKQ HC2 HR1 HKw1 HRb1
 obtain ⟨b1,o1,ae,ce,ha,-⟩:=HR2.out.sv.ino k hk
 have ho1:o1=0:=by
  obtain ⟨g,hg⟩:=HV.out.2.2.2.1 _ ha
  simp only [Addr.mk.injEq,and_true] at hg
  exact hg.2
 subst ho1
 have HA:Hid (p.a1=some ⟨b1,0,none⟩):=ha
 clear ha
 go_wp2_with fail
 refine (p_at_some HR2.out d t HAt.out hk HP.out HA.out).mono ?_
 rintro e w2 ⟨rfl,k2⟩
 rw [Nat.zero_add]
 have HC4:Hid (_):=HC3.out.kept k2
 have HR3:Hid (_):=HR2.out.kept k2
 have HKw3:Hid (Kept [] w w2):=HKw2.out.trans k2 (by simp)
 have HRb3:Hid (w2.heap[R]?=_):=(k2.block _ (lt_of_heap HRb2.out) (by simp)).trans HRb2.out
 have HQ3:Hid (w2.heap[Q]?=_):=(k2.block _ (lt_of_heap HQb.out.1) (by simp)).trans HQb.out.1
 obtain ⟨b2,o2,ae2,ce2,ha2,p0,p1,p2,p3,p4,p5,p6⟩:=HR3.out.sv.ino j hj
 rw [HA.out] at ha2
 simp only [Option.some.injEq,Addr.mk.injEq,and_true] at ha2
 obtain ⟨hb2,ho2⟩:=ha2
 subst hb2 ho2
 rw [Nat.zero_add] at p0 p1 p2 p3
 clear k2 q0 q1 p4 p5 p6 HKw2 HRb2 HC3 HR2
 go_wp2_with fail
 refine (p_if_no 1 w2).mono ?_
 rintro e w9 ⟨rfl,hw⟩
 have hw2:=hw.symm
 subst hw2
 rw [HDt.out] at p1
 go_wp2_with fail
 refine (p_if_no 8 w2).mono ?_
 rintro e w9 ⟨rfl,hw⟩
 have hw2:=hw.symm
 subst hw2
 have q0:w2.cell? ⟨Q,0,none⟩=some (.int .i64 d):=cellB HQ3.out
 have q1:w2.cell? ⟨Q,1,none⟩=some (.string t):=cellB HQ3.out
 clear p0 p1 p2 p3
 go_wp2_with fail
 refine (p_take HC4.out d t HAt.out hk HP.out.1 HP.out.2.1 HRow.out.1 (by obtain ⟨h9,h8⟩:=HP.out.2;rw [h8];rfl) HRow.out.2).mono ?_
 rintro e w5 ⟨rfl,u1,eu,hcb,hfr⟩
 have h5:=hfr.2 R (lt_of_heap HRb3.out) HRo.out.2 HRo.out.1
 have HB5:Hid (w5.heap[R]?=_):=h5.1.trans HRb3.out
 have HO5:Hid (_):=h5.2
 have HC5:Hid (_):=hcb
 have HF5:Hid (FrB B w w5 v1 v2 v3 ev u1 v2 v3 eu):=(FrB.kept HKw3.out).trans hfr
 clear h5 hcb hfr q0 q1
 obtain ⟨g0,g1,g2,g3,g4,g5⟩:=cz6 HB5.out
 obtain ⟨z0,z1,z2,z3,z4,z5⟩:=fz6 HB5.out
 go_wp2_with fail
 (try simp only [Exit.inBlock,Exit.then])
 refine bodyPost_ret (results_cell_row rfl _ _ R 31 #[.int .i64 0,.int .i64 0,.int .i64 0,.bool false,.string ⟨#[]⟩,.slice none 0 0] (0,0) _ rfl (block_res HB5.out _ _ _ _ _ _) Tryz.underlying31 rfl (by kernel_rfl)) rfl ?_
 exact Out.val rfl rfl rfl (HC5.out.res HRl.out HO5.out HRo.out.2 _ _ _ _ _ _) (FrB.res HF5.out HRw.out _ _ _ _ _ _)
theorem p_rmdir {w0 w:World} {B:Nat} {c:Cal} {pk v1 v2 v3:Value} {ev:List Value} {S:Sta} (h:Cb w0 w B c pk v1 v2 v3 ev S) {d:Int} {t:ByteArray} {k:Nat} (hsp:spotR S.ino c.path=.ok (d,t)) (hclo:Clo S.ino) (hat:atR S.ino d=some k) (hk:k < S.ino.length) {i j:Nat} (hi:i < (S.ino[k]).ents.length) (hp:plR (S.ino[k]).ents t=some i) (hat2:atR S.ino ((S.ino[k]).ents[i]).2=some j) (hj:j < S.ino.length) (hr:adj ltI S.ino=true) (hs:S.ino.length≤60000) (hd:(S.ino[j]).dir=true) (hn:(S.ino[j]).ents.length=0) :
  Calls Tryz.prog 112 #[.pointer (some ⟨B,0,none⟩)] w (Out w0 w B c pk v1 v2 v3 ev S (.ok (sweepS (setE S k hk ((S.ino[k]).ents.eraseIdx i)) ((S.ino[k]).ents[i]).2,ansC 0))):=by
 obtain ⟨W1,R,HWR,HKR,HRb,HC1,HRo,HRw,HRl,p,e1,e2,e3,hrd,f1,f3,HR,HV⟩:=prg h
 have HBd:Hid (Bd S):=h.bd
 have HSp:Hid (_):=hsp
 have HClo:Hid (_):=hclo
 have HAt:Hid (_):=hat
 have HP:Hid (plR (S.ino[k]).ents t=some i∧∃ hi:i < (S.ino[k]).ents.length,atR S.ino ((S.ino[k]).ents[i]).2=some j):=⟨hp,hi,hat2⟩
 have HRow:Hid (adj ltI S.ino=true∧S.ino.length≤60000):=⟨hr,hs⟩
 have d5:=hrd.c5
 have HDt:Hid (_):=hd
 have HNn:Hid (_):=hn
 clear h e1 e2 e3 f1 f3 hrd hsp hclo hat hp hat2 hr hs hd hn
 go_enter Tryz.func112,Tryz.ntmps112
 go_upto_region 1 with fail
 rw [HWR.out.1,HWR.out.2]
 clear HWR
 go_wp2_with fail
 refine (p_spot HR.out HClo.out c.path).mono ?_
 rintro e w1 ⟨hret,k1⟩
 have hee:e=.returned (.agg #[.int .i64 d,.string t]):=by have h9:=HSp.out;unfold spotV at hret;rw [h9] at hret;exact hret
 subst hee
 have HC2:Hid (_):=HC1.out.kept k1
 have HR1:Hid (_):=HR.out.kept k1
 have HKw1:Hid (Kept [] w w1):=HKR.out.trans k1 (by simp)
 have HRb1:Hid (w1.heap[R]?=_):=(k1.block _ (lt_of_heap HRb.out) (by simp)).trans HRb.out
 clear hret k1 HC1 HR HRb
 obtain ⟨W2,Q,HWQ,HKQ,q0,q1⟩:=box2 w1 (.int .i64 d) (.string t) 147
 have HQb:Hid (W2.heap[Q]?=some (.cells #[.int .i64 d,.string t] 147 (0,0))∧w1.heap.size≤Q):=by
  rw [← HWQ.out.1,← HWQ.out.2];exact ⟨Go.heap_alloc_new _ _,Nat.le_refl _⟩
 go_upto_region 2 with fail
 rw [HWQ.out.1,HWQ.out.2]
 clear HWQ
 have HR2:Hid (_):=HR1.out.kept HKQ.out
 have HC3:Hid (_):=HC2.out.kept HKQ.out
 have HKw2:Hid (Kept [] w W2):=HKw1.out.trans HKQ.out (by simp)
 have HRb2:Hid (W2.heap[R]?=_):=(HKQ.out.block _ (lt_of_heap HRb1.out) (by simp)).trans HRb1.out
 have HQo:Hid (Off [Q] v1 v2 v3 ev∧Q≠B):=HC2.out.new HQb.out.2
 have HQR:Hid (Q≠R):=by have h1:=lt_of_heap HRb1.out;have h2:=HQb.out.2;exact fun e=>by omega
 clear HKQ HC2 HR1 HKw1 HRb1
 obtain ⟨b1,o1,ae,ce,ha,-⟩:=HR2.out.sv.ino k hk
 have ho1:o1=0:=by
  obtain ⟨g,hg⟩:=HV.out.2.2.2.1 _ ha
  simp only [Addr.mk.injEq,and_true] at hg
  exact hg.2
 subst ho1
 have HA:Hid (p.a1=some ⟨b1,0,none⟩):=ha
 clear ha
 go_wp2_with fail
 refine (p_at_some HR2.out d t HAt.out hk HP.out HA.out).mono ?_
 rintro e w2 ⟨rfl,k2⟩
 rw [Nat.zero_add]
 have HC4:Hid (_):=HC3.out.kept k2
 have HR3:Hid (_):=HR2.out.kept k2
 have HKw3:Hid (Kept [] w w2):=HKw2.out.trans k2 (by simp)
 have HRb3:Hid (w2.heap[R]?=_):=(k2.block _ (lt_of_heap HRb2.out) (by simp)).trans HRb2.out
 have HQ3:Hid (w2.heap[Q]?=_):=(k2.block _ (lt_of_heap HQb.out.1) (by simp)).trans HQb.out.1
 obtain ⟨b2,o2,ae2,ce2,ha2,p0,p1,p2,p3,p4,p5,p6⟩:=HR3.out.sv.ino j hj
 rw [HA.out] at ha2
 simp only [Option.some.injEq,Addr.mk.injEq,and_true] at ha2
 obtain ⟨hb2,ho2⟩:=ha2
 subst hb2 ho2
 rw [Nat.zero_add] at p0 p1 p2 p3
 clear k2 q0 q1 p4 p5 p6 HKw2 HRb2 HC3 HR2
 go_wp2_with fail
 refine (p_if_no 1 w2).mono ?_
 rintro e w9 ⟨rfl,hw⟩
 have hw2:=hw.symm
 subst hw2
 rw [HDt.out] at p1
 go_wp2_with fail
 refine (p_if_no 7 w2).mono ?_
 rintro e w9 ⟨rfl,hw⟩
 have hw2:=hw.symm
 subst hw2
 rw [HNn.out] at p2
 go_wp2_with fail
 refine (p_if_no 3 w2).mono ?_
 rintro e w9 ⟨rfl,hw⟩
 have hw2:=hw.symm
 subst hw2
 have q0:w2.cell? ⟨Q,0,none⟩=some (.int .i64 d):=cellB HQ3.out
 have q1:w2.cell? ⟨Q,1,none⟩=some (.string t):=cellB HQ3.out
 clear p0 p1 p2 p3
 go_wp2_with fail
 refine (p_take HC4.out d t HAt.out hk HP.out.1 HP.out.2.1 HRow.out.1 (by obtain ⟨h9,h8⟩:=HP.out.2;rw [h8];rfl) HRow.out.2).mono ?_
 rintro e w5 ⟨rfl,u1,eu,hcb,hfr⟩
 have h5:=hfr.2 R (lt_of_heap HRb3.out) HRo.out.2 HRo.out.1
 have HB5:Hid (w5.heap[R]?=_):=h5.1.trans HRb3.out
 have HO5:Hid (_):=h5.2
 have HC5:Hid (_):=hcb
 have HF5:Hid (FrB B w w5 v1 v2 v3 ev u1 v2 v3 eu):=(FrB.kept HKw3.out).trans hfr
 clear h5 hcb hfr q0 q1
 obtain ⟨g0,g1,g2,g3,g4,g5⟩:=cz6 HB5.out
 obtain ⟨z0,z1,z2,z3,z4,z5⟩:=fz6 HB5.out
 go_wp2_with fail
 (try simp only [Exit.inBlock,Exit.then])
 refine bodyPost_ret (results_cell_row rfl _ _ R 31 #[.int .i64 0,.int .i64 0,.int .i64 0,.bool false,.string ⟨#[]⟩,.slice none 0 0] (0,0) _ rfl (block_res HB5.out _ _ _ _ _ _) Tryz.underlying31 rfl (by kernel_rfl)) rfl ?_
 exact Out.val rfl rfl rfl (HC5.out.res HRl.out HO5.out HRo.out.2 _ _ _ _ _ _) (FrB.res HF5.out HRw.out _ _ _ _ _ _)
end Go.Proofs.YtffncojcnbhblaaGreatDoor
