/-
  Joined of my texts Ln.
-/
import Derived.Test.YtffncojcnbhblaaGreatDoorJb17
import Derived.Test.YtffncojcnbhblaaGreatDoorJb21
import Derived.Test.YtffncojcnbhblaaGreatDoorTk
set_option linter.unusedVariables false
set_option linter.unusedSimpArgs false
set_option maxRecDepth 100000
set_option maxHeartbeats 8000000
namespace Go.Proofs.YtffncojcnbhblaaGreatDoor
open Go.RowKit
theorem Cb.numAt {w0 w:World} {B:Nat} {c:Cal} {pk v1 v2 v3:Value} {ev:List Value} {S:Sta} (h:Cb w0 w B c pk v1 v2 v3 ev S) {g c1:Nat} (hv1:v1=.slice (some ⟨g,0,none⟩) S.ino.length c1) {j:Nat} (hj:j < S.ino.length):w.cell? ⟨g,j*4,none⟩=some (.int .i64 (S.ino[j]).num):=by
 have h2:=h.os.ino
 have hv:j < ev.length:=by rw [h.os.evl];exact hj
 rw [hv1] at h2
 rw [h2.cellAt (j*4) (by omega),(inoC_get hj hv).1]
theorem num_setE {S:Sta} {k:Nat} (hk:k < S.ino.length) (E:List En) {j:Nat} (hj:j < S.ino.length):((setE S k hk E).ino[j]'(by simpa using hj)).num=(S.ino[j]).num:=by
 show ((S.ino.set k (withE (S.ino[k]) E))[j]'(by simpa using hj)).num=_
 by_cases e:j=k
 · subst e;simp
 · rw [List.getElem_set_ne (by omega)]
theorem p_link_dir {w0 w:World} {B:Nat} {c:Cal} {pk v1 v2 v3:Value} {ev:List Value} {S:Sta} (h:Cb w0 w B c pk v1 v2 v3 ev S) {num:Int} {f:Nat} (hf:findR S.ino c.path=(num,0)) (hat0:atR S.ino num=some f) (hf0:f < S.ino.length) (hd:(S.ino[f]).dir=true) :
  Calls Tryz.prog 110 #[.pointer (some ⟨B,0,none⟩)] w (Out w0 w B c pk v1 v2 v3 ev S (.error 8)):=by
 obtain ⟨W1,R,HWR,HKR,HRb,HC1,HRo,HRw,HRl,p,e1,e2,e3,hrd,f1,f3,HR,HV⟩:=prg h
 have HBd:Hid (Bd S):=h.bd
 have HF:Hid (findR S.ino c.path=(num,0)∧atR S.ino num=some f):=⟨hf,hat0⟩
 obtain ⟨b1,o1,ae,ce,ha,-⟩:=hrd.sv.ino f hf0
 have ho1:o1=0:=by
  obtain ⟨g,hg⟩:=f1 _ ha
  simp only [Addr.mk.injEq,and_true] at hg
  exact hg.2
 subst ho1
 have HA:Hid (p.a1=some ⟨b1,0,none⟩):=ha
 have d5:=hrd.c5
 have HDt:Hid (_):=hd
 clear h e1 e2 e3 f1 f3 hrd hf hat0 ha hd
 go_enter Tryz.func110,Tryz.ntmps110
 go_upto_region 1 with fail
 rw [HWR.out.1,HWR.out.2]
 clear HWR
 go_wp2_with fail
 refine (found_ok HR.out c.path HF.out.1 HF.out.2 HA.out).mono ?_
 rintro e w1 ⟨rfl,k1⟩
 rw [Nat.zero_add]
 have HK1:Hid (Kept [] w w1):=HKR.out.trans k1 (by simp)
 have HC2:Hid (_):=HC1.out.kept k1
 have HR2:Hid (_):=HR.out.kept k1
 have HB1:Hid (w1.heap[R]?=_):=(k1.block _ (lt_of_heap HRb.out) (by simp)).trans HRb.out
 obtain ⟨b2,o2,ae2,ce2,ha2,q0,q1,q2,q3,q4,q5,q6⟩:=HR2.out.sv.ino f hf0
 rw [HA.out] at ha2
 simp only [Option.some.injEq,Addr.mk.injEq,and_true] at ha2
 obtain ⟨hb2,ho2⟩:=ha2
 subst hb2 ho2
 rw [Nat.zero_add] at q0 q1 q2 q3
 obtain ⟨D,hD⟩:∃ D,(S.ino[f]).data=D:=⟨_,rfl⟩
 have HD:Hid (D.size≤140737488351232):=by rw [← hD];exact HBd.out.d1 _ (List.getElem_mem hf0)
 rw [hD] at q3
 have HDe:Hid (_):=hD
 obtain ⟨di,hdi⟩:∃ di,(S.ino[f]).dir=di:=⟨_,rfl⟩
 rw [hdi] at q1
 have HDi:Hid (_):=hdi
 obtain ⟨nu,hnu⟩:∃ nu,(S.ino[f]).num=nu:=⟨_,rfl⟩
 rw [hnu] at q0
 have HNu:Hid (_):=hnu
 obtain ⟨E,hE⟩:∃ E,(S.ino[f]).ents=E:=⟨_,rfl⟩
 rw [hE] at q2 q4 q5
 have HEe:Hid (_):=hE
 have HEn:Hid (EntA w1 ae2 E):=q4
 have HV1:Hid (v1=.slice (some ⟨b1,0,none⟩) S.ino.length p.c1):=by show _=_;rw [HV.out.1,HA.out]
 have HRg:Hid (R≠b1):=fun e=>(HRo.out.1 R (by simp)).1 (by rw [HV1.out,e];rfl)
 clear hD hdi hnu hE q4 q5 q6
 clear k1 HR HC1 HRb d5
 have hdt:di=true:=by rw [← HDi.out];exact HDt.out
 subst hdt
 go_wp2_with fail
 refine (p_if 8 (by decide) w1).mono ?_
 rintro e w9 ⟨rfl,hw⟩
 subst hw
 exact ⟨rfl,Out.err rfl HC2.out (FrB.kept HK1.out)⟩
theorem p_link_spot {w0 w:World} {B:Nat} {c:Cal} {pk v1 v2 v3:Value} {ev:List Value} {S:Sta} (h:Cb w0 w B c pk v1 v2 v3 ev S) {num:Int} {f:Nat} (hf:findR S.ino c.path=(num,0)) (hat0:atR S.ino num=some f) (hf0:f < S.ino.length) (hd:(S.ino[f]).dir=false) {code:Int} (hsp:spotR S.ino c.path2=.error code) (hclo:Clo S.ino) :
  Calls Tryz.prog 110 #[.pointer (some ⟨B,0,none⟩)] w (Out w0 w B c pk v1 v2 v3 ev S (.error code)):=by
 obtain ⟨W1,R,HWR,HKR,HRb,HC1,HRo,HRw,HRl,p,e1,e2,e3,hrd,f1,f3,HR,HV⟩:=prg h
 have HBd:Hid (Bd S):=h.bd
 have HF:Hid (findR S.ino c.path=(num,0)∧atR S.ino num=some f):=⟨hf,hat0⟩
 obtain ⟨b1,o1,ae,ce,ha,-⟩:=hrd.sv.ino f hf0
 have ho1:o1=0:=by
  obtain ⟨g,hg⟩:=f1 _ ha
  simp only [Addr.mk.injEq,and_true] at hg
  exact hg.2
 subst ho1
 have HA:Hid (p.a1=some ⟨b1,0,none⟩):=ha
 have d5:=hrd.c5
 have HDt:Hid (_):=hd
 have HSp:Hid (_):=hsp
 have HClo:Hid (_):=hclo
 clear h e1 e2 e3 f1 f3 hrd hf hat0 ha hd hsp hclo
 go_enter Tryz.func110,Tryz.ntmps110
 go_upto_region 1 with fail
 rw [HWR.out.1,HWR.out.2]
 clear HWR
 go_wp2_with fail
 refine (found_ok HR.out c.path HF.out.1 HF.out.2 HA.out).mono ?_
 rintro e w1 ⟨rfl,k1⟩
 rw [Nat.zero_add]
 have HK1:Hid (Kept [] w w1):=HKR.out.trans k1 (by simp)
 have HC2:Hid (_):=HC1.out.kept k1
 have HR2:Hid (_):=HR.out.kept k1
 have HB1:Hid (w1.heap[R]?=_):=(k1.block _ (lt_of_heap HRb.out) (by simp)).trans HRb.out
 obtain ⟨b2,o2,ae2,ce2,ha2,q0,q1,q2,q3,q4,q5,q6⟩:=HR2.out.sv.ino f hf0
 rw [HA.out] at ha2
 simp only [Option.some.injEq,Addr.mk.injEq,and_true] at ha2
 obtain ⟨hb2,ho2⟩:=ha2
 subst hb2 ho2
 rw [Nat.zero_add] at q0 q1 q2 q3
 obtain ⟨D,hD⟩:∃ D,(S.ino[f]).data=D:=⟨_,rfl⟩
 have HD:Hid (D.size≤140737488351232):=by rw [← hD];exact HBd.out.d1 _ (List.getElem_mem hf0)
 rw [hD] at q3
 have HDe:Hid (_):=hD
 obtain ⟨di,hdi⟩:∃ di,(S.ino[f]).dir=di:=⟨_,rfl⟩
 rw [hdi] at q1
 have HDi:Hid (_):=hdi
 obtain ⟨nu,hnu⟩:∃ nu,(S.ino[f]).num=nu:=⟨_,rfl⟩
 rw [hnu] at q0
 have HNu:Hid (_):=hnu
 obtain ⟨E,hE⟩:∃ E,(S.ino[f]).ents=E:=⟨_,rfl⟩
 rw [hE] at q2 q4 q5
 have HEe:Hid (_):=hE
 have HEn:Hid (EntA w1 ae2 E):=q4
 have HV1:Hid (v1=.slice (some ⟨b1,0,none⟩) S.ino.length p.c1):=by show _=_;rw [HV.out.1,HA.out]
 have HRg:Hid (R≠b1):=fun e=>(HRo.out.1 R (by simp)).1 (by rw [HV1.out,e];rfl)
 clear hD hdi hnu hE q4 q5 q6
 clear k1 HR HC1 HRb d5
 have hdt:di=false:=by rw [← HDi.out];exact HDt.out
 subst hdt
 go_wp2_with fail
 refine (p_if_no 8 w1).mono ?_
 rintro e w9 ⟨rfl,hw⟩
 have hw2:=hw.symm
 subst hw2
 have d6:=HR2.out.c6
 clear q0 q1 q2 q3
 go_wp2_with fail
 refine (p_spot HR2.out HClo.out c.path2).mono ?_
 rintro e w9 ⟨hret,k1⟩
 have hee:e=thr code:=by have h9:=HSp.out;unfold spotV at hret;rw [h9] at hret;exact hret
 subst hee
 exact ⟨rfl,Out.err rfl (HC2.out.kept k1) (FrB.kept (HK1.out.trans k1 (by simp)))⟩
theorem p_link_there {w0 w:World} {B:Nat} {c:Cal} {pk v1 v2 v3:Value} {ev:List Value} {S:Sta} (h:Cb w0 w B c pk v1 v2 v3 ev S) {num:Int} {f:Nat} (hf:findR S.ino c.path=(num,0)) (hat0:atR S.ino num=some f) (hf0:f < S.ino.length) (hd:(S.ino[f]).dir=false) {d:Int} {t:ByteArray} {k:Nat} (hsp:spotR S.ino c.path2=.ok (d,t)) (hclo:Clo S.ino) (hat:atR S.ino d=some k) (hk:k < S.ino.length) {i j:Nat} (hp:plR (S.ino[k]).ents t=some i∧∃ hi:i < (S.ino[k]).ents.length,atR S.ino ((S.ino[k]).ents[i]).2=some j) (hj:j < S.ino.length) :
  Calls Tryz.prog 110 #[.pointer (some ⟨B,0,none⟩)] w (Out w0 w B c pk v1 v2 v3 ev S (.error 2)):=by
 obtain ⟨W1,R,HWR,HKR,HRb,HC1,HRo,HRw,HRl,p,e1,e2,e3,hrd,f1,f3,HR,HV⟩:=prg h
 have HBd:Hid (Bd S):=h.bd
 have HF:Hid (findR S.ino c.path=(num,0)∧atR S.ino num=some f):=⟨hf,hat0⟩
 obtain ⟨b1,o1,ae,ce,ha,-⟩:=hrd.sv.ino f hf0
 have ho1:o1=0:=by
  obtain ⟨g,hg⟩:=f1 _ ha
  simp only [Addr.mk.injEq,and_true] at hg
  exact hg.2
 subst ho1
 have HA:Hid (p.a1=some ⟨b1,0,none⟩):=ha
 have d5:=hrd.c5
 have HDt:Hid (_):=hd
 have HSp:Hid (_):=hsp
 have HClo:Hid (_):=hclo
 have HAt:Hid (_):=hat
 have HP:Hid (_):=hp
 clear h e1 e2 e3 f1 f3 hrd hf hat0 ha hd hsp hclo hat hp
 go_enter Tryz.func110,Tryz.ntmps110
 go_upto_region 1 with fail
 rw [HWR.out.1,HWR.out.2]
 clear HWR
 go_wp2_with fail
 refine (found_ok HR.out c.path HF.out.1 HF.out.2 HA.out).mono ?_
 rintro e w1 ⟨rfl,k1⟩
 rw [Nat.zero_add]
 have HK1:Hid (Kept [] w w1):=HKR.out.trans k1 (by simp)
 have HC2:Hid (_):=HC1.out.kept k1
 have HR2:Hid (_):=HR.out.kept k1
 have HB1:Hid (w1.heap[R]?=_):=(k1.block _ (lt_of_heap HRb.out) (by simp)).trans HRb.out
 obtain ⟨b2,o2,ae2,ce2,ha2,q0,q1,q2,q3,q4,q5,q6⟩:=HR2.out.sv.ino f hf0
 rw [HA.out] at ha2
 simp only [Option.some.injEq,Addr.mk.injEq,and_true] at ha2
 obtain ⟨hb2,ho2⟩:=ha2
 subst hb2 ho2
 rw [Nat.zero_add] at q0 q1 q2 q3
 obtain ⟨D,hD⟩:∃ D,(S.ino[f]).data=D:=⟨_,rfl⟩
 have HD:Hid (D.size≤140737488351232):=by rw [← hD];exact HBd.out.d1 _ (List.getElem_mem hf0)
 rw [hD] at q3
 have HDe:Hid (_):=hD
 obtain ⟨di,hdi⟩:∃ di,(S.ino[f]).dir=di:=⟨_,rfl⟩
 rw [hdi] at q1
 have HDi:Hid (_):=hdi
 obtain ⟨nu,hnu⟩:∃ nu,(S.ino[f]).num=nu:=⟨_,rfl⟩
 rw [hnu] at q0
 have HNu:Hid (_):=hnu
 obtain ⟨E,hE⟩:∃ E,(S.ino[f]).ents=E:=⟨_,rfl⟩
 rw [hE] at q2 q4 q5
 have HEe:Hid (_):=hE
 have HEn:Hid (EntA w1 ae2 E):=q4
 have HV1:Hid (v1=.slice (some ⟨b1,0,none⟩) S.ino.length p.c1):=by show _=_;rw [HV.out.1,HA.out]
 have HRg:Hid (R≠b1):=fun e=>(HRo.out.1 R (by simp)).1 (by rw [HV1.out,e];rfl)
 clear hD hdi hnu hE q4 q5 q6
 clear k1 HR HC1 HRb d5
 have hdt:di=false:=by rw [← HDi.out];exact HDt.out
 subst hdt
 go_wp2_with fail
 refine (p_if_no 8 w1).mono ?_
 rintro e w9 ⟨rfl,hw⟩
 have hw2:=hw.symm
 subst hw2
 have d6:=HR2.out.c6
 clear q0 q1 q2 q3
 go_wp2_with fail
 refine (p_spot HR2.out HClo.out c.path2).mono ?_
 rintro e ws3 ⟨hret,k1⟩
 have hee:e=.returned (.agg #[.int .i64 d,.string t]):=by have h9:=HSp.out;unfold spotV at hret;rw [h9] at hret;exact hret
 subst hee
 obtain ⟨W3,Q3,HWQ,HKQ,q30,q31⟩:=box2 ws3 (.int .i64 d) (.string t) 147
 have HQ3:Hid (W3.heap[Q3]?=some (.cells #[.int .i64 d,.string t] 147 (0,0))∧ws3.heap.size≤Q3):=by
  rw [← HWQ.out.1,← HWQ.out.2];exact ⟨Go.heap_alloc_new _ _,Nat.le_refl _⟩
 go_upto_region 4 with fail
 rw [HWQ.out.1,HWQ.out.2]
 clear HWQ
 have HKk:Hid (Kept [] w1 W3):=k1.trans HKQ.out (by simp)
 have HR3:Hid (_):=HR2.out.kept HKk.out
 have HC3:Hid (_):=HC2.out.kept HKk.out
 have HK3:Hid (Kept [] w W3):=HK1.out.trans HKk.out (by simp)
 have HB3:Hid (W3.heap[R]?=_):=(HKk.out.block _ (lt_of_heap HB1.out) (by simp)).trans HB1.out
 have HQo3:Hid (Off [Q3] v1 v2 v3 ev∧Q3≠B):=(HC2.out.kept k1).new HQ3.out.2
 clear hret k1 HKQ
 go_wp2_with fail
 refine (p_at_some HR3.out d t HAt.out hk HP.out HA.out).mono ?_
 rintro e w5 ⟨rfl,k5⟩
 have HC5:Hid (_):=HC3.out.kept k5
 have HK5:Hid (Kept [] w w5):=HK3.out.trans k5 (by simp)
 clear k5
 go_wp2_with fail
 refine (p_if 2 (by decide) w5).mono ?_
 rintro e w9 ⟨rfl,hw⟩
 subst hw
 exact ⟨rfl,Out.err rfl HC5.out (FrB.kept HK5.out)⟩
theorem p_link_full {w0 w:World} {B:Nat} {c:Cal} {pk v1 v2 v3:Value} {ev:List Value} {S:Sta} (h:Cb w0 w B c pk v1 v2 v3 ev S) {num:Int} {f:Nat} (hf:findR S.ino c.path=(num,0)) (hat0:atR S.ino num=some f) (hf0:f < S.ino.length) (hd:(S.ino[f]).dir=false) {d:Int} {t:ByteArray} {k:Nat} (hsp:spotR S.ino c.path2=.ok (d,t)) (hclo:Clo S.ino) (hat:atR S.ino d=some k) (hk:k < S.ino.length) (hp:plR (S.ino[k]).ents t=none) (hfu:4≤nFull (S.ino[k]).ents d t 0 ⟨#[]⟩) :
  Calls Tryz.prog 110 #[.pointer (some ⟨B,0,none⟩)] w (Out w0 w B c pk v1 v2 v3 ev S (.error 5)):=by
 obtain ⟨W1,R,HWR,HKR,HRb,HC1,HRo,HRw,HRl,p,e1,e2,e3,hrd,f1,f3,HR,HV⟩:=prg h
 have HBd:Hid (Bd S):=h.bd
 have HF:Hid (findR S.ino c.path=(num,0)∧atR S.ino num=some f):=⟨hf,hat0⟩
 obtain ⟨b1,o1,ae,ce,ha,-⟩:=hrd.sv.ino f hf0
 have ho1:o1=0:=by
  obtain ⟨g,hg⟩:=f1 _ ha
  simp only [Addr.mk.injEq,and_true] at hg
  exact hg.2
 subst ho1
 have HA:Hid (p.a1=some ⟨b1,0,none⟩):=ha
 have d5:=hrd.c5
 have HDt:Hid (_):=hd
 have HSp:Hid (_):=hsp
 have HClo:Hid (_):=hclo
 have HAt:Hid (_):=hat
 have HP:Hid (_):=hp
 have HFu:Hid (_):=decide_eq_true hfu
 clear h e1 e2 e3 f1 f3 hrd hf hat0 ha hd hsp hclo hat hp hfu
 go_enter Tryz.func110,Tryz.ntmps110
 go_upto_region 1 with fail
 rw [HWR.out.1,HWR.out.2]
 clear HWR
 go_wp2_with fail
 refine (found_ok HR.out c.path HF.out.1 HF.out.2 HA.out).mono ?_
 rintro e w1 ⟨rfl,k1⟩
 rw [Nat.zero_add]
 have HK1:Hid (Kept [] w w1):=HKR.out.trans k1 (by simp)
 have HC2:Hid (_):=HC1.out.kept k1
 have HR2:Hid (_):=HR.out.kept k1
 have HB1:Hid (w1.heap[R]?=_):=(k1.block _ (lt_of_heap HRb.out) (by simp)).trans HRb.out
 obtain ⟨b2,o2,ae2,ce2,ha2,q0,q1,q2,q3,q4,q5,q6⟩:=HR2.out.sv.ino f hf0
 rw [HA.out] at ha2
 simp only [Option.some.injEq,Addr.mk.injEq,and_true] at ha2
 obtain ⟨hb2,ho2⟩:=ha2
 subst hb2 ho2
 rw [Nat.zero_add] at q0 q1 q2 q3
 obtain ⟨D,hD⟩:∃ D,(S.ino[f]).data=D:=⟨_,rfl⟩
 have HD:Hid (D.size≤140737488351232):=by rw [← hD];exact HBd.out.d1 _ (List.getElem_mem hf0)
 rw [hD] at q3
 have HDe:Hid (_):=hD
 obtain ⟨di,hdi⟩:∃ di,(S.ino[f]).dir=di:=⟨_,rfl⟩
 rw [hdi] at q1
 have HDi:Hid (_):=hdi
 obtain ⟨nu,hnu⟩:∃ nu,(S.ino[f]).num=nu:=⟨_,rfl⟩
 rw [hnu] at q0
 have HNu:Hid (_):=hnu
 obtain ⟨E,hE⟩:∃ E,(S.ino[f]).ents=E:=⟨_,rfl⟩
 rw [hE] at q2 q4 q5
 have HEe:Hid (_):=hE
 have HEn:Hid (EntA w1 ae2 E):=q4
 have HV1:Hid (v1=.slice (some ⟨b1,0,none⟩) S.ino.length p.c1):=by show _=_;rw [HV.out.1,HA.out]
 have HRg:Hid (R≠b1):=fun e=>(HRo.out.1 R (by simp)).1 (by rw [HV1.out,e];rfl)
 clear hD hdi hnu hE q4 q5 q6
 clear k1 HR HC1 HRb d5
 have hdt:di=false:=by rw [← HDi.out];exact HDt.out
 subst hdt
 go_wp2_with fail
 refine (p_if_no 8 w1).mono ?_
 rintro e w9 ⟨rfl,hw⟩
 have hw2:=hw.symm
 subst hw2
 have d6:=HR2.out.c6
 clear q0 q1 q2 q3
 go_wp2_with fail
 refine (p_spot HR2.out HClo.out c.path2).mono ?_
 rintro e ws3 ⟨hret,k1⟩
 have hee:e=.returned (.agg #[.int .i64 d,.string t]):=by have h9:=HSp.out;unfold spotV at hret;rw [h9] at hret;exact hret
 subst hee
 obtain ⟨W3,Q3,HWQ,HKQ,q30,q31⟩:=box2 ws3 (.int .i64 d) (.string t) 147
 have HQ3:Hid (W3.heap[Q3]?=some (.cells #[.int .i64 d,.string t] 147 (0,0))∧ws3.heap.size≤Q3):=by
  rw [← HWQ.out.1,← HWQ.out.2];exact ⟨Go.heap_alloc_new _ _,Nat.le_refl _⟩
 go_upto_region 4 with fail
 rw [HWQ.out.1,HWQ.out.2]
 clear HWQ
 have HKk:Hid (Kept [] w1 W3):=k1.trans HKQ.out (by simp)
 have HR3:Hid (_):=HR2.out.kept HKk.out
 have HC3:Hid (_):=HC2.out.kept HKk.out
 have HK3:Hid (Kept [] w W3):=HK1.out.trans HKk.out (by simp)
 have HB3:Hid (W3.heap[R]?=_):=(HKk.out.block _ (lt_of_heap HB1.out) (by simp)).trans HB1.out
 have HQo3:Hid (Off [Q3] v1 v2 v3 ev∧Q3≠B):=(HC2.out.kept k1).new HQ3.out.2
 clear hret k1 HKQ
 go_wp2_with fail
 refine (p_at_none HR3.out d t HAt.out hk HP.out).mono ?_
 rintro e w5 ⟨rfl,k5⟩
 have HC5:Hid (_):=HC3.out.kept k5
 have HR5:Hid (_):=HR3.out.kept k5
 have HK5:Hid (Kept [] w w5):=HK3.out.trans k5 (by simp)
 have HB5:Hid (w5.heap[R]?=_):=(k5.block _ (lt_of_heap HB3.out) (by simp)).trans HB3.out
 have HQ5:Hid (w5.heap[Q3]?=_):=(k5.block _ (lt_of_heap HQ3.out.1) (by simp)).trans HQ3.out.1
 clear k5 q30 q31
 go_wp2_with fail
 refine (p_if_no 2 w5).mono ?_
 rintro e w9 ⟨rfl,hw⟩
 have hw2:=hw.symm
 subst hw2
 have q0:w5.cell? ⟨Q3,0,none⟩=some (.int .i64 d):=cellB HQ5.out
 have q1:w5.cell? ⟨Q3,1,none⟩=some (.string t):=cellB HQ5.out
 go_wp2_with fail
 refine (p_full HR5.out d t 0 ⟨#[]⟩ HAt.out hk).mono ?_
 rintro e w6 ⟨rfl,k6⟩
 have HC6:Hid (_):=HC5.out.kept k6
 have HK6:Hid (Kept [] w w6):=HK5.out.trans k6 (by simp)
 have HB6:Hid (w6.heap[R]?=_):=(k6.block _ (lt_of_heap HB5.out) (by simp)).trans HB5.out
 have HQ6:Hid (w6.heap[Q3]?=_):=(k6.block _ (lt_of_heap HQ5.out) (by simp)).trans HQ5.out
 clear k6 q0 q1
 rw [HFu.out]
 go_wp2_with fail
 refine (p_if 5 (by decide) w6).mono ?_
 rintro e w9 ⟨rfl,hw⟩
 subst hw
 exact ⟨rfl,Out.err rfl HC6.out (FrB.kept HK6.out)⟩
theorem p_link {w0 w:World} {B:Nat} {c:Cal} {pk v1 v2 v3:Value} {ev:List Value} {S:Sta} (h:Cb w0 w B c pk v1 v2 v3 ev S) {num:Int} {f:Nat} (hf:findR S.ino c.path=(num,0)) (hat0:atR S.ino num=some f) (hf0:f < S.ino.length) (hd:(S.ino[f]).dir=false) {d:Int} {t:ByteArray} {k:Nat} (hsp:spotR S.ino c.path2=.ok (d,t)) (hclo:Clo S.ino) (hat:atR S.ino d=some k) (hk:k < S.ino.length) (hp:plR (S.ino[k]).ents t=none) (hfu:¬ 4≤nFull (S.ino[k]).ents d t 0 ⟨#[]⟩) (hadj:adj ltE (S.ino[k]).ents=true) (hbd:Bd (setE S k hk (insR ltE (S.ino[k]).ents (t,(S.ino[f]).num)))) :
  Calls Tryz.prog 110 #[.pointer (some ⟨B,0,none⟩)] w (Out w0 w B c pk v1 v2 v3 ev S (.ok (setE S k hk (insR ltE (S.ino[k]).ents (t,(S.ino[f]).num)),ansC 0))):=by
 obtain ⟨W1,R,HWR,HKR,HRb,HC1,HRo,HRw,HRl,p,e1,e2,e3,hrd,f1,f3,HR,HV⟩:=prg h
 have HBd:Hid (Bd S):=h.bd
 have HF:Hid (findR S.ino c.path=(num,0)∧atR S.ino num=some f):=⟨hf,hat0⟩
 obtain ⟨b1,o1,ae,ce,ha,-⟩:=hrd.sv.ino f hf0
 have ho1:o1=0:=by
  obtain ⟨g,hg⟩:=f1 _ ha
  simp only [Addr.mk.injEq,and_true] at hg
  exact hg.2
 subst ho1
 have HA:Hid (p.a1=some ⟨b1,0,none⟩):=ha
 have d5:=hrd.c5
 have HDt:Hid (_):=hd
 have HSp:Hid (_):=hsp
 have HClo:Hid (_):=hclo
 have HAt:Hid (_):=hat
 have HP:Hid (_):=hp
 have HFu:Hid (_):=decide_eq_false hfu
 have HAdj:Hid (_):=hadj
 have HBd1:Hid (_):=hbd
 clear h e1 e2 e3 f1 f3 hrd hf hat0 ha hd hsp hclo hat hp hfu hadj hbd
 go_enter Tryz.func110,Tryz.ntmps110
 go_upto_region 1 with fail
 rw [HWR.out.1,HWR.out.2]
 clear HWR
 go_wp2_with fail
 refine (found_ok HR.out c.path HF.out.1 HF.out.2 HA.out).mono ?_
 rintro e w1 ⟨rfl,k1⟩
 rw [Nat.zero_add]
 have HK1:Hid (Kept [] w w1):=HKR.out.trans k1 (by simp)
 have HC2:Hid (_):=HC1.out.kept k1
 have HR2:Hid (_):=HR.out.kept k1
 have HB1:Hid (w1.heap[R]?=_):=(k1.block _ (lt_of_heap HRb.out) (by simp)).trans HRb.out
 obtain ⟨b2,o2,ae2,ce2,ha2,q0,q1,q2,q3,q4,q5,q6⟩:=HR2.out.sv.ino f hf0
 rw [HA.out] at ha2
 simp only [Option.some.injEq,Addr.mk.injEq,and_true] at ha2
 obtain ⟨hb2,ho2⟩:=ha2
 subst hb2 ho2
 rw [Nat.zero_add] at q0 q1 q2 q3
 obtain ⟨D,hD⟩:∃ D,(S.ino[f]).data=D:=⟨_,rfl⟩
 have HD:Hid (D.size≤140737488351232):=by rw [← hD];exact HBd.out.d1 _ (List.getElem_mem hf0)
 rw [hD] at q3
 have HDe:Hid (_):=hD
 obtain ⟨di,hdi⟩:∃ di,(S.ino[f]).dir=di:=⟨_,rfl⟩
 rw [hdi] at q1
 have HDi:Hid (_):=hdi
 obtain ⟨nu,hnu⟩:∃ nu,(S.ino[f]).num=nu:=⟨_,rfl⟩
 rw [hnu] at q0
 have HNu:Hid (_):=hnu
 obtain ⟨E,hE⟩:∃ E,(S.ino[f]).ents=E:=⟨_,rfl⟩
 rw [hE] at q2 q4 q5
 have HEe:Hid (_):=hE
 have HEn:Hid (EntA w1 ae2 E):=q4
 have HV1:Hid (v1=.slice (some ⟨b1,0,none⟩) S.ino.length p.c1):=by show _=_;rw [HV.out.1,HA.out]
 have HRg:Hid (R≠b1):=fun e=>(HRo.out.1 R (by simp)).1 (by rw [HV1.out,e];rfl)
 clear hD hdi hnu hE q4 q5 q6
 clear k1 HR HC1 HRb d5
 have hdt:di=false:=by rw [← HDi.out];exact HDt.out
 subst hdt
 go_wp2_with fail
 refine (p_if_no 8 w1).mono ?_
 rintro e w9 ⟨rfl,hw⟩
 have hw2:=hw.symm
 subst hw2
 have d6:=HR2.out.c6
 clear q0 q1 q2 q3
 go_wp2_with fail
 refine (p_spot HR2.out HClo.out c.path2).mono ?_
 rintro e ws3 ⟨hret,k1⟩
 have hee:e=.returned (.agg #[.int .i64 d,.string t]):=by have h9:=HSp.out;unfold spotV at hret;rw [h9] at hret;exact hret
 subst hee
 obtain ⟨W3,Q3,HWQ,HKQ,q30,q31⟩:=box2 ws3 (.int .i64 d) (.string t) 147
 have HQ3:Hid (W3.heap[Q3]?=some (.cells #[.int .i64 d,.string t] 147 (0,0))∧ws3.heap.size≤Q3):=by
  rw [← HWQ.out.1,← HWQ.out.2];exact ⟨Go.heap_alloc_new _ _,Nat.le_refl _⟩
 go_upto_region 4 with fail
 rw [HWQ.out.1,HWQ.out.2]
 clear HWQ
 have HKk:Hid (Kept [] w1 W3):=k1.trans HKQ.out (by simp)
 have HR3:Hid (_):=HR2.out.kept HKk.out
 have HC3:Hid (_):=HC2.out.kept HKk.out
 have HK3:Hid (Kept [] w W3):=HK1.out.trans HKk.out (by simp)
 have HB3:Hid (W3.heap[R]?=_):=(HKk.out.block _ (lt_of_heap HB1.out) (by simp)).trans HB1.out
 have HQo3:Hid (Off [Q3] v1 v2 v3 ev∧Q3≠B):=(HC2.out.kept k1).new HQ3.out.2
 clear hret k1 HKQ
 go_wp2_with fail
 refine (p_at_none HR3.out d t HAt.out hk HP.out).mono ?_
 rintro e w5 ⟨rfl,k5⟩
 have HC5:Hid (_):=HC3.out.kept k5
 have HR5:Hid (_):=HR3.out.kept k5
 have HK5:Hid (Kept [] w w5):=HK3.out.trans k5 (by simp)
 have HB5:Hid (w5.heap[R]?=_):=(k5.block _ (lt_of_heap HB3.out) (by simp)).trans HB3.out
 have HQ5:Hid (w5.heap[Q3]?=_):=(k5.block _ (lt_of_heap HQ3.out.1) (by simp)).trans HQ3.out.1
 clear k5 q30 q31
 go_wp2_with fail
 refine (p_if_no 2 w5).mono ?_
 rintro e w9 ⟨rfl,hw⟩
 have hw2:=hw.symm
 subst hw2
 have q0:w5.cell? ⟨Q3,0,none⟩=some (.int .i64 d):=cellB HQ5.out
 have q1:w5.cell? ⟨Q3,1,none⟩=some (.string t):=cellB HQ5.out
 go_wp2_with fail
 refine (p_full HR5.out d t 0 ⟨#[]⟩ HAt.out hk).mono ?_
 rintro e w6 ⟨rfl,k6⟩
 have HC6:Hid (_):=HC5.out.kept k6
 have HK6:Hid (Kept [] w w6):=HK5.out.trans k6 (by simp)
 have HB6:Hid (w6.heap[R]?=_):=(k6.block _ (lt_of_heap HB5.out) (by simp)).trans HB5.out
 have HQ6:Hid (w6.heap[Q3]?=_):=(k6.block _ (lt_of_heap HQ5.out) (by simp)).trans HQ5.out
 clear k6 q0 q1
 rw [HFu.out]
 go_wp2_with fail
 refine (p_if_no 5 w6).mono ?_
 rintro e w9 ⟨rfl,hw⟩
 have hw2:=hw.symm
 subst hw2
 have HBd2:Hid (Bd (setE S k hk (insR ltE (S.ino[k]).ents (t,nu)))):=by have h9:=HBd1.out;rw [HNu.out] at h9;exact h9
 have HSx:Hid (w6.cell? ⟨Q3,0,none⟩=some (.int .i64 d)∧w6.cell? ⟨Q3,1,none⟩=some (.string t)∧w6.cell? ⟨b1,f*4,none⟩=some (.int .i64 nu)):=⟨cellB HQ6.out,cellB HQ6.out,by have h9:=HC6.out.numAt HV1.out (j:=f) hf0;rw [HNu.out] at h9;exact h9⟩
 go_upto_region 6 with fail
 refine wp_region_held_drew (S:=fun w'=>w'.cell? ⟨Q3,0,none⟩=some (.int .i64 d)∧w'.cell? ⟨Q3,1,none⟩=some (.string t)∧w'.cell? ⟨b1,f*4,none⟩=some (.int .i64 nu)) (by kernel_rfl) ?_ (fun hHeld=>?_)
 · exact HSx.out
 refine tkA 0 rfl ?_
 refine tkA 1 rfl ?_
 refine tkA 2 rfl ?_
 refine tkA 3 rfl ?_
 refine tkA 4 rfl ?_
 refine tkA 5 rfl ?_
 refine wpAnyH_ready (rs:=[6]) (by kernel_rfl) (by simp) ?_
 refine AllReadyH.cons rfl (fun K hK=>?_) AllReadyH.nil
 go_simp
 refine (p_put (HC6.out.kept (Kept.refl _ _).drew) d t nu HAt.out hk HAdj.out HBd2.out).mono ?_
 rintro e w8 ⟨rfl,ev8,hcb,hfr⟩
 have HC8:Hid (_):=hcb
 have HFr8:Hid (Frm w6 w8 v1 v2 v3 ev v1 v2 v3 ev8):=hfr
 have hq8:=hfr.2 Q3 (lt_of_heap HQ6.out) HQo3.out.1
 have HQ8:Hid (w8.heap[Q3]?=_):=hq8.1.trans HQ6.out
 have z8:w8.cell? ⟨Q3,0,none⟩=some (.int .i64 d)∧w8.cell? ⟨Q3,1,none⟩=some (.string t)∧w8.cell? ⟨b1,f*4,none⟩=some (.int .i64 nu):=⟨cellB HQ8.out,cellB HQ8.out,by have h9:=hcb.numAt (g:=b1) (c1:=p.c1) (by rw [HV1.out];simp) (j:=f) (by simpa using hf0);rw [num_setE hk _ hf0,HNu.out] at h9;exact h9⟩
 clear hcb hfr hq8
 go_wp2_with fail
 refine hK.out _ _ ?_ (fun hHeld=>?_)
 · exact z8
 clear hK K
 try simp only [Act.put,List.setIfInBounds_toArray,List.set_cons_zero,List.set_cons_succ,List.getElem_toArray,List.getElem_cons_zero,List.getElem_cons_succ]
 refine wpAnyH_done (by kernel_rfl) ?_ _
 have h8:=HFr8.out.2 R (lt_of_heap HB6.out) HRo.out.1
 have HB8:Hid (w8.heap[R]?=_):=h8.1.trans HB6.out
 have HO8:Hid (_):=h8.2
 have HF8:Hid (FrB B w w8 v1 v2 v3 ev v1 v2 v3 ev8):=(FrB.kept HK6.out).trans HFr8.out.frb
 clear h8 z8
 obtain ⟨g0,g1,g2,g3,g4,g5⟩:=cz6 HB8.out
 obtain ⟨z0,z1,z2,z3,z4,z5⟩:=fz6 HB8.out
 go_wp2_with fail
 (try simp only [Exit.inBlock,Exit.then])
 refine bodyPost_ret (results_cell_row rfl _ _ R 31 #[.int .i64 0,.int .i64 0,.int .i64 0,.bool false,.string ⟨#[]⟩,.slice none 0 0] (0,0) _ rfl (block_res HB8.out _ _ _ _ _ _) Tryz.underlying31 rfl (by kernel_rfl)) rfl ?_
 exact Out.val (by rw [HNu.out]) rfl rfl (HC8.out.res HRl.out HO8.out HRo.out.2 _ _ _ _ _ _) (FrB.res HF8.out HRw.out _ _ _ _ _ _)
end Go.Proofs.YtffncojcnbhblaaGreatDoor
