/-
  Joined of my texts Rn.
-/
import Derived.Test.YtffncojcnbhblaaGreatDoorJb24
import Derived.Test.YtffncojcnbhblaaGreatDoorJb22
import Derived.Test.YtffncojcnbhblaaGreatDoorTk
set_option linter.unusedVariables false
set_option linter.unusedSimpArgs false
set_option maxRecDepth 100000
set_option maxHeartbeats 8000000
namespace Go.Proofs.YtffncojcnbhblaaGreatDoor
open List renaming setIfInBounds_toArray → lz0, set_cons_zero → lz1, set_cons_succ → lz2, getElem_toArray → lz3, getElem_cons_zero → lz4, getElem_cons_succ → lz5
open Go.RowKit
theorem p_rename_spot2 {w0 w:World} {B:Nat} {c:Cal} {pk v1 v2 v3:Value} {ev:List Value} {S:Sta} (h:Cb w0 w B c pk v1 v2 v3 ev S) {d1:Int} {t1:ByteArray} {k1 i1 j:Nat} (hsp1:spotR S.ino c.path=.ok (d1,t1)) (hclo:Clo S.ino) (hat1:atR S.ino d1=some k1) (hk1:k1 < S.ino.length) (hi1:i1 < (S.ino[k1]).ents.length) (hp1:plR (S.ino[k1]).ents t1=some i1) (hat2:atR S.ino ((S.ino[k1]).ents[i1]).2=some j) (hj:j < S.ino.length) {code:Int} (hsp:spotR S.ino c.path2=.error code) :
  Calls Tryz.prog 113 #[.pointer (some ⟨B,0,none⟩)] w (Out w0 w B c pk v1 v2 v3 ev S (.error code)):=by
 obtain ⟨W1,R,HWR,HKR,HRb,HC1,HRo,HRw,HRl,p,e1,e2,e3,hrd,f1,f3,HR,HV⟩:=prg h
 have HBd:Hid (Bd S):=h.bd
 have HSp1:Hid (_):=hsp1
 have HClo:Hid (_):=hclo
 have HAt1:Hid (_):=hat1
 have HP1:Hid (plR (S.ino[k1]).ents t1=some i1∧∃ hi:i1 < (S.ino[k1]).ents.length,atR S.ino ((S.ino[k1]).ents[i1]).2=some j):=⟨hp1,hi1,hat2⟩
 have d5:=hrd.c5
 have HSp:Hid (_):=hsp
 clear h e1 e2 e3 f1 f3 hrd hsp1 hclo hat1 hp1 hat2 hsp
 go_enter Tryz.func113,Tryz.ntmps113
 go_upto_region 1 with fail
 rw [HWR.out.1,HWR.out.2]
 clear HWR
 go_wp2_with fail
 refine (p_spot HR.out HClo.out c.path).mono ?_
 rintro e ws3 ⟨hret,k1⟩
 have hee:e=.returned (.agg #[.int .i64 d1,.string t1]):=by have h9:=HSp1.out;unfold spotV at hret;rw [h9] at hret;exact hret
 subst hee
 obtain ⟨W3,Q3,HWQ,HKQ,q30,q31⟩:=box2 ws3 (.int .i64 d1) (.string t1) 147
 have HQ3:Hid (W3.heap[Q3]?=some (.cells #[.int .i64 d1,.string t1] 147 (0,0))∧ws3.heap.size≤Q3):=by
  rw [← HWQ.out.1,← HWQ.out.2];exact ⟨Go.heap_alloc_new _ _,Nat.le_refl _⟩
 go_upto_region 2 with fail
 rw [HWQ.out.1,HWQ.out.2]
 clear HWQ
 have HKk:Hid (Kept [] W1 W3):=k1.trans HKQ.out (by simp)
 have HR3:Hid (_):=HR.out.kept HKk.out
 have HC3:Hid (_):=HC1.out.kept HKk.out
 have HK3:Hid (Kept [] w W3):=HKR.out.trans HKk.out (by simp)
 have HB3:Hid (W3.heap[R]?=_):=(HKk.out.block _ (lt_of_heap HRb.out) (by simp)).trans HRb.out
 have HQo3:Hid (Off [Q3] v1 v2 v3 ev∧Q3≠B):=(HC1.out.kept k1).new HQ3.out.2
 clear hret k1 HKQ
 obtain ⟨b1,o1,ae,ce,ha,-⟩:=HR3.out.sv.ino k1 hk1
 have ho1:o1=0:=by
  obtain ⟨g,hg⟩:=HV.out.2.2.2.1 _ ha
  simp only [Addr.mk.injEq,and_true] at hg
  exact hg.2
 subst ho1
 have HA:Hid (p.a1=some ⟨b1,0,none⟩):=ha
 have HV1:Hid (v1=.slice (some ⟨b1,0,none⟩) S.ino.length p.c1):=by show _=_;rw [HV.out.1,HA.out]
 clear ha
 go_wp2_with fail
 refine (p_at_some HR3.out d1 t1 HAt1.out hk1 HP1.out HA.out).mono ?_
 rintro e w2 ⟨rfl,k2⟩
 rw [Nat.zero_add]
 have HC4:Hid (_):=HC3.out.kept k2
 have HR4:Hid (_):=HR3.out.kept k2
 have HK4:Hid (Kept [] w w2):=HK3.out.trans k2 (by simp)
 have HB4:Hid (w2.heap[R]?=_):=(k2.block _ (lt_of_heap HB3.out) (by simp)).trans HB3.out
 have HQ4:Hid (w2.heap[Q3]?=_):=(k2.block _ (lt_of_heap HQ3.out.1) (by simp)).trans HQ3.out.1
 clear k2 q30 q31
 go_wp2_with fail
 refine (p_if_no 1 w2).mono ?_
 rintro e w9 ⟨rfl,hw⟩
 have hw2:=hw.symm
 subst hw2
 have d6:=HR4.out.c6
 go_wp2_with fail
 refine (p_spot HR4.out HClo.out c.path2).mono ?_
 rintro e w9 ⟨hret,k1⟩
 have hee:e=thr code:=by have h9:=HSp.out;unfold spotV at hret;rw [h9] at hret;exact hret
 subst hee
 exact ⟨rfl,Out.err rfl (HC4.out.kept k1) (FrB.kept (HK4.out.trans k1 (by simp)))⟩
theorem p_rename_below {w0 w:World} {B:Nat} {c:Cal} {pk v1 v2 v3:Value} {ev:List Value} {S:Sta} (h:Cb w0 w B c pk v1 v2 v3 ev S) {d1:Int} {t1:ByteArray} {k1 i1 j:Nat} (hsp1:spotR S.ino c.path=.ok (d1,t1)) (hclo:Clo S.ino) (hat1:atR S.ino d1=some k1) (hk1:k1 < S.ino.length) (hi1:i1 < (S.ino[k1]).ents.length) (hp1:plR (S.ino[k1]).ents t1=some i1) (hat2:atR S.ino ((S.ino[k1]).ents[i1]).2=some j) (hj:j < S.ino.length) {d:Int} {t:ByteArray} {k:Nat} (hsp:spotR S.ino c.path2=.ok (d,t)) (hat:atR S.ino d=some k) (hk:k < S.ino.length) (hb:belowR c.path c.path2=true) :
  Calls Tryz.prog 113 #[.pointer (some ⟨B,0,none⟩)] w (Out w0 w B c pk v1 v2 v3 ev S (.error 9)):=by
 obtain ⟨W1,R,HWR,HKR,HRb,HC1,HRo,HRw,HRl,p,e1,e2,e3,hrd,f1,f3,HR,HV⟩:=prg h
 have HBd:Hid (Bd S):=h.bd
 have HSp1:Hid (_):=hsp1
 have HClo:Hid (_):=hclo
 have HAt1:Hid (_):=hat1
 have HP1:Hid (plR (S.ino[k1]).ents t1=some i1∧∃ hi:i1 < (S.ino[k1]).ents.length,atR S.ino ((S.ino[k1]).ents[i1]).2=some j):=⟨hp1,hi1,hat2⟩
 have d5:=hrd.c5
 have HSp:Hid (_):=hsp
 have HAt:Hid (_):=hat
 have HBel:Hid (_):=hb
 clear h e1 e2 e3 f1 f3 hrd hsp1 hclo hat1 hp1 hat2 hsp hat hb
 go_enter Tryz.func113,Tryz.ntmps113
 go_upto_region 1 with fail
 rw [HWR.out.1,HWR.out.2]
 clear HWR
 go_wp2_with fail
 refine (p_spot HR.out HClo.out c.path).mono ?_
 rintro e ws3 ⟨hret,k1⟩
 have hee:e=.returned (.agg #[.int .i64 d1,.string t1]):=by have h9:=HSp1.out;unfold spotV at hret;rw [h9] at hret;exact hret
 subst hee
 obtain ⟨W3,Q3,HWQ,HKQ,q30,q31⟩:=box2 ws3 (.int .i64 d1) (.string t1) 147
 have HQ3:Hid (W3.heap[Q3]?=some (.cells #[.int .i64 d1,.string t1] 147 (0,0))∧ws3.heap.size≤Q3):=by
  rw [← HWQ.out.1,← HWQ.out.2];exact ⟨Go.heap_alloc_new _ _,Nat.le_refl _⟩
 go_upto_region 2 with fail
 rw [HWQ.out.1,HWQ.out.2]
 clear HWQ
 have HKk:Hid (Kept [] W1 W3):=k1.trans HKQ.out (by simp)
 have HR3:Hid (_):=HR.out.kept HKk.out
 have HC3:Hid (_):=HC1.out.kept HKk.out
 have HK3:Hid (Kept [] w W3):=HKR.out.trans HKk.out (by simp)
 have HB3:Hid (W3.heap[R]?=_):=(HKk.out.block _ (lt_of_heap HRb.out) (by simp)).trans HRb.out
 have HQo3:Hid (Off [Q3] v1 v2 v3 ev∧Q3≠B):=(HC1.out.kept k1).new HQ3.out.2
 clear hret k1 HKQ
 obtain ⟨b1,o1,ae,ce,ha,-⟩:=HR3.out.sv.ino k1 hk1
 have ho1:o1=0:=by
  obtain ⟨g,hg⟩:=HV.out.2.2.2.1 _ ha
  simp only [Addr.mk.injEq,and_true] at hg
  exact hg.2
 subst ho1
 have HA:Hid (p.a1=some ⟨b1,0,none⟩):=ha
 have HV1:Hid (v1=.slice (some ⟨b1,0,none⟩) S.ino.length p.c1):=by show _=_;rw [HV.out.1,HA.out]
 clear ha
 go_wp2_with fail
 refine (p_at_some HR3.out d1 t1 HAt1.out hk1 HP1.out HA.out).mono ?_
 rintro e w2 ⟨rfl,k2⟩
 rw [Nat.zero_add]
 have HC4:Hid (_):=HC3.out.kept k2
 have HR4:Hid (_):=HR3.out.kept k2
 have HK4:Hid (Kept [] w w2):=HK3.out.trans k2 (by simp)
 have HB4:Hid (w2.heap[R]?=_):=(k2.block _ (lt_of_heap HB3.out) (by simp)).trans HB3.out
 have HQ4:Hid (w2.heap[Q3]?=_):=(k2.block _ (lt_of_heap HQ3.out.1) (by simp)).trans HQ3.out.1
 clear k2 q30 q31
 go_wp2_with fail
 refine (p_if_no 1 w2).mono ?_
 rintro e w9 ⟨rfl,hw⟩
 have hw2:=hw.symm
 subst hw2
 have d6:=HR4.out.c6
 go_wp2_with fail
 refine (p_spot HR4.out HClo.out c.path2).mono ?_
 rintro e ws5 ⟨hret,k1⟩
 have hee:e=.returned (.agg #[.int .i64 d,.string t]):=by have h9:=HSp.out;unfold spotV at hret;rw [h9] at hret;exact hret
 subst hee
 obtain ⟨W5,Q5,HWQ,HKQ,q50,q51⟩:=box2 ws5 (.int .i64 d) (.string t) 147
 have HQ5:Hid (W5.heap[Q5]?=some (.cells #[.int .i64 d,.string t] 147 (0,0))∧ws5.heap.size≤Q5):=by
  rw [← HWQ.out.1,← HWQ.out.2];exact ⟨Go.heap_alloc_new _ _,Nat.le_refl _⟩
 go_upto_region 5 with fail
 rw [HWQ.out.1,HWQ.out.2]
 clear HWQ
 have HKk:Hid (Kept [] w2 W5):=k1.trans HKQ.out (by simp)
 have HR5:Hid (_):=HR4.out.kept HKk.out
 have HC5:Hid (_):=HC4.out.kept HKk.out
 have HK5:Hid (Kept [] w W5):=HK4.out.trans HKk.out (by simp)
 have HB5:Hid (W5.heap[R]?=_):=(HKk.out.block _ (lt_of_heap HB4.out) (by simp)).trans HB4.out
 have HQo5:Hid (Off [Q5] v1 v2 v3 ev∧Q5≠B):=(HC4.out.kept k1).new HQ5.out.2
 clear hret k1 HKQ
 have HQ6:Hid (W5.heap[Q3]?=_):=(HKk.out.block _ (lt_of_heap HQ4.out) (by simp)).trans HQ4.out
 have HSb:Hid (W5.cell? ⟨B,5,none⟩=some (.string c.path)∧W5.cell? ⟨B,6,none⟩=some (.string c.path2)):=⟨HR5.out.c5,HR5.out.c6⟩
 clear q50 q51 d6
 refine wp_region_held_drew (S:=fun w'=>w'.cell? ⟨B,5,none⟩=some (.string c.path)∧w'.cell? ⟨B,6,none⟩=some (.string c.path2)) (by kernel_rfl) ?_ (fun hHeld=>?_)
 · exact HSb.out
 refine tkA 0 rfl ?_
 refine tkA 1 rfl ?_
 refine tkA 2 rfl ?_
 refine tkA 3 rfl ?_
 refine tkA 4 rfl ?_
 refine tkA 5 rfl ?_
 refine tkA 6 rfl ?_
 refine tkA 7 rfl ?_
 refine tkA 8 rfl ?_
 refine tkA 9 rfl ?_
 refine wpAnyH_ready (rs:=[10]) (by kernel_rfl) (by simp) ?_
 refine AllReadyH.cons rfl (fun K hK=>?_) AllReadyH.nil
 go_simp
 refine (p_below c.path c.path2 _ (HR5.out.tab.kept (Kept.refl _ _).drew)).mono ?_
 rintro e w6 ⟨rfl,k6⟩
 rw [HBel.out]
 have HK6:Hid (Kept [] W5 w6):=(Kept.refl _ _).drew.trans k6 (by simp)
 have z6:=(⟨HK6.out.cell (HSb.out.1) (by simp),HK6.out.cell (HSb.out.2) (by simp)⟩:w6.cell? ⟨B,5,none⟩=some (.string c.path)∧w6.cell? ⟨B,6,none⟩=some (.string c.path2))
 clear k6
 go_wp2_with fail
 refine hK.out _ _ ?_ (fun hHeld=>?_)
 · exact z6
 clear hK K
 try simp only [Act.put,lz0,lz1,lz2,lz3,lz4,lz5]
 refine wpAnyH_ready (rs:=[11]) (by kernel_rfl) (by simp) ?_
 refine AllReadyH.cons rfl (fun K hK=>?_) AllReadyH.nil
 go_simp
 refine (p_if 9 (by decide) _).mono ?_
 rintro e w9 ⟨rfl,hw⟩
 subst hw
 exact ⟨rfl,Out.err rfl (HC5.out.kept HK6.out) (FrB.kept (HK5.out.trans HK6.out (by simp)))⟩
theorem p_rename_there {w0 w:World} {B:Nat} {c:Cal} {pk v1 v2 v3:Value} {ev:List Value} {S:Sta} (h:Cb w0 w B c pk v1 v2 v3 ev S) {d1:Int} {t1:ByteArray} {k1 i1 j:Nat} (hsp1:spotR S.ino c.path=.ok (d1,t1)) (hclo:Clo S.ino) (hat1:atR S.ino d1=some k1) (hk1:k1 < S.ino.length) (hi1:i1 < (S.ino[k1]).ents.length) (hp1:plR (S.ino[k1]).ents t1=some i1) (hat2:atR S.ino ((S.ino[k1]).ents[i1]).2=some j) (hj:j < S.ino.length) {d:Int} {t:ByteArray} {k:Nat} (hsp:spotR S.ino c.path2=.ok (d,t)) (hat:atR S.ino d=some k) (hk:k < S.ino.length) (hb:belowR c.path c.path2=false) {i j2:Nat} (hp:plR (S.ino[k]).ents t=some i∧∃ hi:i < (S.ino[k]).ents.length,atR S.ino ((S.ino[k]).ents[i]).2=some j2) :
  Calls Tryz.prog 113 #[.pointer (some ⟨B,0,none⟩)] w (Out w0 w B c pk v1 v2 v3 ev S (.error 2)):=by
 obtain ⟨W1,R,HWR,HKR,HRb,HC1,HRo,HRw,HRl,p,e1,e2,e3,hrd,f1,f3,HR,HV⟩:=prg h
 have HBd:Hid (Bd S):=h.bd
 have HSp1:Hid (_):=hsp1
 have HClo:Hid (_):=hclo
 have HAt1:Hid (_):=hat1
 have HP1:Hid (plR (S.ino[k1]).ents t1=some i1∧∃ hi:i1 < (S.ino[k1]).ents.length,atR S.ino ((S.ino[k1]).ents[i1]).2=some j):=⟨hp1,hi1,hat2⟩
 have d5:=hrd.c5
 have HSp:Hid (_):=hsp
 have HAt:Hid (_):=hat
 have HBel:Hid (_):=hb
 have HP:Hid (_):=hp
 clear h e1 e2 e3 f1 f3 hrd hsp1 hclo hat1 hp1 hat2 hsp hat hb hp
 go_enter Tryz.func113,Tryz.ntmps113
 go_upto_region 1 with fail
 rw [HWR.out.1,HWR.out.2]
 clear HWR
 go_wp2_with fail
 refine (p_spot HR.out HClo.out c.path).mono ?_
 rintro e ws3 ⟨hret,k1⟩
 have hee:e=.returned (.agg #[.int .i64 d1,.string t1]):=by have h9:=HSp1.out;unfold spotV at hret;rw [h9] at hret;exact hret
 subst hee
 obtain ⟨W3,Q3,HWQ,HKQ,q30,q31⟩:=box2 ws3 (.int .i64 d1) (.string t1) 147
 have HQ3:Hid (W3.heap[Q3]?=some (.cells #[.int .i64 d1,.string t1] 147 (0,0))∧ws3.heap.size≤Q3):=by
  rw [← HWQ.out.1,← HWQ.out.2];exact ⟨Go.heap_alloc_new _ _,Nat.le_refl _⟩
 go_upto_region 2 with fail
 rw [HWQ.out.1,HWQ.out.2]
 clear HWQ
 have HKk:Hid (Kept [] W1 W3):=k1.trans HKQ.out (by simp)
 have HR3:Hid (_):=HR.out.kept HKk.out
 have HC3:Hid (_):=HC1.out.kept HKk.out
 have HK3:Hid (Kept [] w W3):=HKR.out.trans HKk.out (by simp)
 have HB3:Hid (W3.heap[R]?=_):=(HKk.out.block _ (lt_of_heap HRb.out) (by simp)).trans HRb.out
 have HQo3:Hid (Off [Q3] v1 v2 v3 ev∧Q3≠B):=(HC1.out.kept k1).new HQ3.out.2
 clear hret k1 HKQ
 obtain ⟨b1,o1,ae,ce,ha,-⟩:=HR3.out.sv.ino k1 hk1
 have ho1:o1=0:=by
  obtain ⟨g,hg⟩:=HV.out.2.2.2.1 _ ha
  simp only [Addr.mk.injEq,and_true] at hg
  exact hg.2
 subst ho1
 have HA:Hid (p.a1=some ⟨b1,0,none⟩):=ha
 have HV1:Hid (v1=.slice (some ⟨b1,0,none⟩) S.ino.length p.c1):=by show _=_;rw [HV.out.1,HA.out]
 clear ha
 go_wp2_with fail
 refine (p_at_some HR3.out d1 t1 HAt1.out hk1 HP1.out HA.out).mono ?_
 rintro e w2 ⟨rfl,k2⟩
 rw [Nat.zero_add]
 have HC4:Hid (_):=HC3.out.kept k2
 have HR4:Hid (_):=HR3.out.kept k2
 have HK4:Hid (Kept [] w w2):=HK3.out.trans k2 (by simp)
 have HB4:Hid (w2.heap[R]?=_):=(k2.block _ (lt_of_heap HB3.out) (by simp)).trans HB3.out
 have HQ4:Hid (w2.heap[Q3]?=_):=(k2.block _ (lt_of_heap HQ3.out.1) (by simp)).trans HQ3.out.1
 clear k2 q30 q31
 go_wp2_with fail
 refine (p_if_no 1 w2).mono ?_
 rintro e w9 ⟨rfl,hw⟩
 have hw2:=hw.symm
 subst hw2
 have d6:=HR4.out.c6
 go_wp2_with fail
 refine (p_spot HR4.out HClo.out c.path2).mono ?_
 rintro e ws5 ⟨hret,k1⟩
 have hee:e=.returned (.agg #[.int .i64 d,.string t]):=by have h9:=HSp.out;unfold spotV at hret;rw [h9] at hret;exact hret
 subst hee
 obtain ⟨W5,Q5,HWQ,HKQ,q50,q51⟩:=box2 ws5 (.int .i64 d) (.string t) 147
 have HQ5:Hid (W5.heap[Q5]?=some (.cells #[.int .i64 d,.string t] 147 (0,0))∧ws5.heap.size≤Q5):=by
  rw [← HWQ.out.1,← HWQ.out.2];exact ⟨Go.heap_alloc_new _ _,Nat.le_refl _⟩
 go_upto_region 5 with fail
 rw [HWQ.out.1,HWQ.out.2]
 clear HWQ
 have HKk:Hid (Kept [] w2 W5):=k1.trans HKQ.out (by simp)
 have HR5:Hid (_):=HR4.out.kept HKk.out
 have HC5:Hid (_):=HC4.out.kept HKk.out
 have HK5:Hid (Kept [] w W5):=HK4.out.trans HKk.out (by simp)
 have HB5:Hid (W5.heap[R]?=_):=(HKk.out.block _ (lt_of_heap HB4.out) (by simp)).trans HB4.out
 have HQo5:Hid (Off [Q5] v1 v2 v3 ev∧Q5≠B):=(HC4.out.kept k1).new HQ5.out.2
 clear hret k1 HKQ
 have HQ6:Hid (W5.heap[Q3]?=_):=(HKk.out.block _ (lt_of_heap HQ4.out) (by simp)).trans HQ4.out
 have HSb:Hid (W5.cell? ⟨B,5,none⟩=some (.string c.path)∧W5.cell? ⟨B,6,none⟩=some (.string c.path2)):=⟨HR5.out.c5,HR5.out.c6⟩
 clear q50 q51 d6
 refine wp_region_held_drew (S:=fun w'=>w'.cell? ⟨B,5,none⟩=some (.string c.path)∧w'.cell? ⟨B,6,none⟩=some (.string c.path2)) (by kernel_rfl) ?_ (fun hHeld=>?_)
 · exact HSb.out
 refine tkA 0 rfl ?_
 refine tkA 1 rfl ?_
 refine tkA 2 rfl ?_
 refine tkA 3 rfl ?_
 refine tkA 4 rfl ?_
 refine tkA 5 rfl ?_
 refine tkA 6 rfl ?_
 refine tkA 7 rfl ?_
 refine tkA 8 rfl ?_
 refine tkA 9 rfl ?_
 refine wpAnyH_ready (rs:=[10]) (by kernel_rfl) (by simp) ?_
 refine AllReadyH.cons rfl (fun K hK=>?_) AllReadyH.nil
 go_simp
 refine (p_below c.path c.path2 _ (HR5.out.tab.kept (Kept.refl _ _).drew)).mono ?_
 rintro e w6 ⟨rfl,k6⟩
 rw [HBel.out]
 have HK6:Hid (Kept [] W5 w6):=(Kept.refl _ _).drew.trans k6 (by simp)
 have z6:=(⟨HK6.out.cell (HSb.out.1) (by simp),HK6.out.cell (HSb.out.2) (by simp)⟩:w6.cell? ⟨B,5,none⟩=some (.string c.path)∧w6.cell? ⟨B,6,none⟩=some (.string c.path2))
 clear k6
 go_wp2_with fail
 refine hK.out _ _ ?_ (fun hHeld=>?_)
 · exact z6
 clear hK K
 try simp only [Act.put,lz0,lz1,lz2,lz3,lz4,lz5]
 refine wpAnyH_ready (rs:=[11]) (by kernel_rfl) (by simp) ?_
 refine AllReadyH.cons rfl (fun K hK=>?_) AllReadyH.nil
 go_simp
 refine (p_if_no 9 _).mono ?_
 rintro e w7 ⟨rfl,hw⟩
 subst hw
 go_wp2_with fail
 refine hK.out _ _ ?_ (fun hHeld=>?_)
 · exact z6
 clear hK K
 try simp only [Act.put,lz0,lz1,lz2,lz3,lz4,lz5]
 refine wpAnyH_done (by kernel_rfl) ?_ _
 have HC7:Hid (_):=HC5.out.kept HK6.out
 have HR7:Hid (_):=HR5.out.kept HK6.out
 have HK7:Hid (Kept [] w w7):=HK5.out.trans HK6.out (by simp)
 have HB7:Hid (w7.heap[R]?=_):=(HK6.out.block _ (lt_of_heap HB5.out) (by simp)).trans HB5.out
 have HQ7:Hid (w7.heap[Q5]?=_):=(HK6.out.block _ (lt_of_heap HQ5.out.1) (by simp)).trans HQ5.out.1
 have HQf:Hid (w7.heap[Q3]?=_):=(HK6.out.block _ (lt_of_heap HQ6.out) (by simp)).trans HQ6.out
 have q0:w7.cell? ⟨Q5,0,none⟩=some (.int .i64 d):=cellB HQ7.out
 have q1:w7.cell? ⟨Q5,1,none⟩=some (.string t):=cellB HQ7.out
 clear z6 hHeld HSb
 go_wp2_with fail
 refine (p_at_some HR7.out d t HAt.out hk HP.out HA.out).mono ?_
 rintro e w8 ⟨rfl,k8⟩
 have HC8:Hid (_):=HC7.out.kept k8
 have HK8:Hid (Kept [] w w8):=HK7.out.trans k8 (by simp)
 clear k8
 go_wp2_with fail
 refine (p_if 2 (by decide) w8).mono ?_
 rintro e w9 ⟨rfl,hw⟩
 subst hw
 exact ⟨rfl,Out.err rfl HC8.out (FrB.kept HK8.out)⟩
theorem p_rename_full {w0 w:World} {B:Nat} {c:Cal} {pk v1 v2 v3:Value} {ev:List Value} {S:Sta} (h:Cb w0 w B c pk v1 v2 v3 ev S) {d1:Int} {t1:ByteArray} {k1 i1 j:Nat} (hsp1:spotR S.ino c.path=.ok (d1,t1)) (hclo:Clo S.ino) (hat1:atR S.ino d1=some k1) (hk1:k1 < S.ino.length) (hi1:i1 < (S.ino[k1]).ents.length) (hp1:plR (S.ino[k1]).ents t1=some i1) (hat2:atR S.ino ((S.ino[k1]).ents[i1]).2=some j) (hj:j < S.ino.length) {d:Int} {t:ByteArray} {k:Nat} (hsp:spotR S.ino c.path2=.ok (d,t)) (hat:atR S.ino d=some k) (hk:k < S.ino.length) (hb:belowR c.path c.path2=false) (hp:plR (S.ino[k]).ents t=none) (hfu:4≤nFull (S.ino[k]).ents d t d1 t1) :
  Calls Tryz.prog 113 #[.pointer (some ⟨B,0,none⟩)] w (Out w0 w B c pk v1 v2 v3 ev S (.error 5)):=by
 obtain ⟨W1,R,HWR,HKR,HRb,HC1,HRo,HRw,HRl,p,e1,e2,e3,hrd,f1,f3,HR,HV⟩:=prg h
 have HBd:Hid (Bd S):=h.bd
 have HSp1:Hid (_):=hsp1
 have HClo:Hid (_):=hclo
 have HAt1:Hid (_):=hat1
 have HP1:Hid (plR (S.ino[k1]).ents t1=some i1∧∃ hi:i1 < (S.ino[k1]).ents.length,atR S.ino ((S.ino[k1]).ents[i1]).2=some j):=⟨hp1,hi1,hat2⟩
 have d5:=hrd.c5
 have HSp:Hid (_):=hsp
 have HAt:Hid (_):=hat
 have HBel:Hid (_):=hb
 have HP:Hid (_):=hp
 have HFu:Hid (_):=decide_eq_true hfu
 clear h e1 e2 e3 f1 f3 hrd hsp1 hclo hat1 hp1 hat2 hsp hat hb hp hfu
 go_enter Tryz.func113,Tryz.ntmps113
 go_upto_region 1 with fail
 rw [HWR.out.1,HWR.out.2]
 clear HWR
 go_wp2_with fail
 refine (p_spot HR.out HClo.out c.path).mono ?_
 rintro e ws3 ⟨hret,k1⟩
 have hee:e=.returned (.agg #[.int .i64 d1,.string t1]):=by have h9:=HSp1.out;unfold spotV at hret;rw [h9] at hret;exact hret
 subst hee
 obtain ⟨W3,Q3,HWQ,HKQ,q30,q31⟩:=box2 ws3 (.int .i64 d1) (.string t1) 147
 have HQ3:Hid (W3.heap[Q3]?=some (.cells #[.int .i64 d1,.string t1] 147 (0,0))∧ws3.heap.size≤Q3):=by
  rw [← HWQ.out.1,← HWQ.out.2];exact ⟨Go.heap_alloc_new _ _,Nat.le_refl _⟩
 go_upto_region 2 with fail
 rw [HWQ.out.1,HWQ.out.2]
 clear HWQ
 have HKk:Hid (Kept [] W1 W3):=k1.trans HKQ.out (by simp)
 have HR3:Hid (_):=HR.out.kept HKk.out
 have HC3:Hid (_):=HC1.out.kept HKk.out
 have HK3:Hid (Kept [] w W3):=HKR.out.trans HKk.out (by simp)
 have HB3:Hid (W3.heap[R]?=_):=(HKk.out.block _ (lt_of_heap HRb.out) (by simp)).trans HRb.out
 have HQo3:Hid (Off [Q3] v1 v2 v3 ev∧Q3≠B):=(HC1.out.kept k1).new HQ3.out.2
 clear hret k1 HKQ
 obtain ⟨b1,o1,ae,ce,ha,-⟩:=HR3.out.sv.ino k1 hk1
 have ho1:o1=0:=by
  obtain ⟨g,hg⟩:=HV.out.2.2.2.1 _ ha
  simp only [Addr.mk.injEq,and_true] at hg
  exact hg.2
 subst ho1
 have HA:Hid (p.a1=some ⟨b1,0,none⟩):=ha
 have HV1:Hid (v1=.slice (some ⟨b1,0,none⟩) S.ino.length p.c1):=by show _=_;rw [HV.out.1,HA.out]
 clear ha
 go_wp2_with fail
 refine (p_at_some HR3.out d1 t1 HAt1.out hk1 HP1.out HA.out).mono ?_
 rintro e w2 ⟨rfl,k2⟩
 rw [Nat.zero_add]
 have HC4:Hid (_):=HC3.out.kept k2
 have HR4:Hid (_):=HR3.out.kept k2
 have HK4:Hid (Kept [] w w2):=HK3.out.trans k2 (by simp)
 have HB4:Hid (w2.heap[R]?=_):=(k2.block _ (lt_of_heap HB3.out) (by simp)).trans HB3.out
 have HQ4:Hid (w2.heap[Q3]?=_):=(k2.block _ (lt_of_heap HQ3.out.1) (by simp)).trans HQ3.out.1
 clear k2 q30 q31
 go_wp2_with fail
 refine (p_if_no 1 w2).mono ?_
 rintro e w9 ⟨rfl,hw⟩
 have hw2:=hw.symm
 subst hw2
 have d6:=HR4.out.c6
 go_wp2_with fail
 refine (p_spot HR4.out HClo.out c.path2).mono ?_
 rintro e ws5 ⟨hret,k1⟩
 have hee:e=.returned (.agg #[.int .i64 d,.string t]):=by have h9:=HSp.out;unfold spotV at hret;rw [h9] at hret;exact hret
 subst hee
 obtain ⟨W5,Q5,HWQ,HKQ,q50,q51⟩:=box2 ws5 (.int .i64 d) (.string t) 147
 have HQ5:Hid (W5.heap[Q5]?=some (.cells #[.int .i64 d,.string t] 147 (0,0))∧ws5.heap.size≤Q5):=by
  rw [← HWQ.out.1,← HWQ.out.2];exact ⟨Go.heap_alloc_new _ _,Nat.le_refl _⟩
 go_upto_region 5 with fail
 rw [HWQ.out.1,HWQ.out.2]
 clear HWQ
 have HKk:Hid (Kept [] w2 W5):=k1.trans HKQ.out (by simp)
 have HR5:Hid (_):=HR4.out.kept HKk.out
 have HC5:Hid (_):=HC4.out.kept HKk.out
 have HK5:Hid (Kept [] w W5):=HK4.out.trans HKk.out (by simp)
 have HB5:Hid (W5.heap[R]?=_):=(HKk.out.block _ (lt_of_heap HB4.out) (by simp)).trans HB4.out
 have HQo5:Hid (Off [Q5] v1 v2 v3 ev∧Q5≠B):=(HC4.out.kept k1).new HQ5.out.2
 clear hret k1 HKQ
 have HQ6:Hid (W5.heap[Q3]?=_):=(HKk.out.block _ (lt_of_heap HQ4.out) (by simp)).trans HQ4.out
 have HSb:Hid (W5.cell? ⟨B,5,none⟩=some (.string c.path)∧W5.cell? ⟨B,6,none⟩=some (.string c.path2)):=⟨HR5.out.c5,HR5.out.c6⟩
 clear q50 q51 d6
 refine wp_region_held_drew (S:=fun w'=>w'.cell? ⟨B,5,none⟩=some (.string c.path)∧w'.cell? ⟨B,6,none⟩=some (.string c.path2)) (by kernel_rfl) ?_ (fun hHeld=>?_)
 · exact HSb.out
 refine tkA 0 rfl ?_
 refine tkA 1 rfl ?_
 refine tkA 2 rfl ?_
 refine tkA 3 rfl ?_
 refine tkA 4 rfl ?_
 refine tkA 5 rfl ?_
 refine tkA 6 rfl ?_
 refine tkA 7 rfl ?_
 refine tkA 8 rfl ?_
 refine tkA 9 rfl ?_
 refine wpAnyH_ready (rs:=[10]) (by kernel_rfl) (by simp) ?_
 refine AllReadyH.cons rfl (fun K hK=>?_) AllReadyH.nil
 go_simp
 refine (p_below c.path c.path2 _ (HR5.out.tab.kept (Kept.refl _ _).drew)).mono ?_
 rintro e w6 ⟨rfl,k6⟩
 rw [HBel.out]
 have HK6:Hid (Kept [] W5 w6):=(Kept.refl _ _).drew.trans k6 (by simp)
 have z6:=(⟨HK6.out.cell (HSb.out.1) (by simp),HK6.out.cell (HSb.out.2) (by simp)⟩:w6.cell? ⟨B,5,none⟩=some (.string c.path)∧w6.cell? ⟨B,6,none⟩=some (.string c.path2))
 clear k6
 go_wp2_with fail
 refine hK.out _ _ ?_ (fun hHeld=>?_)
 · exact z6
 clear hK K
 try simp only [Act.put,lz0,lz1,lz2,lz3,lz4,lz5]
 refine wpAnyH_ready (rs:=[11]) (by kernel_rfl) (by simp) ?_
 refine AllReadyH.cons rfl (fun K hK=>?_) AllReadyH.nil
 go_simp
 refine (p_if_no 9 _).mono ?_
 rintro e w7 ⟨rfl,hw⟩
 subst hw
 go_wp2_with fail
 refine hK.out _ _ ?_ (fun hHeld=>?_)
 · exact z6
 clear hK K
 try simp only [Act.put,lz0,lz1,lz2,lz3,lz4,lz5]
 refine wpAnyH_done (by kernel_rfl) ?_ _
 have HC7:Hid (_):=HC5.out.kept HK6.out
 have HR7:Hid (_):=HR5.out.kept HK6.out
 have HK7:Hid (Kept [] w w7):=HK5.out.trans HK6.out (by simp)
 have HB7:Hid (w7.heap[R]?=_):=(HK6.out.block _ (lt_of_heap HB5.out) (by simp)).trans HB5.out
 have HQ7:Hid (w7.heap[Q5]?=_):=(HK6.out.block _ (lt_of_heap HQ5.out.1) (by simp)).trans HQ5.out.1
 have HQf:Hid (w7.heap[Q3]?=_):=(HK6.out.block _ (lt_of_heap HQ6.out) (by simp)).trans HQ6.out
 have q0:w7.cell? ⟨Q5,0,none⟩=some (.int .i64 d):=cellB HQ7.out
 have q1:w7.cell? ⟨Q5,1,none⟩=some (.string t):=cellB HQ7.out
 clear z6 hHeld HSb
 go_wp2_with fail
 refine (p_at_none HR7.out d t HAt.out hk HP.out).mono ?_
 rintro e w8 ⟨rfl,k8⟩
 have HC8:Hid (_):=HC7.out.kept k8
 have HR8:Hid (_):=HR7.out.kept k8
 have HK8:Hid (Kept [] w w8):=HK7.out.trans k8 (by simp)
 have HB8:Hid (w8.heap[R]?=_):=(k8.block _ (lt_of_heap HB7.out) (by simp)).trans HB7.out
 have HQ8:Hid (w8.heap[Q5]?=_):=(k8.block _ (lt_of_heap HQ7.out) (by simp)).trans HQ7.out
 have HQg:Hid (w8.heap[Q3]?=_):=(k8.block _ (lt_of_heap HQf.out) (by simp)).trans HQf.out
 clear k8 q0 q1
 go_wp2_with fail
 refine (p_if_no 2 w8).mono ?_
 rintro e w9 ⟨rfl,hw⟩
 have hw2:=hw.symm
 subst hw2
 have q0:w8.cell? ⟨Q5,0,none⟩=some (.int .i64 d):=cellB HQ8.out
 have q1:w8.cell? ⟨Q5,1,none⟩=some (.string t):=cellB HQ8.out
 have q2:w8.cell? ⟨Q3,0,none⟩=some (.int .i64 d1):=cellB HQg.out
 have q3:w8.cell? ⟨Q3,1,none⟩=some (.string t1):=cellB HQg.out
 go_wp2_with fail
 refine (p_full HR8.out d t d1 t1 HAt.out hk).mono ?_
 rintro e w9 ⟨rfl,k9⟩
 have HC9:Hid (_):=HC8.out.kept k9
 have HK9:Hid (Kept [] w w9):=HK8.out.trans k9 (by simp)
 have HB9:Hid (w9.heap[R]?=_):=(k9.block _ (lt_of_heap HB8.out) (by simp)).trans HB8.out
 have HQ9:Hid (w9.heap[Q5]?=_):=(k9.block _ (lt_of_heap HQ8.out) (by simp)).trans HQ8.out
 have HQh:Hid (w9.heap[Q3]?=_):=(k9.block _ (lt_of_heap HQg.out) (by simp)).trans HQg.out
 clear k9 q0 q1 q2 q3
 rw [HFu.out]
 go_wp2_with fail
 refine (p_if 5 (by decide) w9).mono ?_
 rintro e wa ⟨rfl,hw⟩
 subst hw
 exact ⟨rfl,Out.err rfl HC9.out (FrB.kept HK9.out)⟩
@[reducible] def putR (S:Sta) (k:Nat) (hk:k < S.ino.length) (t:ByteArray) (nu:Int):Sta:=setE S k hk (insR ltE (S.ino[k]).ents (t,nu))
theorem p_rename {w0 w:World} {B:Nat} {c:Cal} {pk v1 v2 v3:Value} {ev:List Value} {S:Sta} (h:Cb w0 w B c pk v1 v2 v3 ev S) {d1:Int} {t1:ByteArray} {k1 i1 j:Nat} (hsp1:spotR S.ino c.path=.ok (d1,t1)) (hclo:Clo S.ino) (hat1:atR S.ino d1=some k1) (hk1:k1 < S.ino.length) (hi1:i1 < (S.ino[k1]).ents.length) (hp1:plR (S.ino[k1]).ents t1=some i1) (hat2:atR S.ino ((S.ino[k1]).ents[i1]).2=some j) (hj:j < S.ino.length) {d:Int} {t:ByteArray} {k:Nat} (hsp:spotR S.ino c.path2=.ok (d,t)) (hat:atR S.ino d=some k) (hk:k < S.ino.length) (hb:belowR c.path c.path2=false) (hp:plR (S.ino[k]).ents t=none) (hfu:¬ 4≤nFull (S.ino[k]).ents d t d1 t1) (hadj:adj ltE (S.ino[k]).ents=true) {nu:Int} (hnu:(S.ino[j]).num=nu) (hbd:Bd (putR S k hk t nu)) {i2:Nat} (hk2:k1 < (putR S k hk t nu).ino.length) (hi2:i2 < ((putR S k hk t nu).ino[k1]).ents.length) (hp2:plR ((putR S k hk t nu).ino[k1]).ents t1=some i2) (hcl2:(atR S.ino (((putR S k hk t nu).ino[k1]).ents[i2]).2).isSome=true) (hr:adj ltI S.ino=true) (hs:S.ino.length≤60000) :
  Calls Tryz.prog 113 #[.pointer (some ⟨B,0,none⟩)] w (Out w0 w B c pk v1 v2 v3 ev S (.ok (sweepS (setE (putR S k hk t nu) k1 hk2 (((putR S k hk t nu).ino[k1]).ents.eraseIdx i2)) (((putR S k hk t nu).ino[k1]).ents[i2]).2,ansC 0))):=by
 obtain ⟨W1,R,HWR,HKR,HRb,HC1,HRo,HRw,HRl,p,e1,e2,e3,hrd,f1,f3,HR,HV⟩:=prg h
 have HBd:Hid (Bd S):=h.bd
 have HSp1:Hid (_):=hsp1
 have HClo:Hid (_):=hclo
 have HAt1:Hid (_):=hat1
 have HP1:Hid (plR (S.ino[k1]).ents t1=some i1∧∃ hi:i1 < (S.ino[k1]).ents.length,atR S.ino ((S.ino[k1]).ents[i1]).2=some j):=⟨hp1,hi1,hat2⟩
 have d5:=hrd.c5
 have HSp:Hid (_):=hsp
 have HAt:Hid (_):=hat
 have HBel:Hid (_):=hb
 have HP:Hid (_):=hp
 have HFu:Hid (_):=decide_eq_false hfu
 have HAdj:Hid (_):=hadj
 have HBd2:Hid (_):=hbd
 have HNu:Hid (_):=hnu
 have HTk:Hid (plR ((putR S k hk t nu).ino[k1]).ents t1=some i2∧(atR S.ino (((putR S k hk t nu).ino[k1]).ents[i2]).2).isSome=true∧adj ltI S.ino=true∧S.ino.length≤60000):=⟨hp2,hcl2,hr,hs⟩
 clear h e1 e2 e3 f1 f3 hrd hsp1 hclo hat1 hp1 hat2 hsp hat hb hp hfu hadj hnu hbd hp2 hcl2 hr hs
 go_enter Tryz.func113,Tryz.ntmps113
 go_upto_region 1 with fail
 rw [HWR.out.1,HWR.out.2]
 clear HWR
 go_wp2_with fail
 refine (p_spot HR.out HClo.out c.path).mono ?_
 rintro e ws3 ⟨hret,k1⟩
 have hee:e=.returned (.agg #[.int .i64 d1,.string t1]):=by have h9:=HSp1.out;unfold spotV at hret;rw [h9] at hret;exact hret
 subst hee
 obtain ⟨W3,Q3,HWQ,HKQ,q30,q31⟩:=box2 ws3 (.int .i64 d1) (.string t1) 147
 have HQ3:Hid (W3.heap[Q3]?=some (.cells #[.int .i64 d1,.string t1] 147 (0,0))∧ws3.heap.size≤Q3):=by
  rw [← HWQ.out.1,← HWQ.out.2];exact ⟨Go.heap_alloc_new _ _,Nat.le_refl _⟩
 go_upto_region 2 with fail
 rw [HWQ.out.1,HWQ.out.2]
 clear HWQ
 have HKk:Hid (Kept [] W1 W3):=k1.trans HKQ.out (by simp)
 have HR3:Hid (_):=HR.out.kept HKk.out
 have HC3:Hid (_):=HC1.out.kept HKk.out
 have HK3:Hid (Kept [] w W3):=HKR.out.trans HKk.out (by simp)
 have HB3:Hid (W3.heap[R]?=_):=(HKk.out.block _ (lt_of_heap HRb.out) (by simp)).trans HRb.out
 have HQo3:Hid (Off [Q3] v1 v2 v3 ev∧Q3≠B):=(HC1.out.kept k1).new HQ3.out.2
 clear hret k1 HKQ
 obtain ⟨b1,o1,ae,ce,ha,-⟩:=HR3.out.sv.ino k1 hk1
 have ho1:o1=0:=by
  obtain ⟨g,hg⟩:=HV.out.2.2.2.1 _ ha
  simp only [Addr.mk.injEq,and_true] at hg
  exact hg.2
 subst ho1
 have HA:Hid (p.a1=some ⟨b1,0,none⟩):=ha
 have HV1:Hid (v1=.slice (some ⟨b1,0,none⟩) S.ino.length p.c1):=by show _=_;rw [HV.out.1,HA.out]
 clear ha
 go_wp2_with fail
 refine (p_at_some HR3.out d1 t1 HAt1.out hk1 HP1.out HA.out).mono ?_
 rintro e w2 ⟨rfl,k2⟩
 rw [Nat.zero_add]
 have HC4:Hid (_):=HC3.out.kept k2
 have HR4:Hid (_):=HR3.out.kept k2
 have HK4:Hid (Kept [] w w2):=HK3.out.trans k2 (by simp)
 have HB4:Hid (w2.heap[R]?=_):=(k2.block _ (lt_of_heap HB3.out) (by simp)).trans HB3.out
 have HQ4:Hid (w2.heap[Q3]?=_):=(k2.block _ (lt_of_heap HQ3.out.1) (by simp)).trans HQ3.out.1
 clear k2 q30 q31
 go_wp2_with fail
 refine (p_if_no 1 w2).mono ?_
 rintro e w9 ⟨rfl,hw⟩
 have hw2:=hw.symm
 subst hw2
 have d6:=HR4.out.c6
 go_wp2_with fail
 refine (p_spot HR4.out HClo.out c.path2).mono ?_
 rintro e ws5 ⟨hret,k1⟩
 have hee:e=.returned (.agg #[.int .i64 d,.string t]):=by have h9:=HSp.out;unfold spotV at hret;rw [h9] at hret;exact hret
 subst hee
 obtain ⟨W5,Q5,HWQ,HKQ,q50,q51⟩:=box2 ws5 (.int .i64 d) (.string t) 147
 have HQ5:Hid (W5.heap[Q5]?=some (.cells #[.int .i64 d,.string t] 147 (0,0))∧ws5.heap.size≤Q5):=by
  rw [← HWQ.out.1,← HWQ.out.2];exact ⟨Go.heap_alloc_new _ _,Nat.le_refl _⟩
 go_upto_region 5 with fail
 rw [HWQ.out.1,HWQ.out.2]
 clear HWQ
 have HKk:Hid (Kept [] w2 W5):=k1.trans HKQ.out (by simp)
 have HR5:Hid (_):=HR4.out.kept HKk.out
 have HC5:Hid (_):=HC4.out.kept HKk.out
 have HK5:Hid (Kept [] w W5):=HK4.out.trans HKk.out (by simp)
 have HB5:Hid (W5.heap[R]?=_):=(HKk.out.block _ (lt_of_heap HB4.out) (by simp)).trans HB4.out
 have HQo5:Hid (Off [Q5] v1 v2 v3 ev∧Q5≠B):=(HC4.out.kept k1).new HQ5.out.2
 clear hret k1 HKQ
 have HQ6:Hid (W5.heap[Q3]?=_):=(HKk.out.block _ (lt_of_heap HQ4.out) (by simp)).trans HQ4.out
 have HSb:Hid (W5.cell? ⟨B,5,none⟩=some (.string c.path)∧W5.cell? ⟨B,6,none⟩=some (.string c.path2)):=⟨HR5.out.c5,HR5.out.c6⟩
 clear q50 q51 d6
 refine wp_region_held_drew (S:=fun w'=>w'.cell? ⟨B,5,none⟩=some (.string c.path)∧w'.cell? ⟨B,6,none⟩=some (.string c.path2)) (by kernel_rfl) ?_ (fun hHeld=>?_)
 · exact HSb.out
 refine tkA 0 rfl ?_
 refine tkA 1 rfl ?_
 refine tkA 2 rfl ?_
 refine tkA 3 rfl ?_
 refine tkA 4 rfl ?_
 refine tkA 5 rfl ?_
 refine tkA 6 rfl ?_
 refine tkA 7 rfl ?_
 refine tkA 8 rfl ?_
 refine tkA 9 rfl ?_
 refine wpAnyH_ready (rs:=[10]) (by kernel_rfl) (by simp) ?_
 refine AllReadyH.cons rfl (fun K hK=>?_) AllReadyH.nil
 go_simp
 refine (p_below c.path c.path2 _ (HR5.out.tab.kept (Kept.refl _ _).drew)).mono ?_
 rintro e w6 ⟨rfl,k6⟩
 rw [HBel.out]
 have HK6:Hid (Kept [] W5 w6):=(Kept.refl _ _).drew.trans k6 (by simp)
 have z6:=(⟨HK6.out.cell (HSb.out.1) (by simp),HK6.out.cell (HSb.out.2) (by simp)⟩:w6.cell? ⟨B,5,none⟩=some (.string c.path)∧w6.cell? ⟨B,6,none⟩=some (.string c.path2))
 clear k6
 go_wp2_with fail
 refine hK.out _ _ ?_ (fun hHeld=>?_)
 · exact z6
 clear hK K
 try simp only [Act.put,lz0,lz1,lz2,lz3,lz4,lz5]
 refine wpAnyH_ready (rs:=[11]) (by kernel_rfl) (by simp) ?_
 refine AllReadyH.cons rfl (fun K hK=>?_) AllReadyH.nil
 go_simp
 refine (p_if_no 9 _).mono ?_
 rintro e w7 ⟨rfl,hw⟩
 subst hw
 go_wp2_with fail
 refine hK.out _ _ ?_ (fun hHeld=>?_)
 · exact z6
 clear hK K
 try simp only [Act.put,lz0,lz1,lz2,lz3,lz4,lz5]
 refine wpAnyH_done (by kernel_rfl) ?_ _
 have HC7:Hid (_):=HC5.out.kept HK6.out
 have HR7:Hid (_):=HR5.out.kept HK6.out
 have HK7:Hid (Kept [] w w7):=HK5.out.trans HK6.out (by simp)
 have HB7:Hid (w7.heap[R]?=_):=(HK6.out.block _ (lt_of_heap HB5.out) (by simp)).trans HB5.out
 have HQ7:Hid (w7.heap[Q5]?=_):=(HK6.out.block _ (lt_of_heap HQ5.out.1) (by simp)).trans HQ5.out.1
 have HQf:Hid (w7.heap[Q3]?=_):=(HK6.out.block _ (lt_of_heap HQ6.out) (by simp)).trans HQ6.out
 have q0:w7.cell? ⟨Q5,0,none⟩=some (.int .i64 d):=cellB HQ7.out
 have q1:w7.cell? ⟨Q5,1,none⟩=some (.string t):=cellB HQ7.out
 clear z6 hHeld HSb
 go_wp2_with fail
 refine (p_at_none HR7.out d t HAt.out hk HP.out).mono ?_
 rintro e w8 ⟨rfl,k8⟩
 have HC8:Hid (_):=HC7.out.kept k8
 have HR8:Hid (_):=HR7.out.kept k8
 have HK8:Hid (Kept [] w w8):=HK7.out.trans k8 (by simp)
 have HB8:Hid (w8.heap[R]?=_):=(k8.block _ (lt_of_heap HB7.out) (by simp)).trans HB7.out
 have HQ8:Hid (w8.heap[Q5]?=_):=(k8.block _ (lt_of_heap HQ7.out) (by simp)).trans HQ7.out
 have HQg:Hid (w8.heap[Q3]?=_):=(k8.block _ (lt_of_heap HQf.out) (by simp)).trans HQf.out
 clear k8 q0 q1
 go_wp2_with fail
 refine (p_if_no 2 w8).mono ?_
 rintro e w9 ⟨rfl,hw⟩
 have hw2:=hw.symm
 subst hw2
 have q0:w8.cell? ⟨Q5,0,none⟩=some (.int .i64 d):=cellB HQ8.out
 have q1:w8.cell? ⟨Q5,1,none⟩=some (.string t):=cellB HQ8.out
 have q2:w8.cell? ⟨Q3,0,none⟩=some (.int .i64 d1):=cellB HQg.out
 have q3:w8.cell? ⟨Q3,1,none⟩=some (.string t1):=cellB HQg.out
 go_wp2_with fail
 refine (p_full HR8.out d t d1 t1 HAt.out hk).mono ?_
 rintro e w9 ⟨rfl,k9⟩
 have HC9:Hid (_):=HC8.out.kept k9
 have HK9:Hid (Kept [] w w9):=HK8.out.trans k9 (by simp)
 have HB9:Hid (w9.heap[R]?=_):=(k9.block _ (lt_of_heap HB8.out) (by simp)).trans HB8.out
 have HQ9:Hid (w9.heap[Q5]?=_):=(k9.block _ (lt_of_heap HQ8.out) (by simp)).trans HQ8.out
 have HQh:Hid (w9.heap[Q3]?=_):=(k9.block _ (lt_of_heap HQg.out) (by simp)).trans HQg.out
 clear k9 q0 q1 q2 q3
 rw [HFu.out]
 go_wp2_with fail
 refine (p_if_no 5 w9).mono ?_
 rintro e wb ⟨rfl,hw⟩
 have hw2:=hw.symm
 subst hw2
 have HSx:Hid (w9.cell? ⟨Q5,0,none⟩=some (.int .i64 d)∧w9.cell? ⟨Q5,1,none⟩=some (.string t)∧w9.cell? ⟨b1,j*4,none⟩=some (.int .i64 nu)):=⟨cellB HQ9.out,cellB HQ9.out,by have h9:=HC9.out.numAt HV1.out (j:=j) hj;rw [HNu.out] at h9;exact h9⟩
 go_upto_region 8 with fail
 refine wp_region_held_drew (S:=fun w'=>w'.cell? ⟨Q5,0,none⟩=some (.int .i64 d)∧w'.cell? ⟨Q5,1,none⟩=some (.string t)∧w'.cell? ⟨b1,j*4,none⟩=some (.int .i64 nu)) (by kernel_rfl) ?_ (fun hHeld=>?_)
 · exact HSx.out
 refine tkA 0 rfl ?_
 refine tkA 1 rfl ?_
 refine tkA 2 rfl ?_
 refine tkA 3 rfl ?_
 refine tkA 4 rfl ?_
 refine tkA 5 rfl ?_
 refine wpAnyH_ready (rs:=[6]) (by kernel_rfl) (by simp) ?_
 refine AllReadyH.cons rfl (fun K hK=>?_) AllReadyH.nil
 go_simp
 refine (p_put (HC9.out.kept (Kept.refl _ _).drew) d t nu HAt.out hk HAdj.out HBd2.out).mono ?_
 rintro e wa ⟨rfl,eva,hcb,hfr⟩
 have HCa:Hid (_):=hcb
 have HFra:Hid (Frm w9 wa v1 v2 v3 ev v1 v2 v3 eva):=hfr
 have hqa:=hfr.2 Q5 (lt_of_heap HQ9.out) HQo5.out.1
 have HQa:Hid (wa.heap[Q5]?=_):=hqa.1.trans HQ9.out
 have za:wa.cell? ⟨Q5,0,none⟩=some (.int .i64 d)∧wa.cell? ⟨Q5,1,none⟩=some (.string t)∧wa.cell? ⟨b1,j*4,none⟩=some (.int .i64 nu):=⟨cellB HQa.out,cellB HQa.out,by have h9:=hcb.numAt (g:=b1) (c1:=p.c1) (by rw [HV1.out];simp) (j:=j) (by simpa using hj);rw [num_setE hk _ hj,HNu.out] at h9;exact h9⟩
 clear hcb hfr hqa
 go_wp2_with fail
 refine hK.out _ _ ?_ (fun hHeld=>?_)
 · exact za
 clear hK K
 try simp only [Act.put,lz0,lz1,lz2,lz3,lz4,lz5]
 refine wpAnyH_done (by kernel_rfl) ?_ _
 have ha:=HFra.out.2 R (lt_of_heap HB9.out) HRo.out.1
 have HBa:Hid (wa.heap[R]?=_):=ha.1.trans HB9.out
 have HOa:Hid (_):=ha.2
 have hqf:=HFra.out.2 Q3 (lt_of_heap HQh.out) HQo3.out.1
 have HQi:Hid (wa.heap[Q3]?=_):=hqf.1.trans HQh.out
 have HFa:Hid (FrB B w wa v1 v2 v3 ev v1 v2 v3 eva):=(FrB.kept HK9.out).trans HFra.out.frb
 have q2:wa.cell? ⟨Q3,0,none⟩=some (.int .i64 d1):=cellB HQi.out
 have q3:wa.cell? ⟨Q3,1,none⟩=some (.string t1):=cellB HQi.out
 clear ha za hqf
 go_wp2_with fail
 refine (p_take HCa.out d1 t1 (by rw [at_setE];exact HAt1.out) hk2 HTk.out.1 hi2 (adj_setE hk _ HTk.out.2.2.1) (by rw [at_setE];exact HTk.out.2.1) (by simpa using HTk.out.2.2.2)).mono ?_
 rintro e wc ⟨rfl,u1,eu,hcb,hfr⟩
 have hc:=hfr.2 R (lt_of_heap HBa.out) HRo.out.2 HOa.out
 have HBc:Hid (wc.heap[R]?=_):=hc.1.trans HBa.out
 have HOc:Hid (_):=hc.2
 have HCc:Hid (_):=hcb
 have HFc:Hid (FrB B w wc v1 v2 v3 ev u1 v2 v3 eu):=HFa.out.trans hfr
 clear hc hcb hfr q2 q3
 obtain ⟨g0,g1,g2,g3,g4,g5⟩:=cz6 HBc.out
 obtain ⟨z0,z1,z2,z3,z4,z5⟩:=fz6 HBc.out
 go_wp2_with fail
 (try simp only [Exit.inBlock,Exit.then])
 refine bodyPost_ret (results_cell_row rfl _ _ R 31 #[.int .i64 0,.int .i64 0,.int .i64 0,.bool false,.string ⟨#[]⟩,.slice none 0 0] (0,0) _ rfl (block_res HBc.out _ _ _ _ _ _) Tryz.underlying31 rfl (by kernel_rfl)) rfl ?_
 exact Out.val rfl rfl rfl (HCc.out.res HRl.out HOc.out HRo.out.2 _ _ _ _ _ _) (FrB.res HFc.out HRw.out _ _ _ _ _ _)
end Go.Proofs.YtffncojcnbhblaaGreatDoor
