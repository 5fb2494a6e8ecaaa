/-
  Joined of my texts Ct We.
-/
import Derived.Test.YtffncojcnbhblaaGreatDoorJb15
import Derived.Test.YtffncojcnbhblaaGreatDoorJb17
import Derived.Test.YtffncojcnbhblaaGreatDoorTk
set_option linter.unusedVariables false
set_option linter.unusedSimpArgs false
set_option maxRecDepth 100000
set_option maxHeartbeats 8000000
namespace Go.Proofs.YtffncojcnbhblaaGreatDoor
open Go.RowKit
def createR (S:Sta) (c:Cal) (i:Nat) (dir:Bool):Except Int (Sta × Ans):=match spotR S.ino c.path with
 | .error code=>.error code
 | .ok (d,t)=>
  if (plR (entsOf S.ino d) t).isSome then .error 2 else
  if 4≤nFull (entsOf S.ino d) d t 0 ⟨#[]⟩∨32≤S.made.getD i 0 then .error 5 else
  .ok (putS ⟨insR ltI S.ino ⟨2+c.core+8*S.made.getD i 0,dir,[],⟨#[]⟩⟩,S.opn,S.made.set i (S.made.getD i 0+1)⟩ d (t,2+c.core+8*S.made.getD i 0),ansC 0)
structure Fit (S:Sta) (c:Cal) (i:Nat):Prop where
 clo:Clo S.ino
 ia:adj ltI S.ino=true
 ea:∀ x∈S.ino,adj ltE x.ents=true
 ci:c.core=(i:Int)
 i8:i < 8
 il:i < S.made.length
 mg:∀ g∈S.made,0≤g∧g≤32
 fr:∀ x∈S.ino,x.num≠2+c.core+8*S.made.getD i 0
 nl:S.ino.length < 2513169434843
theorem p_create {w0 w:World} {B:Nat} {c:Cal} {pk v1 v2 v3:Value} {ev:List Value} {S:Sta} (h:Cb w0 w B c pk v1 v2 v3 ev S) {i:Nat} (hf:Fit S c i) (dir:Bool) (hbd:∀ S' v,createR S c i dir=.ok (S',v)→Bd S') :
  Calls Tryz.prog 103 #[.pointer (some ⟨B,0,none⟩),.bool dir] w (Out w0 w B c pk v1 v2 v3 ev S (createR S c i dir)):=by
 obtain ⟨W1,R,HWR,HKR,HRb⟩:=boxR w #[.int .i64 0,.int .i64 0,.int .i64 0,.bool false,.string ⟨#[]⟩,.slice none 0 0] 31
 have HC1:Hid (Cb w0 W1 B c pk v1 v2 v3 ev S):=h.kept HKR.out
 have HFit:Hid (Fit S c i):=hf
 have HBd:Hid (∀ S' v,createR S c i dir=.ok (S',v)→Bd S'):=hbd
 have HDef:Hid (createR S c i dir=match spotR S.ino c.path with
 | .error code=>.error code
 | .ok (d,t)=>
  if (plR (entsOf S.ino d) t).isSome then .error 2 else
  if 4≤nFull (entsOf S.ino d) d t 0 ⟨#[]⟩∨32≤S.made.getD i 0 then .error 5 else
  .ok (putS ⟨insR ltI S.ino ⟨2+c.core+8*S.made.getD i 0,dir,[],⟨#[]⟩⟩,S.opn,S.made.set i (S.made.getD i 0+1)⟩ d (t,2+c.core+8*S.made.getD i 0),ansC 0)):=rfl
 have HRo:Hid (Off [R] v1 v2 v3 ev∧R≠B):=h.new (Nat.le_of_eq HWR.out.2)
 have HRw:Hid (w.heap.size≤R):=Nat.le_of_eq HWR.out.2
 have HRl:Hid (w0.heap.size≤R):=by have:=h.k.size;rw [← HWR.out.2];exact this
 obtain ⟨p,e1,e2,e3,hrd,f1,f3⟩:=HC1.out.rd
 have HR:Hid (Rd W1 B c pk p S):=hrd
 have HV:Hid (v1=.slice p.a1 S.ino.length p.c1∧v2=.slice p.a2 S.opn.length p.c2∧v3=.slice p.a3 S.made.length p.c3∧(∀ x,p.a1=some x→∃ g,x=⟨g,0,none⟩)∧(∀ x,p.a3=some x→∃ g,x=⟨g,0,none⟩)):=⟨e1,e2,e3,f1,f3⟩
 obtain ⟨r,hr⟩:∃ r,createR S c i dir=r:=⟨_,rfl⟩
 rw [hr] at HDef HBd ⊢
 have d5:=hrd.c5
 clear h hf hbd e1 e2 e3 f1 f3 hrd hr
 go_enter Tryz.func103,Tryz.ntmps103
 go_upto_region 1 with fail
 rw [HWR.out.1,HWR.out.2]
 clear HWR
 go_wp2_with fail
 refine (p_spot HR.out HFit.out.clo c.path).mono ?_
 rintro e w1 ⟨hret,k1⟩
 have HC2:Hid (_):=HC1.out.kept k1
 have HR1:Hid (_):=HR.out.kept k1
 have HKw1:Hid (Kept [] w w1):=HKR.out.trans k1 (by simp)
 have HRb1:Hid (_):=(k1.block _ (lt_of_heap HRb.out) (by simp)).trans HRb.out
 rcases hs:spotR S.ino c.path with code | ⟨d,t⟩
 ·
  rw [hs] at HDef
  have:e=thr code:=by unfold spotV at hret;rw [hs] at hret;exact hret
  subst this
  exact ⟨rfl,Out.err HDef.out HC2.out (FrB.kept HKw1.out)⟩
 have hee:e=.returned (.agg #[.int .i64 d,.string t]):=by unfold spotV at hret;rw [hs] at hret;exact hret
 subst hee
 rw [hs] at HDef
 obtain ⟨k,hk,hat,-,hdir⟩:=dir_at (spot_dir hs)
 have HAt:Hid (atR S.ino d=some k):=hat
 have hE:=ents_at hat hk
 obtain ⟨gv,hgv⟩:∃ gv,S.made.getD i 0=gv:=⟨_,rfl⟩
 have HD:Hid (r=if (plR (S.ino[k]).ents t).isSome then .error 2 else
  if 4≤nFull (S.ino[k]).ents d t 0 ⟨#[]⟩∨32≤gv then .error 5 else
  .ok (putS ⟨insR ltI S.ino ⟨2+c.core+8*gv,dir,[],⟨#[]⟩⟩,S.opn,S.made.set i (gv+1)⟩ d (t,2+c.core+8*gv),ansC 0)):=by
  show _=_
  rw [← hE,← hgv]
  exact HDef.out
 have HG:Hid (S.made.getD i 0=gv):=hgv
 clear hs hret hat hdir hE hgv HDef k1 d5 HKR HC1 HR HRb
 obtain ⟨W2,Q,HWQ,HKQ,q0,q1⟩:=box2 w1 (.int .i64 d) (.string t) 147
 have HQb:Hid (W2.heap[Q]?=some (.cells #[.int .i64 d,.string t] 147 (0,0))∧w1.heap.size≤Q):=by
  rw [← HWQ.out.1,← HWQ.out.2];exact ⟨Go.heap_alloc_new _ _,Nat.le_refl _⟩
 go_upto_region 2 with fail
 rw [HWQ.out.1,HWQ.out.2]
 clear HWQ
 have HR2:Hid (_):=HR1.out.kept HKQ.out
 obtain ⟨b1,o1,ae,ce,ha,-⟩:=HR2.out.sv.ino k hk
 have HA1:Hid (p.a1=some ⟨b1,o1,none⟩):=ha
 clear ha
 rcases hpl:plR (S.ino[k]).ents t with _ | n
 rotate_left
 ·
  obtain ⟨hn,-⟩:=idx_get hpl
  have hsome:=HFit.out.clo.ent k hk _ (List.getElem_mem hn)
  rcases hat2:atR S.ino ((S.ino[k]).ents[n]).2 with _ | j
  · rw [hat2] at hsome;cases hsome
  have HE:Hid (r=.error 2):=by show _=_;rw [HD.out,hpl];rfl
  have HP:Hid (plR (S.ino[k]).ents t=some n∧∃ hi:n < (S.ino[k]).ents.length,atR S.ino ((S.ino[k]).ents[n]).2=some j):=⟨hpl,hn,hat2⟩
  clear HD hsome hat2 hpl
  go_wp2_with fail
  refine (p_at_some HR2.out d t HAt.out hk HP.out HA1.out).mono ?_
  rintro e w2 ⟨rfl,k2⟩
  have HK2:Hid (_):=(HC2.out.kept HKQ.out).kept k2
  have HKw2:Hid (_):=(HKw1.out.trans HKQ.out (by simp)).trans k2 (by simp)
  clear k2 q0 q1
  go_wp2_with fail
  refine (p_if 2 (by decide) w2).mono ?_
  rintro e w3 ⟨rfl,hw⟩
  subst hw
  exact ⟨rfl,Out.err HE.out HK2.out (FrB.kept HKw2.out)⟩
 have HP:Hid (plR (S.ino[k]).ents t=none):=hpl
 rw [hpl,if_neg (by simp)] at HD
 clear hpl
 go_wp2_with fail
 refine (p_at_none HR2.out d t HAt.out hk HP.out).mono ?_
 rintro e w2 ⟨rfl,k2⟩
 have HC3:Hid (_):=(HC2.out.kept HKQ.out).kept k2
 have HKw2:Hid (_):=(HKw1.out.trans HKQ.out (by simp)).trans k2 (by simp)
 have HR3:Hid (_):=HR2.out.kept k2
 have HRb2:Hid (_):=((HKQ.out.trans k2 (by simp)).block _ (lt_of_heap HRb1.out) (by simp)).trans HRb1.out
 have HQ2:Hid (_):=(k2.block _ (lt_of_heap HQb.out.1) (by simp)).trans HQb.out.1
 have HQo:Hid (Off [Q] v1 v2 v3 ev∧Q≠B):=HC2.out.new HQb.out.2
 clear k2 q0 q1 HKQ HQb HR2 HR1 HRb1
 go_wp2_with fail
 refine (p_if_no 2 w2).mono ?_
 rintro e w3 ⟨rfl,hw⟩
 subst hw
 -- the number that was given last
 have hil:=HFit.out.il
 have hgl:S.made[i]'hil=gv:=by rw [← HG.out,List.getD_eq_getElem?_getD,List.getElem?_eq_getElem hil];rfl
 obtain ⟨g3,o3,ha3,hc3⟩:=HR3.out.sv.mad i hil
 have ho3:o3=0:=by
  obtain ⟨g,hg⟩:=HV.out.2.2.2.2 _ ha3
  simp only [Addr.mk.injEq,and_true] at hg
  exact hg.2
 subst ho3
 have HA3:Hid (p.a3=some ⟨g3,0,none⟩):=ha3
 rw [hgl,Nat.zero_add] at hc3
 have hgv2:=HFit.out.mg _ (List.getElem_mem hil)
 rw [hgl] at hgv2
 obtain ⟨hg0,hg1⟩:=hgv2
 have d1:w3.cell? ⟨B,1,none⟩=some (.int .i64 (i:Int)):=by rw [← HFit.out.ci];exact HR3.out.c1
 have d10:w3.cell? ⟨B,10,none⟩=some (.slice (some ⟨g3,0,none⟩) S.made.length p.c3):=by rw [← ha3];exact HR3.out.c10
 have HC:Hid (w3.cell? ⟨B,1,none⟩=some (.int .i64 (i:Int))∧w3.cell? ⟨B,10,none⟩=some (.slice (some ⟨g3,0,none⟩) S.made.length p.c3)∧w3.cell? ⟨g3,i,none⟩=some (.int .i64 gv)):=⟨d1,d10,hc3⟩
 have i1:(i:Int) < (S.made.length:Int):=by omega
 have i2:(0:Int)≤(i:Int):=by omega
 have i3:(i:Int).toNat=i:=by omega
 clear hgl ha3 d1 d10 hc3
 go_upto_region 3 with fail
 go_region_held3 (fun w'=>w'.cell? ⟨B,1,none⟩=some (.int .i64 (i:Int))∧w'.cell? ⟨B,10,none⟩=some (.slice (some ⟨g3,0,none⟩) S.made.length p.c3)∧w'.cell? ⟨g3,i,none⟩=some (.int .i64 gv)) (first | exact HC.out | go_keep) (fail)
 have HKd:Hid (Kept [] w3 w3.drew):=(Kept.refl _ _).drew
 obtain ⟨W4,hW4⟩:∃ W4,w3.drew=W4:=⟨_,rfl⟩
 rw [hW4] at HKd ⊢
 have HC4:Hid (_):=HC3.out.kept HKd.out
 have HKw4:Hid (_):=HKw2.out.trans HKd.out (by simp)
 have HR4:Hid (_):=HR3.out.kept HKd.out
 have HRb4:Hid (_):=(HKd.out.block _ (lt_of_heap HRb2.out) (by simp)).trans HRb2.out
 have HQ4:Hid (_):=(HKd.out.block _ (lt_of_heap HQ2.out) (by simp)).trans HQ2.out
 have HG4:Hid (W4.cell? ⟨g3,i,none⟩=some (.int .i64 gv)):=HKd.out.cell HC.out.2.2 (by simp)
 have q0:W4.cell? ⟨Q,0,none⟩=some (.int .i64 d):=cellB HQ4.out
 have q1:W4.cell? ⟨Q,1,none⟩=some (.string t):=cellB HQ4.out
 clear hW4 HC HC3 HR3 HRb2 HQ2
 go_wp2_with fail
 refine (p_full HR4.out d t 0 ⟨#[]⟩ HAt.out hk).mono ?_
 rintro e w5 ⟨rfl,k5⟩
 have HC5:Hid (_):=HC4.out.kept k5
 have HKw5:Hid (_):=HKw4.out.trans k5 (by simp)
 have HR5:Hid (_):=HR4.out.kept k5
 have HRb5:Hid (_):=(k5.block _ (lt_of_heap HRb4.out) (by simp)).trans HRb4.out
 have HQ5:Hid (_):=(k5.block _ (lt_of_heap HQ4.out) (by simp)).trans HQ4.out
 have HG5:Hid (w5.cell? ⟨g3,i,none⟩=some (.int .i64 gv)):=k5.cell HG4.out (by simp)
 obtain ⟨nf,hnf⟩:∃ nf,nFull (S.ino[k]).ents d t 0 ⟨#[]⟩=nf:=⟨_,rfl⟩
 rw [hnf] at HD ⊢
 clear hnf k5 q0 q1 HKd HC4 HR4 HRb4 HQ4 HG4
 by_cases c1:4≤nf
 ·
  have HE:Hid (r=.error 5):=by show _=_;rw [HD.out,if_pos (Or.inl c1)]
  rw [decide_eq_true c1]
  clear HD c1
  go_wp2_with fail
  refine (p_if 5 (by decide) w5).mono ?_
  rintro e w6 ⟨rfl,hw⟩
  subst hw
  exact ⟨rfl,Out.err HE.out HC5.out (FrB.kept HKw5.out)⟩
 rw [decide_eq_false c1]
 by_cases c2:32≤gv
 ·
  have HE:Hid (r=.error 5):=by show _=_;rw [HD.out,if_pos (Or.inr c2)]
  have c3:decide (gv ≥ 32)=true:=decide_eq_true c2
  clear HD c1
  go_wp2_with fail
  refine (p_if 5 (by decide) w5).mono ?_
  rintro e w6 ⟨rfl,hw⟩
  subst hw
  exact ⟨rfl,Out.err HE.out HC5.out (FrB.kept HKw5.out)⟩
 rw [if_neg (fun h=>h.elim c1 c2)] at HD
 have c3:decide (gv ≥ 32)=false:=decide_eq_false c2
 clear c1
 go_wp2_with fail
 refine (p_if_no 5 w5).mono ?_
 rintro e w6 ⟨rfl,hw⟩
 subst hw
 have d1:w6.cell? ⟨B,1,none⟩=some (.int .i64 (i:Int)):=by rw [← HFit.out.ci];exact HR5.out.c1
 have d10:w6.cell? ⟨B,10,none⟩=some (.slice (some ⟨g3,0,none⟩) S.made.length p.c3):=by rw [← HA3.out];exact HR5.out.c10
 have HI8:Hid (i < 8):=HFit.out.i8
 go_wp2_with fail
 refine (p_numof (i:Int) gv w6 (by have:=HI8.out;omega) ⟨hg0,hg1⟩).mono ?_
 rintro e w7 ⟨rfl,hw⟩
 subst hw
 obtain ⟨num,hnum⟩:∃ num:Int,2+(i:Int)+8*gv=num:=⟨_,rfl⟩
 have HNum:Hid (2+c.core+8*gv=num∧0≤num∧num≤9223372036854775807):=by
  have:=HI8.out
  have:=HFit.out.ci
  exact ⟨by omega,by omega,by omega⟩
 rw [HNum.out.1] at HD
 rw [hnum]
 clear hnum
 have HS6:Hid (w7.cell? ⟨B,1,none⟩=some (.int .i64 (i:Int))∧w7.cell? ⟨B,10,none⟩=some (.slice (some ⟨g3,0,none⟩) S.made.length p.c3)):=⟨d1,d10⟩
 have HG7:Hid (v3=.slice (some ⟨g3,0,none⟩) S.made.length p.c3):=by show _=_;rw [HV.out.2.2.1,HA3.out]
 have HBg:Hid (B≠g3):=fun e=>(HC5.out.off B (by simp)).2.2.1 (by rw [HG7.out,e];rfl)
 have gc:w7.cell? ⟨g3,i,none⟩=some (.int .i64 gv):=HG5.out
 have gcd:w7.drew.cell? ⟨g3,i,none⟩=some (.int .i64 gv):=HG5.out
 have gf:w7.frozen? ⟨g3,i,none⟩=false:=by
  have:=HC5.out.os.mad
  rw [HG7.out] at this
  exact this.frozenAt _
 have gfd:w7.drew.frozen? ⟨g3,i,none⟩=false:=gf
 have HSt:Hid (∀ (W:World) (v:Value),(W.cell? ⟨B,1,none⟩=some (.int .i64 (i:Int))∧W.cell? ⟨B,10,none⟩=some (.slice (some ⟨g3,0,none⟩) S.made.length p.c3))→((W.setCell ⟨g3,i,none⟩ v).cell? ⟨B,1,none⟩=some (.int .i64 (i:Int))∧(W.setCell ⟨g3,i,none⟩ v).cell? ⟨B,10,none⟩=some (.slice (some ⟨g3,0,none⟩) S.made.length p.c3))):=fun W v hW=>by
  rw [cellO HBg.out,cellO HBg.out];exact hW
 have v1':wrap64 (gv+1)=gv+1:=by unfold wrap64;omega
 have v2':IntKind.i64.wrap (gv+1)=gv+1:=by rw [IntKind.wrap_i64];omega
 clear d1 d10
 go_upto_region 6 with fail
 refine wp_region_held_drew (S:=fun w'=>w'.cell? ⟨B,1,none⟩=some (.int .i64 (i:Int))∧w'.cell? ⟨B,10,none⟩=some (.slice (some ⟨g3,0,none⟩) S.made.length p.c3)) (by kernel_rfl) ?_ (fun hHeld=>?_)
 · exact HS6.out
 refine tkA 0 rfl ?_
 refine tkA 1 rfl ?_
 refine tkA 2 rfl ?_
 refine tkA 3 rfl ?_
 refine tkA 4 rfl ?_
 refine tkA 5 rfl ?_
 refine tkA 6 rfl ?_
 refine tkA 7 rfl ?_
 refine tkA 8 rfl ?_
 refine tkA 9 rfl ?_
 refine tkA 10 rfl ?_
 refine wpAnyH_ready (rs:=[11]) (by kernel_rfl) (by simp) ?_
 refine AllReadyH.cons rfl (fun K hK=>?_) AllReadyH.nil
 go_simp
 refine hK.out _ _ ?_ (fun hHeld=>?_)
 · exact hHeld
 clear hK K
 try simp only [Act.put,List.setIfInBounds_toArray,List.set_cons_zero,List.set_cons_succ,List.getElem_toArray,List.getElem_cons_zero,List.getElem_cons_succ]
 refine tkA 12 rfl ?_
 refine tkA 13 rfl ?_
 refine wpAnyH_ready (rs:=[14]) (by kernel_rfl) (by simp) ?_
 refine AllReadyH.cons rfl (fun K hK=>?_) AllReadyH.nil
 go_simp
 refine hK.out _ _ ?_ (fun hHeld=>?_)
 · exact HSt.out _ _ hHeld
 clear hK K
 try simp only [Act.put,List.setIfInBounds_toArray,List.set_cons_zero,List.set_cons_succ,List.getElem_toArray,List.getElem_cons_zero,List.getElem_cons_succ]
 refine wpAnyH_done (by kernel_rfl) ?_ _
 obtain ⟨x,hx⟩:∃ x:Ino,(⟨num,dir,[],⟨#[]⟩⟩:Ino)=x:=⟨_,rfl⟩
 have HX:Hid (x.num=num∧x.dir=dir∧x.ents=[]∧x.data=⟨#[]⟩):=by rw [← hx];exact ⟨rfl,rfl,rfl,rfl⟩
 rw [hx] at HD
 clear hx
 have HRg:Hid (R≠g3∧Q≠g3):=⟨fun e=>(HRo.out.1 R (by simp)).2.2.1 (by rw [HG7.out,e];rfl),fun e=>(HQo.out.1 Q (by simp)).2.2.1 (by rw [HG7.out,e];rfl)⟩
 have HC8:Hid (Cb w0 (w7.setCell ⟨g3,i,none⟩ (.int .i64 (gv+1))).drew B c pk v1 v2 v3 ev ⟨S.ino,S.opn,S.made.set i (gv+1)⟩):=(HC5.out.setMade HG7.out (gv+1)).kept (Kept.refl _ _).drew
 have HRb8:Hid ((w7.setCell ⟨g3,i,none⟩ (.int .i64 (gv+1))).drew.heap[R]?=_):=(block_other HRg.out.1).trans HRb5.out
 have HQ8:Hid ((w7.setCell ⟨g3,i,none⟩ (.int .i64 (gv+1))).drew.heap[Q]?=_):=(block_other HRg.out.2).trans HQ5.out
 have HHs:Hid (w0.heap.size≤(w7.setCell ⟨g3,i,none⟩ (.int .i64 (gv+1))).drew.heap.size):=HC8.out.k.size
 have HF8:Hid (FrB B w (w7.setCell ⟨g3,i,none⟩ (.int .i64 (gv+1))).drew v1 v2 v3 ev v1 v2 v3 ev):=((FrB.kept HKw5.out).trans (FrB.made HG7.out _)).trans (FrB.kept (Kept.refl _ _).drew)
 obtain ⟨W8,hW8⟩:∃ W8,(w7.setCell ⟨g3,i,none⟩ (.int .i64 (gv+1))).drew=W8:=⟨_,rfl⟩
 rw [hW8] at HC8 HRb8 HQ8 HHs HF8 ⊢
 have d8:W8.cell? ⟨B,8,none⟩=some (.slice p.a1 S.ino.length p.c1):=by rw [← HV.out.1];exact cellB HC8.out.box
 have HPI:Hid (Calls Tryz.prog 132 #[.slice p.a1 S.ino.length p.c1,.agg #[.int .i64 num,.bool dir,.slice none 0 0,.string ⟨#[]⟩],.func (.func 51) #[] #[]] W8 (InsR w0.heap.size 62 4 v1 (S.ino.length+1) (inoC (insR ltI S.ino x) (ev.take (whereR ltI S.ino x) ++ .slice none 0 0 :: ev.drop (whereR ltI S.ino x))) W8)):=by
  have:=put_ino HC8.out.os.evl (fun i hi hv=>row_ents (HC8.out.os.ent i hi hv)) HC8.out.os.ino HHs.out HC8.out.bd.n1 HFit.out.ia x
  rw [HX.out.1,HX.out.2.1,HX.out.2.2.2,HV.out.1] at this
  rw [HV.out.1]
  exact this
 clear hW8 hHeld HSt HS6 gc gcd gf gfd v1' v2' HR5 HG5 HRb5 HQ5 HC5
 go_wp2_with fail
 refine HPI.out.mono ?_
 rintro e w9 ⟨v',rfl,r9,k9,h9⟩
 obtain ⟨a9,c9,hv9,-⟩:=row_form r9
 have hB9:=(beside_putIno (v2:=v2) (v3:=v3) (ev:=ev) (q:=whereR ltI S.ino x) (B:=B) k9 h9 v' (lt_of_heap HRb8.out) HRo.out.1 HRo.out.2)
 have hQ9:=(beside_putIno (v2:=v2) (v3:=v3) (ev:=ev) (q:=whereR ltI S.ino x) (B:=B) k9 h9 v' (lt_of_heap HQ8.out) HQo.out.1 HQo.out.2)
 have hBb:B ∉ v1.ownBlock.toList:=fun hm=>by
  rw [Option.mem_toList] at hm
  exact (HC8.out.off B (by simp)).1 hm
 have hbx:w9.heap[B]?=_:=(k9.block B (lt_of_heap HC8.out.box) hBb).trans HC8.out.box
 have d9:w9.cell? ⟨B,8,none⟩=some (.slice p.a1 S.ino.length p.c1):=by rw [← HV.out.1];exact cellB hbx
 have f9:=frozen_of hbx 8
 have HC9:Hid (Cb w0 (w9.setCell ⟨B,8,none⟩ v') B c pk v' v2 v3 (ev.take (whereR ltI S.ino x) ++ .slice none 0 0 :: ev.drop (whereR ltI S.ino x)) ⟨insR ltI S.ino x,S.opn,S.made.set i (gv+1)⟩):=HC8.out.putIno HX.out.2.2.1 r9 k9 h9 (HC8.out.bd.putIno HFit.out.nl HX.out.2.2.1 HX.out.2.2.2 (by rw [HX.out.1];exact HNum.out.2.2))
 have HF9:Hid (FrB B w (w9.setCell ⟨B,8,none⟩ v') v1 v2 v3 ev v' v2 v3 (ev.take (whereR ltI S.ino x) ++ .slice none 0 0 :: ev.drop (whereR ltI S.ino x))):=HF8.out.trans (FrB.putIno k9 h9 v')
 have HRb9:Hid ((w9.setCell ⟨B,8,none⟩ v').heap[R]?=_):=hB9.1.trans HRb8.out
 have HQ9:Hid ((w9.setCell ⟨B,8,none⟩ v').heap[Q]?=_):=hQ9.1.trans HQ8.out
 have HRo9:Hid (Off [R] v' v2 v3 (ev.take (whereR ltI S.ino x) ++ .slice none 0 0 :: ev.drop (whereR ltI S.ino x))):=hB9.2
 subst hv9
 obtain ⟨ev9,hev9⟩:∃ ev9,ev.take (whereR ltI S.ino x) ++ .slice none 0 0 :: ev.drop (whereR ltI S.ino x)=ev9:=⟨_,rfl⟩
 rw [hev9] at HC9 HRo9 HF9
 clear r9 k9 h9 hB9 hQ9 hBb hbx hev9 d8
 go_upto_region 8 with fail
 obtain ⟨W9,hW9⟩:∃ W9,w9.setCell ⟨B,8,none⟩ (.slice a9 (S.ino.length+1) c9)=W9:=⟨_,rfl⟩
 rw [hW9] at HC9 HRb9 HQ9 HF9 ⊢
 clear hW9 d9 f9
 have q0:W9.cell? ⟨Q,0,none⟩=some (.int .i64 d):=cellB HQ9.out
 have q1:W9.cell? ⟨Q,1,none⟩=some (.string t):=cellB HQ9.out
 have hxd:x.num≠d:=by
  obtain ⟨hk',hn⟩:=at_get HAt.out
  have:=HFit.out.fr _ (List.getElem_mem hk')
  rw [hn,HG.out,HNum.out.1,← HX.out.1] at this
  exact Ne.symm this
 obtain ⟨j,hj1,hj,hj2⟩:=at_ins HAt.out hxd hk
 have HPS:Hid (r=.ok (setE ⟨insR ltI S.ino x,S.opn,S.made.set i (gv+1)⟩ j hj (insR ltE ((insR ltI S.ino x)[j]).ents (t,num)),ansC 0)):=by
  show _=_
  rw [HD.out,putS_at (S:=⟨insR ltI S.ino x,S.opn,S.made.set i (gv+1)⟩) hj1 hj]
 have HPut:Hid (Calls Tryz.prog 133 #[.pointer (some ⟨B,0,none⟩),.agg #[.int .i64 d,.string t],.int .i64 num] W9 fun e w'=>e=.returned (.tuple #[])∧∃ ev',Cb w0 w' B c pk (.slice a9 (S.ino.length+1) c9) v2 v3 ev' (setE ⟨insR ltI S.ino x,S.opn,S.made.set i (gv+1)⟩ j hj (insR ltE ((insR ltI S.ino x)[j]).ents (t,num)))∧Frm W9 w' (.slice a9 (S.ino.length+1) c9) v2 v3 ev9 (.slice a9 (S.ino.length+1) c9) v2 v3 ev'):=p_put HC9.out d t num hj1 hj (by show adj ltE ((insR ltI S.ino x)[j]).ents=true;rw [hj2];exact HFit.out.ea _ (List.getElem_mem hk)) (HBd.out _ _ HPS.out)
 clear hj1 hj2 hxd HD HBd
 go_wp2_with fail
 refine HPut.out.mono ?_
 rintro e w10 ⟨rfl,ev10,hcb,hfr⟩
 have h10:=hfr.2 R (lt_of_heap HRb9.out) HRo9.out
 have hb10:w10.heap[R]?=_:=h10.1.trans HRb9.out
 have HC10:Hid (_):=hcb
 have HF10:Hid (_):=HF9.out.trans hfr.frb
 have HO10:Hid (_):=h10.2
 obtain ⟨g0,g1,g2,g3',g4,g5⟩:=cz6 hb10
 obtain ⟨z0,z1,z2,z3,z4,z5⟩:=fz6 hb10
 have HB10:Hid (_):=hb10
 clear hcb hfr h10 hb10 q0 q1
 go_wp2_with fail
 (try simp only [Exit.inBlock,Exit.then])
 refine bodyPost_ret (results_cell_row rfl _ _ R 31 #[.int .i64 0,.int .i64 0,.int .i64 0,.bool false,.string ⟨#[]⟩,.slice none 0 0] (0,0) _ rfl (block_res HB10.out _ _ _ _ _ _) Tryz.underlying31 rfl (by kernel_rfl)) rfl ?_
 exact Out.val HPS.out rfl rfl (HC10.out.res HRl.out HO10.out HRo.out.2 _ _ _ _ _ _) (FrB.res HF10.out HRw.out _ _ _ _ _ _)
theorem in_sum:∀ (E:List En),inB E 0+inB E 1+inB E 2+inB E 3+inB E 4+inB E 5+inB E 6+inB E 7=E.length
 | []=>by simp [inB]
 | e :: l=>by
  have ih:=in_sum l
  have hr:=bkt_range e.1
  have one:∀ b,inB (e :: l) b=inB l b+if bkt e.1=(b:Int) then 1 else 0:=fun b=>by
   unfold inB
   rw [List.countP_cons]
   by_cases h:bkt e.1=(b:Int)
   · simp [h]
   · simp [h]
  simp only [one,List.length_cons]
  have hc:bkt e.1=0∨bkt e.1=1∨bkt e.1=2∨bkt e.1=3∨bkt e.1=4∨bkt e.1=5∨bkt e.1=6∨bkt e.1=7:=by omega
  rcases hc with h | h | h | h | h | h | h | h <;> (rw [h];simp;omega)
structure Wel (S:Sta):Prop where
 clo:Clo S.ino
 tr:Tr S.ino
 ia:adj ltI S.ino=true
 ea:∀ x∈S.ino,adj ltE x.ents=true
 da:adj ltD S.opn=true
 few:S.ino.length≤257
 en:∀ x∈S.ino,x.ents.length≤32
 nm:∀ x∈S.ino,∀ e∈x.ents,chk e.1=0
 dt:∀ x∈S.ino,x.data.size≤256
 rg:∀ x∈S.ino,1≤x.num∧x.num≤257
 fds:∀ d∈S.opn,0≤d.1∧d.1 < S.made.length∧0≤d.2.1∧d.2.1 < 4∧∃ k,∃ hk:k < S.ino.length,atR S.ino d.2.2=some k∧(S.ino[k]).dir=false
 m1:1≤S.made.length
 m8:S.made.length≤8
 mg:∀ g∈S.made,0≤g∧g≤32
 gv:∀ j (hj:j+1 < S.ino.length),givenB S.made (S.ino[j+1]).num=true
theorem wel_of {S:Sta} (h:mayB S=true):Wel S:=by
 obtain ⟨hM,hN,hI,hO,hH,hF⟩:=may_iff.1 h
 have tr:=tr_of hN hI hH
 have rg:=rng_of hM hN hI
 obtain ⟨m1,m8,mg⟩:=made_iff.1 hM
 obtain ⟨-,-,-,ia,gv⟩:=nums_iff.1 hN
 have hi:∀ x∈S.ino,inoB S.ino x=true:=fun x hx=>List.all_eq_true.1 hI x hx
 have ents:∀ x∈S.ino,x.dir=true→entsB S.ino x.ents=true:=fun x hx hd=>by
  have:=hi x hx
  unfold inoB at this
  rw [if_pos hd,Bool.and_eq_true] at this
  exact this.2
 have fil:∀ x∈S.ino,x.dir=false→x.ents=[]∧x.data.size≤256:=fun x hx hd=>by
  have:=hi x hx
  unfold inoB at this
  rw [if_neg (by rw [hd];simp),Bool.and_eq_true,decide_eq_true_eq] at this
  exact ⟨List.isEmpty_iff.1 this.1,this.2⟩
 have dsz:∀ x∈S.ino,x.dir=true→x.data.size=0:=fun x hx hd=>by
  have:=hi x hx
  unfold inoB at this
  rw [if_pos hd,Bool.and_eq_true] at this
  have h2:=List.isEmpty_iff.1 this.1
  have h3:x.data.toList.length=x.data.size:=by rw [ByteArray.toList_eq];simp
  rw [h2] at h3
  simpa using h3.symm
 unfold opensB at hO
 rw [Bool.and_eq_true] at hO
 refine ⟨tr.clo,tr,ia,fun x hx=>?_,hO.1,rg.few,fun x hx=>?_,fun x hx e he=>?_,fun x hx=>?_,rg.ino,fun d hd=>?_,m1,m8,mg,gv⟩
 ·
  rcases hd:x.dir with _ | _
  · rw [(fil x hx hd).1];rfl
  · exact (ents_iff.1 (ents x hx hd)).2.2
 ·
  rcases hd:x.dir with _ | _
  · rw [(fil x hx hd).1];simp
  ·
   have:=(ents_iff.1 (ents x hx hd)).2.1
   have h0:=this 0 (by omega)
   have h1:=this 1 (by omega)
   have h2:=this 2 (by omega)
   have h3:=this 3 (by omega)
   have h4:=this 4 (by omega)
   have h5:=this 5 (by omega)
   have h6:=this 6 (by omega)
   have h7:=this 7 (by omega)
   have:=in_sum x.ents
   omega
 ·
  obtain ⟨k,hk,rfl⟩:=List.getElem_of_mem hx
  exact (ino_ents hI hk e he).2.1
 ·
  rcases hd:x.dir with _ | _
  · exact (fil x hx hd).2
  · rw [dsz x hx hd];omega
 ·
  have:=List.all_eq_true.1 hO.2 d hd
  unfold desB at this
  simp only [Bool.and_eq_true,decide_eq_true_eq] at this
  obtain ⟨⟨⟨⟨h1,h2⟩,h3⟩,h4⟩,h5⟩:=this
  refine ⟨h1,by omega,h3,by omega,?_⟩
  rcases ha:atR S.ino d.2.2 with _ | k
  · rw [ha] at h5;cases h5
  ·
   rw [ha] at h5
   obtain ⟨hk,-⟩:=at_get ha
   refine ⟨k,hk,rfl,?_⟩
   simp only [List.getElem?_eq_getElem hk,Option.map_some,Option.getD_some] at h5
   simpa using h5
theorem Wel.few2 {S:Sta} (h:Wel S):S.opn.length≤32:=by
 have key:∀ i (hi:i < S.opn.length),(i:Int)≤(S.opn[i]).1*4+(S.opn[i]).2.1:=by
  intro i
  induction i with
  | zero=>intro hi;have:=h.fds _ (List.getElem_mem hi);omega
  | succ i ih=>
   intro hi
   have h1:=ih (by omega)
   have h2:=adj_iff.1 h.da i hi
   have h3:=h.fds _ (List.getElem_mem hi)
   have h4:=h.fds _ (List.getElem_mem (show i < S.opn.length by omega))
   unfold ltD at h2
   simp only [Bool.or_eq_true,Bool.and_eq_true,decide_eq_true_eq,beq_iff_eq] at h2
   omega
 rcases Nat.lt_or_ge 32 S.opn.length with hl | hl
 ·
  have h1:=key 32 hl
  have h2:=h.fds _ (List.getElem_mem hl)
  have:=h.m8
  omega
 · exact hl
theorem Wel.fresh {S:Sta} (h:Wel S) {i:Nat} (hi:i < S.made.length):∀ x∈S.ino,x.num≠2+(i:Int)+8*S.made.getD i 0:=by
 intro x hx e
 have hg:S.made.getD i 0=S.made[i]:=by rw [List.getD_eq_getElem?_getD,List.getElem?_eq_getElem hi];rfl
 have hm:=h.mg _ (List.getElem_mem hi)
 rw [hg] at e
 obtain ⟨k,hk,rfl⟩:=List.getElem_of_mem hx
 cases k with
 | zero=>have:=h.tr.n0;omega
 | succ j=>
  have h8:=h.m8
  have:=h.gv j hk
  obtain ⟨m,hm2⟩:∃ m:Nat,(S.ino[j+1]).num - 2=(m:Int):=⟨((S.ino[j+1]).num - 2).toNat,by omega⟩
  have hmod:m % 8=i:=by omega
  rw [given_in hm2 (by omega),decide_eq_true_eq] at this
  simp only [hmod] at this
  omega
theorem Wel.fit {S:Sta} (h:Wel S) {c:Cal} {i:Nat} (hc:c.core=(i:Int)) (hi:i < S.made.length):Fit S c i:=
 ⟨h.clo,h.ia,h.ea,hc,by have:=h.m8;omega,hi,h.mg,by rw [hc];exact h.fresh hi,by have:=h.few;omega⟩
theorem spot_name {L:List Ino} {s:ByteArray} {d:Int} {t:ByteArray} (h:spotR L s=.ok (d,t)):chk t=0∧t.size≤12:=by
 unfold spotR at h
 split at h
 · cases h
 split at h
 · cases h
 ·
  rename_i h1 h2
  split at h
  · cases h
  split at h
  ·
   simp only [Except.ok.injEq,Prod.mk.injEq] at h
   have hm:tx (parseR s).1 ((parseR s).1.length - 1)∈(parseR s).1:=tx_mem (by omega)
   rw [← h.2]
   have hc:=(parse_few s).2.2 _ hm
   exact ⟨hc,(chk_size hc).1⟩
  · cases h
theorem Wel.put {S:Sta} (h:Wel S) (hb:Bd S) {k:Nat} (hk:k < S.ino.length) {t:ByteArray} (ht:t.size≤12) (nu:Int):Bd (setE S k hk (insR ltE (S.ino[k]).ents (t,nu))):=by
 refine hb.setEnt hk (by rw [insR_length];have:=h.en _ (List.getElem_mem hk);omega) fun e he=>?_
 unfold insR at he
 simp only [List.mem_append,List.mem_cons] at he
 rcases he with h1 | h1 | h1
 · exact hb.e1 _ (List.getElem_mem hk) e (List.mem_of_mem_take h1)
 · rw [h1];show t.size≤_;omega
 · exact hb.e1 _ (List.getElem_mem hk) e (List.mem_of_mem_drop h1)
end Go.Proofs.YtffncojcnbhblaaGreatDoor
