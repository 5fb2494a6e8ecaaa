/-
  Joined of my texts Md Ow Bf.
-/
import Derived.Test.YtffncojcnbhblaaGreatDoorJb6
import Derived.OwnWalk
import Derived.Maps.AppendAt
set_option linter.unusedVariables false
set_option linter.unusedSimpArgs false
set_option maxRecDepth 100000
set_option maxHeartbeats 8000000
namespace Go.Proofs.YtffncojcnbhblaaGreatDoor
open Go.RowKit
theorem of_alloc {P:Program} {c:Code} {Q:Exit→Act→World→Prop} {a:Act} {w:World} {o:Obj} (h:∀ W,W=w.alloc o→Code.wp P c Q a W):Code.wp P c Q a (w.alloc o):=h _ rfl
def entN (L:List Ino) (z:Int):Nat:=(L.map fun x=>cnt x.ents z).sum
def helB (S:Sta) (x:Ino):Bool:=if x.dir then entN S.ino x.num == 1 else entN S.ino x.num != 0 || (opP S.opn x.num).isSome
def heldB (S:Sta):Bool:=S.ino.tail.all (helB S)
theorem zero258 (w:World):(zeroValue 98).run Tryz.prog w=.ok (.agg (rowF 258 fun _=>.int .i64 0)) w:=by kernel_rfl
structure Rng (S:Sta):Prop where
 ino:∀ x∈S.ino,1≤x.num∧x.num≤257
 ent:∀ x∈S.ino,∀ e∈x.ents,1≤e.2∧e.2≤257
 few:S.ino.length≤257
 pos:0 < S.ino.length
theorem entN_take {L:List Ino} {z:Int} {n:Nat} (h:n < L.length):entN (L.take (n+1)) z=entN (L.take n) z+cnt (L[n]).ents z:=by
 unfold entN
 rw [List.take_succ_eq_append_getElem h,List.map_append,List.sum_append]
 simp
theorem entN_le {L:List Ino} {z:Int} (hl:∀ x∈L,x.ents.length≤lim):entN L z≤L.length*lim:=by
 unfold entN
 induction L with
 | nil=>simp
 | cons x L ih=>
  have h1:=ih fun y hy=>hl y (List.mem_cons_of_mem _ hy)
  have h2:=hl x (List.mem_cons_self ..)
  have h3:=cnt_le x.ents z
  simp only [List.map_cons,List.sum_cons,List.length_cons]
  rw [Nat.add_mul]
  omega
theorem entN_big {L:List Ino} {z:Int} (hs:L.length≤60000) (hl:∀ x∈L,x.ents.length≤lim):entN L z≤8444249301319680000:=by
 have e:60000*lim=8444249301319680000:=by simp [lim]
 rw [← e]
 exact Nat.le_trans (entN_le hl) (Nat.mul_le_mul_right lim hs)
theorem held_iff {S:Sta}:heldB S=true↔∀ j (hj:j+1 < S.ino.length),helB S (S.ino[j+1])=true:=by
 unfold heldB
 rw [List.all_eq_true]
 constructor
 ·
  intro h j hj
  refine h _ ?_
  have hj2:j < S.ino.tail.length:=by rw [List.length_tail];omega
  have:S.ino.tail[j]=S.ino[j+1]:=by simp
  rw [← this]
  exact List.getElem_mem hj2
 ·
  intro h x hx
  obtain ⟨j,hj,rfl⟩:=List.getElem_of_mem hx
  rw [List.length_tail] at hj
  have:=h j (by omega)
  simpa using this
def cntT (L:List Ino) (n:Nat) (E:List En):Nat→Value:=fun z=>.int .i64 ((entN (L.take n) (z:Int)+cnt E (z:Int):Nat):Int)
theorem cntT_next {L:List Ino} {n:Nat} {E:List En} {k m:Nat} (h:k < E.length) (hm:(E[k]).2=(m:Int)):updV (cntT L n (E.take k)) m (.int .i64 ((entN (L.take n) (m:Int)+cnt (E.take k) (m:Int)+1:Nat):Int))=cntT L n (E.take (k+1)):=by
 funext j
 unfold updV cntT
 rw [cnt_take h]
 by_cases e:j=m
 · subst e;rw [if_pos rfl,if_pos hm];rfl
 · rw [if_neg e,if_neg (by rw [hm];omega)];rfl
theorem cntT_all {L:List Ino} {n:Nat} (h:n < L.length):cntT L n (L[n]).ents=cntT L (n+1) []:=by
 funext j
 unfold cntT
 rw [entN_take h]
 rfl
structure Cm (w0 w:World) (B:Nat) (F:Nat→Value):Prop where
 k:Kept [] w0 w
 here:w.heap[B]?=some (.cells (rowF 258 F) 98 (0,0))
 lo:w0.heap.size≤B
theorem Cm.kept {w0 w w':World} {B:Nat} {F:Nat→Value} (h:Cm w0 w B F) (k:Kept [] w w'):Cm w0 w' B F:=
 ⟨h.k.trans k (by simp),(k.block B (lt_of_heap h.here) (by simp)).trans h.here,h.lo⟩
theorem Cm.put {w0 w:World} {B:Nat} {F:Nat→Value} (h:Cm w0 w B F) (i:Nat) (v:Value):Cm w0 (w.setCell ⟨B,i,none⟩ v) B (updV F i v):=
 ⟨h.k.setCell (Or.inr h.lo) _,by rw [← rowF_set];exact block_set h.here i v,h.lo⟩
theorem Cm.cell {w0 w:World} {B:Nat} {F:Nat→Value} (h:Cm w0 w B F) {i:Nat} (hi:i < 258):w.cell? ⟨B,i,none⟩=some (F i):=by
 rw [cellB h.here];exact rowF_get F hi
theorem cellO {w:World} {B Y i j:Nat} {v:Value} (h:Y≠B):(w.setCell ⟨B,i,none⟩ v).cell? ⟨Y,j,none⟩=w.cell? ⟨Y,j,none⟩:=
 World.cell?_of_block (a:=⟨Y,j,none⟩) (block_other h)
theorem p_held {w:World} {p:Pl} {S:Sta} (h:Sv w p S) (hg:Rng S) :
  Calls Tryz.prog 35 #[sval p S] w fun e w'=>e=.returned (.bool (heldB S))∧Kept [] w w':=by
 have HN:Hid (_):=h.n4
 have HG:Hid (Rng S):=hg
 obtain ⟨W0,X,HW,HB⟩:=boxS h
 have hn1:S.ino.length≤257:=hg.few
 have hpos:0 < S.ino.length:=hg.pos
 have i4:S.ino.length≤p.c1:=h.k1
 clear h hg
 obtain ⟨b,o,ae0,ce0,ha,-⟩:=HB.out.sv.ino 0 hpos
 have HA:Hid (p.a1=some ⟨b,o,none⟩):=ha
 clear ha
 have hz0:=zero258
 go_enter Tryz.func35,Tryz.ntmps35
 go_upto_region 1 with fail
 rw [HW.out.1,HW.out.2]
 clear HW
 go_upto_region 2 with fail
 refine of_alloc fun W1 hW1=>?_
 obtain ⟨B,hB⟩:∃ B,W0.heap.size=B:=⟨_,rfl⟩
 have HC1:Hid (Cm W0 W1 B (cntT S.ino 0 [])):=by
  rw [hW1,← hB]
  exact ⟨(Kept.refl [] W0).alloc _,Go.heap_alloc_new W0 _,Nat.le_refl _⟩
 rw [hB]
 have x0:=(HB.out.kept HC1.out.k).x0
 rw [HA.out] at x0
 clear hW1 hB hz0
 go_wp2_with fail
 clear x0
 go_loopw [13] (fun i wr=>∃ n:Nat,i=.int .i64 (n:Int)∧n≤S.ino.length∧Hid (Cm W0 wr B (cntT S.ino n []))) (fun i _=>(S.ino.length - intOf i).toNat)
 case atStart=>exact ⟨0,rfl,by omega,HC1.out⟩
 case round=>
  obtain ⟨n,rfl,hn,HJ⟩:=hrel
  by_cases hlt:n < S.ino.length
  ·
   have j0:(0:Int)≤(n:Int):=by omega
   have j1:(n:Int) < (S.ino.length:Int):=by omega
   obtain ⟨b',o',ae,ce,ha',q0,q1,q2,q3,q4,q5⟩:=(HB.out.kept HJ.out.k).sv.ino n hlt
   rw [HA.out] at ha'
   simp only [Option.some.injEq,Addr.mk.injEq,and_true] at ha'
   obtain ⟨hb1,hb2⟩:=ha'
   subst hb1 hb2
   have hlim:(S.ino[n]).ents.length≤lim:=HN.out _ (List.getElem_mem hlt)
   have HRg:Hid (∀ e∈(S.ino[n]).ents,1≤e.2∧e.2≤257):=HG.out.ent _ (List.getElem_mem hlt)
   have HAll:Hid (_):=cntT_all hlt
   have HBig:Hid (∀ z k,entN (S.ino.take n) z+cnt ((S.ino[n]).ents.take k) z≤8444249301319680000):=fun z k=>by
    have h1:=entN_big (L:=S.ino.take (n+1)) (z:=z) (by rw [List.length_take];omega) fun x hx=>HN.out x (List.mem_of_mem_take hx)
    rw [entN_take hlt] at h1
    have h2:cnt ((S.ino[n]).ents.take k) z≤cnt (S.ino[n]).ents z:=(List.take_sublist k _).countP_le
    omega
   obtain ⟨E,hE⟩:∃ E,(S.ino[n]).ents=E:=⟨_,rfl⟩
   rw [hE] at q2 q4 q5 hlim HRg HAll HBig
   generalize (S.ino[n]).num=z0 at q0
   generalize (S.ino[n]).dir=d0 at q1
   generalize (S.ino[n]).data=s0 at q3
   have HEn:Hid (EntA _ ae E):=q4
   unfold lim at hlim
   clear hE q4 q5
   obtain ⟨W2,Y,HWY,HK2,c0,c1,c2,c3⟩:=box4 wr (.int .i64 z0) (.bool d0) (.slice ae E.length ce) (.string s0) 62
   have HC2:Hid (Cm W0 W2 B (cntT S.ino n (E.take 0))):=HJ.out.kept HK2.out
   have HEn2:Hid (EntA W2 ae E):=HEn.out.kept HK2.out
   go_upto_region 5 with fail
   rw [HWY.out.1,HWY.out.2]
   clear HWY q0 q1 q2 q3 HJ HEn HK2
   have HLt:Hid (∀ i (hi:i < E.length),(∃ b o,ae=some ⟨b,o,none⟩∧b < W2.heap.size)):=fun i hi=>by
    obtain ⟨b,o,e1,e2,-⟩:=HEn2.out i hi
    exact ⟨b,o,e1,block_lt_of_cell e2⟩
   go_wp2_with fail
   clear c0 c1 c2 c3
   go_loopw [20] (fun i wr2=>∃ k:Nat,i=.int .i64 (k:Int)∧k≤E.length∧Hid (Cm W0 wr2 B (cntT S.ino n (E.take k))∧EntA wr2 ae E)) (fun i _=>(E.length - intOf i).toNat)
   case atStart=>exact ⟨0,rfl,by omega,HC2.out,HEn2.out⟩
   case round=>
    obtain ⟨k,rfl,hk,HJ⟩:=hrel
    by_cases hlk:k < E.length
    ·
     have l0:(0:Int)≤(k:Int):=by omega
     have l1:(k:Int) < (E.length:Int):=by omega
     obtain ⟨b5,o5,hb5,g1,g2⟩:=HJ.out.2 k hlk
     have HA5:Hid (_):=hb5
     obtain ⟨hz1,hz2⟩:=HRg.out _ (List.getElem_mem hlk)
     obtain ⟨m,hm⟩:∃ m:Nat,(E[k]).2=(m:Int):=⟨(E[k]).2.toNat,by omega⟩
     have HNx:Hid (_):=cntT_next (L:=S.ino) (n:=n) hlk hm
     have hbg:=HBig.out (m:Int) k
     obtain ⟨q,hq⟩:∃ q,entN (S.ino.take n) (m:Int)+cnt (E.take k) (m:Int)=q:=⟨_,rfl⟩
     have HQ:Hid (_):=hq
     rw [hq] at hbg HNx
     rw [hm] at g2 hz1 hz2
     generalize (E[k]).1=t at g1
     have m0:(0:Int)≤(m:Int):=by omega
     have m1:(m:Int) < 258:=by omega
     have m2:m < 258:=by omega
     rw [hb5]
     obtain ⟨W3,Z,HWZ,HK3,e0,e1⟩:=box2 ‹_› (.string t) (.int .i64 (m:Int)) 64
     have HC3:Hid (_):=HJ.out.1.kept HK3.out
     have HEn3:Hid (EntA W3 ae E):=HJ.out.2.kept HK3.out
     have e2:W3.cell? ⟨B,m,none⟩=some (.int .i64 (q:Int)):=by rw [HC3.out.cell m2];unfold cntT;rw [HQ.out]
     have e3:=frozen_of HC3.out.here m
     obtain ⟨W4,hW4⟩:∃ W4,W3.setCell ⟨B,m,none⟩ (.int .i64 ((q:Int)+1))=W4:=⟨_,rfl⟩
     have HC4:Hid (Cm W0 W4 B (cntT S.ino n (E.take (k+1)))):=by
      rw [← hW4,← HNx.out]
      exact HC3.out.put m _
     have HBl:Hid (∀ b o,ae=some ⟨b,o,none⟩→b≠B):=fun b o hao e=>by
      obtain ⟨b6,o6,h61,h62,h63⟩:=HEn3.out k hlk
      rw [hao] at h61
      simp only [Option.some.injEq,Addr.mk.injEq,and_true] at h61
      obtain ⟨e4,e5⟩:=h61
      rw [← e4,e] at h62
      have:=cellB (i:=o6+k*2) HC3.out.here
      rw [h62] at this
      unfold rowF at this
      simp only [List.getElem?_toArray,List.getElem?_map] at this
      rcases h7:(List.range 258)[o6+k*2]? with _ | x
      · rw [h7] at this;cases this
      ·
       rw [h7] at this
       unfold cntT at this
       cases this
     have HEn4:Hid (EntA W4 ae E):=fun i hi=>by
      obtain ⟨b6,o6,h61,h62,h63⟩:=HEn3.out i hi
      have hne:=HBl.out b6 o6 h61
      refine ⟨b6,o6,h61,?_,?_⟩
      · rw [← hW4,cellO hne];exact h62
      · rw [← hW4,cellO hne];exact h63
     have HW4:Hid (_):=hW4
     clear hW4 hq hm hb5
     go_upto_region 8 with fail
     rw [HWZ.out.1,HWZ.out.2]
     clear HWZ g1 g2 HJ HK3
     go_upto_region 9 with fail
     rw [HW4.out]
     clear HW4 e0 e1 e2 e3
     go_wp2_with fail
     go_roundw
     case rel=>exact ⟨k+1,by go_num,by omega,HC4.out,by have:=HEn4.out;rw [HA5.out] at this;exact this⟩
     case measure=>simp [intOf];omega
    ·
     have l1:¬ (k:Int) < (E.length:Int):=by omega
     have HC5:Hid (Cm W0 wr B (cntT S.ino (n+1) [])):=by
      have:=HJ.out.1
      rw [List.take_of_length_le (by omega),HAll.out] at this
      exact this
     clear HJ
     go_wp2_with fail
     go_roundw
     case rel=>exact ⟨n+1,by go_num,by omega,HC5.out⟩
     case measure=>simp [intOf];omega
  ·
   have j1:¬ (n:Int) < (S.ino.length:Int):=by omega
   have HF:Hid (Cm W0 wr B fun z=>.int .i64 ((entN S.ino (z:Int):Nat):Int)):=by
    have:=HJ.out
    unfold cntT at this
    rw [List.take_of_length_le (by omega)] at this
    show Cm W0 wr B _
    simpa [cnt] using this
   have HB2:Hid (_):=HB.out.kept HF.out.k
   have x0:=HB2.out.x0
   rw [HA.out] at x0
   have i3:(1:Int)≤(S.ino.length:Int):=by omega
   clear HJ
   by_cases hc1:p.c1=1
   ·
    have HR:Hid (true=heldB S):=(held_iff.2 fun j hj=>by omega).symm
    have k0:¬ (0:Int) < ((S.ino.length - 1:Nat):Int):=by omega
    go_wp2_with fail
    clear x0
    go_loopw [36] (fun i wr2=>i=.int .i64 0∧wr2=wr) (fun _ _=>0)
    case atStart=>exact ⟨rfl,rfl⟩
    case round=>
     obtain ⟨rfl,hw⟩:=hrel
     have hw2:=hw.symm
     subst hw2
     clear hw
     go_wp2_with fail
     go_ret
     exact ⟨ret_bool HR.out,HB2.out.k⟩
   ·
    go_wp2_with fail
    clear x0
    go_loopw [36] (fun i wr2=>∃ n:Nat,i=.int .i64 (n:Int)∧n≤S.ino.length - 1∧Hid (Cm W0 wr2 B (fun z=>.int .i64 ((entN S.ino (z:Int):Nat):Int))∧∀ j (hj:j+1 < S.ino.length),j < n→helB S (S.ino[j+1])=true)) (fun i _=>((S.ino.length - 1:Nat) - intOf i).toNat)
    case atStart=>exact ⟨0,rfl,by omega,HF.out,fun j _ hj=>by omega⟩
    case round=>
     obtain ⟨n2,rfl,hn2,HJ⟩:=hrel
     by_cases hlt2:n2 < S.ino.length - 1
     ·
      have l0:(0:Int)≤(n2:Int):=by omega
      have l1:(n2:Int) < ((S.ino.length - 1:Nat):Int):=by omega
      have HB3:Hid (_):=HB.out.kept HJ.out.1.k
      obtain ⟨b',o',ae',ce',ha',q0,q1,q2,q3,-⟩:=HB3.out.sv.ino (n2+1) (by omega)
      rw [HA.out] at ha'
      simp only [Option.some.injEq,Addr.mk.injEq,and_true] at ha'
      obtain ⟨hb1,hb2⟩:=ha'
      subst hb1 hb2
      have eo:o+(n2+1)*4=o+4+n2*4:=by omega
      rw [eo] at q0 q1 q2 q3
      clear eo
      obtain ⟨hz1,hz2⟩:=HG.out.ino (S.ino[n2+1]) (List.getElem_mem _)
      have HNo:Hid (helB S (S.ino[n2+1])=false→false=heldB S):=fun hc=>by
       symm
       rw [← Bool.not_eq_true,held_iff]
       intro e
       rw [e n2 (by omega)] at hc
       cases hc
      have HYes:Hid (helB S (S.ino[n2+1])=true→∀ j (hj:j+1 < S.ino.length),j < n2+1→helB S (S.ino[j+1])=true):=fun hc j hj hjn=>by
       by_cases e:j=n2
       · subst e;exact hc
       · exact HJ.out.2 j hj (by omega)
      have HEq:Hid (helB S (S.ino[n2+1])=if (S.ino[n2+1]).dir then entN S.ino (S.ino[n2+1]).num == 1 else entN S.ino (S.ino[n2+1]).num != 0 || (opP S.opn (S.ino[n2+1]).num).isSome):=rfl
      obtain ⟨m,hm⟩:∃ m:Nat,(S.ino[n2+1]).num=(m:Int):=⟨(S.ino[n2+1]).num.toNat,by omega⟩
      rw [hm] at q0 hz1 hz2 HEq
      obtain ⟨d,hd⟩:∃ d,(S.ino[n2+1]).dir=d:=⟨_,rfl⟩
      rw [hd] at q1 HEq
      generalize (S.ino[n2+1]).ents.length=el at q2
      generalize (S.ino[n2+1]).data=da at q3
      have m0:(0:Int)≤(m:Int):=by omega
      have m1:(m:Int) < 258:=by omega
      have m2:m < 258:=by omega
      clear hm hd
      obtain ⟨W3,Y,HWY,HK3,c0,c1,-,-⟩:=box4 ‹_› (.int .i64 (m:Int)) (.bool d) (.slice ae' el ce') (.string da) 62
      have HC3:Hid (_):=HJ.out.1.kept HK3.out
      have HB4:Hid (_):=HB3.out.kept HK3.out
      obtain ⟨q,hq⟩:∃ q,entN S.ino (m:Int)=q:=⟨_,rfl⟩
      have e2:W3.cell? ⟨B,m,none⟩=some (.int .i64 (q:Int)):=by rw [HC3.out.cell m2,hq]
      rw [hq] at HEq
      clear hq
      go_upto_region 14 with fail
      rw [HWY.out.1,HWY.out.2]
      clear HWY q0 q1 q2 q3 HJ HK3 HB3
      cases d
      ·
       have HE2:Hid (helB S (S.ino[n2+1])=(q != 0 || (opP S.opn (m:Int)).isSome)):=HEq.out
       clear HEq
       by_cases hq0:q=0
       ·
        have b1:((q:Int) == 0)=true:=by simpa using hq0
        have HE3:Hid (helB S (S.ino[n2+1])=(opP S.opn (m:Int)).isSome):=by show _=_;rw [HE2.out,hq0];rfl
        have x0:=HB4.out.x0
        have x1:=HB4.out.x1
        have x2:=HB4.out.x2
        clear HE2 hq0
        go_wp2_with fail
        refine (p_isopen HB4.out.sv (m:Int)).mono ?_
        rintro e w6 ⟨rfl,k6⟩
        have HC6:Hid (_):=HC3.out.kept k6
        have HK6:Hid (Kept [] w w6):=HB4.out.k.trans k6 (by simp)
        clear k6 x0 x1 x2 c0 c1 e2
        rcases hop:(opP S.opn (m:Int)).isSome with _ | _
        ·
         have HR:Hid (_):=HNo.out (by rw [HE3.out,hop])
         clear HNo HYes HE3 hop
         go_wp2_with fail
         go_ret
         exact ⟨ret_bool HR.out,HK6.out⟩
        ·
         have HR:Hid (_):=HYes.out (by rw [HE3.out,hop])
         clear HNo HYes HE3 hop
         go_wp2_with fail
         go_roundw
         case rel=>exact ⟨n2+1,by go_num,by omega,HC6.out,HR.out⟩
         case measure=>simp [intOf];omega
       ·
        have b1:((q:Int) == 0)=false:=by simpa using hq0
        have HR:Hid (_):=HYes.out (by rw [HE2.out];simp [hq0])
        clear HNo HYes HE2
        go_wp2_with fail
        go_roundw
        case rel=>exact ⟨n2+1,by go_num,by omega,HC3.out,HR.out⟩
        case measure=>simp [intOf];omega
      ·
       have HE2:Hid (helB S (S.ino[n2+1])=(q == 1)):=HEq.out
       clear HEq
       by_cases hq1:q=1
       ·
        have b1:((q:Int) != 1)=false:=by simp [hq1]
        have HR:Hid (_):=HYes.out (by rw [HE2.out,hq1];rfl)
        clear HNo HYes HE2 hq1
        go_wp2_with fail
        go_roundw
        case rel=>exact ⟨n2+1,by go_num,by omega,HC3.out,HR.out⟩
        case measure=>simp [intOf];omega
       ·
        have b1:((q:Int) != 1)=true:=by simp;omega
        have HR:Hid (_):=HNo.out (by rw [HE2.out];simp [hq1])
        clear HNo HYes HE2
        go_wp2_with fail
        go_ret
        exact ⟨ret_bool HR.out,HB4.out.k⟩
     ·
      have l1:¬ (n2:Int) < ((S.ino.length - 1:Nat):Int):=by omega
      have HR:Hid (true=heldB S):=(held_iff.2 fun j hj=>HJ.out.2 j hj (by omega)).symm
      have HK:Hid (Kept [] w wr):=HB.out.k.trans HJ.out.1.k (by simp)
      clear HJ
      go_wp2_with fail
      go_ret
      exact ⟨ret_bool HR.out,HK.out⟩
theorem info3:(Tryz.prog.info? 3).map (fun i=>(i.zero,i.size,i.bytes))=some (some (.int .i64 0),1,8):=by kernel_rfl
theorem add_lit (g o j:Nat):(⟨g,o,none⟩:Addr).add j=⟨g,o+j,none⟩:=by unfold Addr.add;split <;> simp_all
def Own (w:World) (H:Nat) (v:Value) (xs:List Int):Prop:=w.ownsRow H 3 1 v xs.length (xs.map (Value.int .i64))
theorem Own.nil (w:World) (H:Nat):Own w H (.slice none 0 0) []:=World.ownsRow_nil w H 3 1
theorem Own.form {w:World} {H:Nat} {v:Value} {xs:List Int} (h:Own w H v xs):(v=.slice none 0 0∧xs=[])∨
  ∃ g cap cur,v=.slice (some ⟨g,0,none⟩) xs.length cap∧H≤g∧w.heap[g]?=some (.cells cur 3 (0,0))∧xs.length≤cap∧cap≤maxLen∧cur.size=cap∧cur.toList.take xs.length=xs.map (Value.int .i64):=by
 rcases h.2 with ⟨h1,h2⟩ | ⟨g,cap,cur,h1,h2,h3,h4,h5,h6,h7⟩
 · exact Or.inl ⟨h1,List.eq_nil_of_length_eq_zero h2⟩
 · exact Or.inr ⟨g,cap,cur,h1,h2,h3,h4,h5,by simpa using h6,by simpa using h7⟩
theorem Own.block {w:World} {H:Nat} {v:Value} {xs:List Int} (h:Own w H v xs):∀ k,v.ownBlock=some k→H≤k∧k < w.heap.size:=World.ownsRow.lt h
theorem Own.lies {w:World} {H g n cap:Nat} {xs:List Int} (h:Own w H (.slice (some ⟨g,0,none⟩) n cap) xs):n=xs.length∧n≤cap∧H≤g∧∀ i,i < xs.length→w.cell? ⟨g,i,none⟩=some (.int .i64 (wordAt xs i)):=by
 rcases h.form with ⟨h1,h2⟩ | ⟨g',c',cur,h1,h2,h3,h4,h5,h6,h7⟩
 · cases h1
 ·
  simp only [Value.slice.injEq,Option.some.injEq,Addr.mk.injEq,and_true] at h1
  obtain ⟨rfl,rfl,rfl⟩:=h1
  refine ⟨rfl,h4,h2,fun i hi=>?_⟩
  have e:cur[i]?=some (.int .i64 (wordAt xs i)):=by
   have h8:(cur.toList.take xs.length)[i]?=some (.int .i64 (wordAt xs i)):=by
    rw [h7];simp [hi,wordAt]
   rw [List.getElem?_take_of_lt hi] at h8
   simpa using h8
  simp [World.cell?,h3,e]
theorem Own.same {w w':World} {H:Nat} {v:Value} {xs:List Int} (h:Own w H v xs) (hk:∀ k,v.ownBlock=some k→w'.heap[k]?=w.heap[k]?):Own w' H v xs:=by
 refine ⟨h.1,?_⟩
 rcases h.2 with hn | ⟨g,cap,cur,rfl,hb,hgg,rest⟩
 · exact .inl hn
 · exact .inr ⟨g,cap,cur,rfl,hb,by rw [hk g rfl];exact hgg,rest⟩
theorem Own.kept {w w':World} {H:Nat} {v:Value} {xs:List Int} (h:Own w H v xs) (k:Kept [] w w'):Own w' H v xs:=
 h.same fun x hx=>k.block x (h.block x hx).2 (by simp)
theorem Own.more {w':World} {H:Nat} {v:Value} {n:Nat} {xs ys:List Int} (hn:n=xs.length+ys.length) (h:w'.ownsRow H 3 1 v n (xs.map (Value.int .i64) ++ ys.map (Value.int .i64))):Own w' H v (xs ++ ys):=by
 subst hn
 unfold Own
 rw [List.length_append,List.map_append]
 exact h
theorem ints_oneCell (xs:List Int):∀ u∈xs.map (Value.int .i64),u.oneCell'=true:=by
 intro u hu
 simp only [List.mem_map] at hu
 obtain ⟨a,_,rfl⟩:=hu
 rfl
structure Grew (w w':World) (v v':Value):Prop where
 grown:w.grownBy w' v.ownBlock
 at_:∀ k,v'.ownBlock=some k→v.ownBlock=some k∨w.heap.size≤k
theorem append_row {w:World} {H:Nat} {v:Value} {xs:List Int} (h:Own w H v xs) (hH:H≤w.heap.size) (b o m c:Nat) (ys:List Int) (hm:m=ys.length) (hy:∀ i,i < ys.length→w.cell? ⟨b,o+i,none⟩=some (.int .i64 (wordAt ys i))) (hb:xs.length+m≤17592186044416) (ty:TypeId) :
  ∃ v' w',(Builtin.append_ #[25,25] ty #[v,.slice (some ⟨b,o,none⟩) m c]).run Tryz.prog w=.ok v' w'∧Own w' H v' (xs ++ ys)∧Grew w w' v v':=by
 subst hm
 obtain ⟨i0,hi,hz0,hz1,hz2⟩:=info_parts info3
 obtain ⟨v',w',hr,h2,h3,_,h5⟩:=run_append_own_at (P:=Tryz.prog) w H 25 ty 3 i0 (.int .i64 0) 1 8 Tryz.underlying25 hi hz0 hz1 hz2 rfl (by omega) v xs.length (xs.map (Value.int .i64)) h ⟨b,o,none⟩ ys.length c (ys.map (Value.int .i64)) (by simp)
  (fun j u hu=>by
   have hj:j < ys.length:=by
    rcases Nat.lt_or_ge j ys.length with h1 | h1
    · exact h1
    · rw [List.getElem?_eq_none (by simpa using h1)] at hu;cases hu
   rw [add_lit,hy j hj,← hu]
   simp [wordAt,hj])
  (ints_oneCell ys) (by unfold maxLen;omega) (by omega) hH
 refine ⟨v',w',hr,Own.more rfl h2,h3,fun k hk=>?_⟩
 rcases h5 with h5 | h5
 · exact Or.inl (h5 ▸ hk)
 ·
  right
  rw [h5] at hk
  simp at hk
  omega
theorem own_append {W0 w:World} {u:Value} {xs:List Int} (k:Kept [] W0 w) (h:Own w W0.heap.size u xs) (z:Int) (hn:xs.length+1≤17592186044416) (ty:TypeId) :
  ∃ u' w',(Builtin.append_ #[25,25] ty #[u,.slice (some ⟨w.heap.size,0,none⟩) 1 1]).run Tryz.prog (w.alloc (.cells #[.int .i64 z] 3))=.ok u' w'∧Kept [] W0 w'∧Own w' W0.heap.size u' (xs ++ [z]):=by
 have hka:Kept [] w (w.alloc (.cells #[.int .i64 z] 3)):=(Kept.refl [] w).alloc _
 obtain ⟨u',w',hr,h2,h3⟩:=append_row (h.kept hka) (Nat.le_trans k.size hka.size) w.heap.size 0 1 1 [z] rfl (fun i hi=>by
  have:i=0:=by simp at hi;exact hi
  subst this
  exact (cell_new w #[.int .i64 z] 3 0).trans rfl) hn ty
 exact ⟨u',w',hr,(k.trans hka (by simp)).grown h3.grown (fun g hg=>Or.inr (h.block g hg).1),h2⟩
def dirOf (L:List Ino) (z:Int):Bool:=match atR L z with
 | none=>false
 | some k=>(L[k]?.map Ino.dir).getD false
def entsOf (L:List Ino) (z:Int):List En:=match atR L z with
 | none=>[]
 | some k=>(L[k]?.map Ino.ents).getD []
def kidsE (L:List Ino) (E:List En):List Int:=(E.filter fun e=>dirOf L e.2).map Prod.snd
def kids (L:List Ino) (z:Int):List Int:=kidsE L (entsOf L z)
def bfs (L:List Ino):Nat→Nat→List Int→List Int
 | 0,_,F=>F
 | f+1,i,F=>match F[i]? with
  | none=>F
  | some z=>bfs L f (i+1) (F ++ kids L z)
def dirN (L:List Ino):Nat:=L.countP Ino.dir
def foundB (L:List Ino):Bool:=(bfs L (L.length+1) 0 [1]).length == dirN L
structure Tr (L:List Ino):Prop where
 row:adj ltI L=true
 pos:0 < L.length
 n0:(L[0]'pos).num=1
 d0:(L[0]'pos).dir=true
 ent:∀ k (hk:k < L.length),∀ e∈(L[k]).ents,e.2≠1∧(atR L e.2).isSome=true
 one:∀ k (hk:k < L.length),0 < k→(L[k]).dir=true→entN L (L[k]).num=1
theorem at_num {L:List Ino} (h:adj ltI L=true) {k:Nat} (hk:k < L.length):atR L (L[k]).num=some k:=
 at_some hk rfl fun j hj hjk=>by have:=adj_lt h j k hj hk hjk;omega
theorem sum_one {l:List Nat}:∀ {i:Nat} (hi:i < l.length),l[i]≤l.sum:=by
 induction l with
 | nil=>intro i hi;simp at hi
 | cons x l ih=>
  intro i hi
  cases i with
  | zero=>simp
  | succ i=>
   have:=ih (i:=i) (by simpa using hi)
   simp only [List.getElem_cons_succ,List.sum_cons]
   omega
theorem sum_two {l:List Nat}:∀ {i j:Nat} (hi:i < l.length) (hj:j < l.length),i < j→l[i]+l[j]≤l.sum:=by
 induction l with
 | nil=>intro i j hi;simp at hi
 | cons x l ih=>
  intro i j hi hj hij
  cases j with
  | zero=>omega
  | succ j=>
   cases i with
   | zero=>
    have:=sum_one (l:=l) (i:=j) (by simpa using hj)
    simp only [List.getElem_cons_zero,List.getElem_cons_succ,List.sum_cons]
    omega
   | succ i=>
    have:=ih (i:=i) (j:=j) (by simpa using hi) (by simpa using hj) (by omega)
    simp only [List.getElem_cons_succ,List.sum_cons]
    omega
theorem cnt_entN {L:List Ino} {k:Nat} (hk:k < L.length) (z:Int):cnt (L[k]).ents z≤entN L z:=by
 unfold entN
 have:=sum_one (l:=L.map fun x=>cnt x.ents z) (i:=k) (by simpa using hk)
 simpa using this
theorem cnt_entN2 {L:List Ino} {j k:Nat} (hj:j < L.length) (hk:k < L.length) (h:j≠k) (z:Int):cnt (L[j]).ents z+cnt (L[k]).ents z≤entN L z:=by
 unfold entN
 rcases Nat.lt_or_gt_of_ne h with h | h
 ·
  have:=sum_two (l:=L.map fun x=>cnt x.ents z) (i:=j) (j:=k) (by simpa using hj) (by simpa using hk) h
  simpa using this
 ·
  have:=sum_two (l:=L.map fun x=>cnt x.ents z) (i:=k) (j:=j) (by simpa using hk) (by simpa using hj) h
  simp only [List.getElem_map] at this
  omega
theorem cnt_pos {E:List En} {e:En} {z:Int} (h:e∈E) (he:e.2=z):1≤cnt E z:=by
 unfold cnt
 exact List.countP_pos_iff.2 ⟨e,h,by simpa using he⟩
theorem mem_kids {L:List Ino} {E:List En} {z:Int}:z∈kidsE L E↔∃ e∈E,e.2=z∧dirOf L z=true:=by
 unfold kidsE
 rw [List.mem_map]
 constructor
 ·
  rintro ⟨e,he,rfl⟩
  rw [List.mem_filter] at he
  exact ⟨e,he.1,rfl,he.2⟩
 ·
  rintro ⟨e,he,rfl,hd⟩
  exact ⟨e,List.mem_filter.2 ⟨he,hd⟩,rfl⟩
theorem count_kids {L:List Ino} {E:List En} {z:Int}:(kidsE L E).count z≤cnt E z:=by
 unfold kidsE cnt
 rw [List.count_eq_countP,List.countP_map]
 exact List.Sublist.countP_le (List.filter_sublist ..)
theorem dir_at {L:List Ino} {z:Int} (h:dirOf L z=true):∃ k,∃ hk:k < L.length,atR L z=some k∧(L[k]).num=z∧(L[k]).dir=true:=by
 unfold dirOf at h
 rcases ha:atR L z with _ | k
 · rw [ha] at h;cases h
 ·
  rw [ha] at h
  obtain ⟨hk,hz⟩:=at_get ha
  refine ⟨k,hk,rfl,hz,?_⟩
  simpa [hk] using h
theorem ents_at {L:List Ino} {z:Int} {k:Nat} (h:atR L z=some k) (hk:k < L.length):entsOf L z=(L[k]).ents:=by
 unfold entsOf
 rw [h]
 simp [hk]
structure Jf (L:List Ino) (n:Nat) (F:List Int):Prop where
 nd:F.Nodup
 dr:∀ z∈F,dirOf L z=true
 up:∀ z∈F,z=1∨∃ i y,i < n∧F[i]?=some y∧z∈kids L y
 le:n≤F.length
 hd:F[0]?=some 1
theorem Tr.root {L:List Ino} (h:Tr L):atR L 1=some 0∧dirOf L 1=true:=by
 have h1:=at_num h.row h.pos
 rw [h.n0] at h1
 refine ⟨h1,?_⟩
 unfold dirOf
 rw [h1]
 simp [h.pos,h.d0]
theorem Jf.start {L:List Ino} (h:Tr L):Jf L 0 [1]:=
 ⟨by simp,fun z hz=>by simp at hz;subst hz;exact h.root.2,fun z hz=>by simp at hz;exact Or.inl hz,by simp,rfl⟩
theorem Tr.single {L:List Ino} (h:Tr L) {z:Int} (hd:dirOf L z=true) (h1:z≠1):entN L z=1:=by
 obtain ⟨k,hk,ha,hz,hdir⟩:=dir_at hd
 have hk0:0 < k:=by
  rcases Nat.eq_zero_or_pos k with e | e
  · subst e;rw [h.n0] at hz;exact absurd hz.symm h1
  · exact e
 have:=h.one k hk hk0 hdir
 rw [hz] at this
 exact this
theorem kid_ne {L:List Ino} (h:Tr L) {y z:Int} (hz:z∈kids L y):z≠1∧dirOf L z=true∧∃ k,∃ hk:k < L.length,atR L y=some k∧1≤cnt (L[k]).ents z:=by
 unfold kids at hz
 obtain ⟨e,he,rfl,hd⟩:=mem_kids.1 hz
 rcases ha:atR L y with _ | k
 · unfold entsOf at he;rw [ha] at he;simp at he
 ·
  obtain ⟨hk,-⟩:=at_get ha
  rw [ents_at ha hk] at he
  exact ⟨(h.ent k hk e he).1,hd,k,hk,rfl,cnt_pos he rfl⟩
theorem Jf.step {L:List Ino} (h:Tr L) {n:Nat} {F:List Int} (j:Jf L n F) {y:Int} (hy:F[n]?=some y):Jf L (n+1) (F ++ kids L y):=by
 have hn:n < F.length:=by
  rcases Nat.lt_or_ge n F.length with h | h
  · exact h
  · rw [List.getElem?_eq_none h] at hy;cases hy
 refine ⟨?_,?_,?_,?_,?_⟩
 ·
  rw [List.nodup_append]
  refine ⟨j.nd,?_,?_⟩
  ·
   rw [List.nodup_iff_count]
   intro a
   rcases Nat.eq_zero_or_pos ((kids L y).count a) with e | e
   · omega
   ·
    have ha:a∈kids L y:=List.count_pos_iff.1 e
    obtain ⟨h1,h2,k,hk,h3,h4⟩:=kid_ne h ha
    have h5:=h.single h2 h1
    have h6:=cnt_entN hk a
    have h7:(kids L y).count a≤cnt (L[k]).ents a:=by
     unfold kids
     rw [ents_at h3 hk]
     exact count_kids
    omega
  ·
   rintro a ha b hb rfl
   obtain ⟨h1,h2,k,hk,h3,h4⟩:=kid_ne h hb
   rcases j.up a ha with e | ⟨i,y',hi,hyi,hay⟩
   · exact h1 e
   ·
    obtain ⟨-,-,k',hk',h3',h4'⟩:=kid_ne h hay
    have h5:=h.single h2 h1
    by_cases e:k'=k
    ·
     subst e
     obtain ⟨_,e1⟩:=at_get h3
     obtain ⟨_,e2⟩:=at_get h3'
     have e3:y=y':=e1.symm.trans e2
     subst e3
     have hil:i < F.length:=by omega
     rw [List.getElem?_eq_getElem hil] at hyi
     rw [List.getElem?_eq_getElem hn] at hy
     have:=(List.getElem_inj (h₀:=hil) (h₁:=hn) j.nd).1 ((Option.some.inj hyi).trans (Option.some.inj hy).symm)
     omega
    ·
     have:=cnt_entN2 hk' hk e a
     omega
 ·
  intro z hz
  rcases List.mem_append.1 hz with hz | hz
  · exact j.dr z hz
  · exact (kid_ne h hz).2.1
 ·
  intro z hz
  rcases List.mem_append.1 hz with hz | hz
  ·
   rcases j.up z hz with e | ⟨i,y',hi,hyi,hay⟩
   · exact Or.inl e
   · exact Or.inr ⟨i,y',by omega,by rw [List.getElem?_append_left (by omega)];exact hyi,hay⟩
  · exact Or.inr ⟨n,y,by omega,by rw [List.getElem?_append_left hn];exact hy,hz⟩
 · rw [List.length_append];omega
 · rw [List.getElem?_append_left (by omega)];exact j.hd
theorem Jf.few {L:List Ino} {n:Nat} {F:List Int} (j:Jf L n F):F.length≤L.length:=by
 have:F.length≤(L.map Ino.num).length:=List.Nodup.length_le_of_subset j.nd fun z hz=>by
  obtain ⟨k,hk,-,e,-⟩:=dir_at (j.dr z hz)
  rw [← e]
  exact List.mem_map.2 ⟨_,List.getElem_mem hk,rfl⟩
 simpa using this
theorem bfs_on {L:List Ino} {f i:Nat} {F:List Int} {z:Int} (h:F[i]?=some z):bfs L (f+1) i F=bfs L f (i+1) (F ++ kids L z):=by rw [bfs,h]
theorem bfs_end {L:List Ino} {f i:Nat} {F:List Int} (h:F.length≤i):bfs L (f+1) i F=F:=by rw [bfs,List.getElem?_eq_none h]
theorem kidsE_take {L:List Ino} {E:List En} {n:Nat} (h:n < E.length):kidsE L (E.take (n+1))=kidsE L (E.take n) ++ if dirOf L (E[n]).2 then [(E[n]).2] else []:=by
 unfold kidsE
 rw [List.take_succ_eq_append_getElem h,List.filter_append,List.map_append]
 congr 1
 by_cases e:dirOf L (E[n]).2=true
 · simp [e]
 · simp [e]
theorem dirN_take {L:List Ino} {n:Nat} (h:n < L.length):dirN (L.take (n+1))=dirN (L.take n)+if (L[n]).dir then 1 else 0:=by
 unfold dirN
 rw [List.take_succ_eq_append_getElem h,List.countP_append]
 congr 1
 by_cases e:(L[n]).dir=true <;> simp [e]
theorem dirN_le (L:List Ino):dirN L≤L.length:=List.countP_le_length
end Go.Proofs.YtffncojcnbhblaaGreatDoor
