/-
  Joined of my texts Oc An.
-/
import Derived.Test.YtffncojcnbhblaaGreatDoorJb14
set_option linter.unusedVariables false
set_option linter.unusedSimpArgs false
set_option maxRecDepth 100000
set_option maxHeartbeats 8000000
namespace Go.Proofs.YtffncojcnbhblaaGreatDoor
open Go.RowKit
theorem Os.setMade {w:World} {H:Nat} {v1 v2 v3:Value} {ev:List Value} {S:Sta} (h:Os w H v1 v2 v3 ev S) {i:Nat} {g c3:Nat} (hv3:v3=.slice (some ⟨g,0,none⟩) S.made.length c3) (x:Int) :
  Os (w.setCell ⟨g,i,none⟩ (.int .i64 x)) H v1 v2 v3 ev ⟨S.ino,S.opn,S.made.set i x⟩:=by
 have hg:v3.ownBlock=some g:=by rw [hv3];rfl
 have sB:Kept [g] w (w.setCell ⟨g,i,none⟩ (.int .i64 x)):=kept_set
 have no:∀ {u:Value},Ap u v3→∀ y∈[g],u.ownBlock≠some y:=fun hu y hy e=>by
  rw [List.mem_singleton] at hy
  subst hy
  exact hu y e hg
 refine ⟨row_keep h.ino sB (no h.a13),h.evl,fun j hj hv=>row_keep (h.ent j hj hv) sB (no (h.ae _ (List.getElem_mem hv)).2.2.symm),row_keep h.opn sB (no h.a23),?_,h.a12,h.a13,h.a23,h.ae,h.aee⟩
 have:=h.mad
 subst hv3
 have r:=(this.stored i (.int .i64 x)).1
 rw [← List.map_set] at r
 simpa using r
theorem Cb.setMade {w0 w:World} {B:Nat} {c:Cal} {pk v1 v2 v3:Value} {ev:List Value} {S:Sta} (h:Cb w0 w B c pk v1 v2 v3 ev S) {i g c3:Nat} (hv3:v3=.slice (some ⟨g,0,none⟩) S.made.length c3) (x:Int) :
  Cb w0 (w.setCell ⟨g,i,none⟩ (.int .i64 x)) B c pk v1 v2 v3 ev ⟨S.ino,S.opn,S.made.set i x⟩:=by
 have hg:v3.ownBlock=some g:=by rw [hv3];rfl
 have hBg:B≠g:=fun e=>(h.off B (by simp)).2.2.1 (by rw [hg,e])
 refine ⟨h.k.setCell (Or.inr (h.os.mad.lt g hg).1) _,by rw [block_other hBg];exact h.box,h.os.setMade hv3 x,h.off,h.lo,h.tab,⟨h.bd.n1,h.bd.n2,by simpa using h.bd.n3,h.bd.n4,h.bd.w1,h.bd.d1,h.bd.e1⟩⟩
theorem ins_get {α:Type} (L:List α) (q:Nat) (hq:q≤L.length) (x:α) (i:Nat):(L.take q ++ x :: L.drop q)[i]?=if i < q then L[i]? else if i=q then some x else L[i - 1]?:=by
 have hl:(L.take q).length=q:=by rw [List.length_take];omega
 by_cases h1:i < q
 · rw [if_pos h1,List.getElem?_append_left (by omega),List.getElem?_take_of_lt h1]
 ·
  rw [if_neg h1,List.getElem?_append_right (by omega),hl]
  by_cases h2:i=q
  · rw [if_pos h2,h2,Nat.sub_self,List.getElem?_cons_zero]
  ·
   rw [if_neg h2]
   obtain ⟨j,hj⟩:∃ j,i - q=j+1:=⟨i - q - 1,by omega⟩
   rw [hj,List.getElem?_cons_succ,List.getElem?_drop]
   congr 1
   omega
theorem Os.putIno {w w':World} {H:Nat} {v1 v2 v3:Value} {ev:List Value} {S:Sta} (h:Os w H v1 v2 v3 ev S) {x:Ino} (hx:x.ents=[]) {v1':Value}
  (r:w'.ownsRow H 62 4 v1' (S.ino.length+1) (inoC (insR ltI S.ino x) (ev.take (whereR ltI S.ino x) ++ .slice none 0 0 :: ev.drop (whereR ltI S.ino x))))
  (kk:Kept v1.ownBlock.toList w w') (hb:∀ b,v1'.ownBlock=some b→v1.ownBlock=some b∨w.heap.size≤b) :
  Os w' H v1' v2 v3 (ev.take (whereR ltI S.ino x) ++ .slice none 0 0 :: ev.drop (whereR ltI S.ino x)) ⟨insR ltI S.ino x,S.opn,S.made⟩:=by
 obtain ⟨q,hq⟩:∃ q,whereR ltI S.ino x=q:=⟨_,rfl⟩
 have hql:q≤S.ino.length:=by rw [← hq];exact where_le
 have hqe:q≤ev.length:=by rw [h.evl];exact hql
 have hI:insR ltI S.ino x=S.ino.take q ++ x :: S.ino.drop q:=by unfold insR;rw [hq]
 rw [hq] at r ⊢
 have no:∀ {u:Value},Ap v1 u→∀ y∈v1.ownBlock.toList,u.ownBlock≠some y:=fun hu y hy e=>by
  rw [Option.mem_toList] at hy
  exact hu y hy e
 have newAp:∀ {u:Value},Ap v1 u→(∀ b,u.ownBlock=some b→b < w.heap.size)→Ap v1' u:=fun hu hl b hb1 hb2=>by
  rcases hb b hb1 with h1 | h1
  · exact hu b h1 hb2
  · have:=hl b hb2;omega
 have nilAp:∀ (u:Value),Ap u (.slice none 0 0):=fun u b _ e=>by cases e
 have lte:∀ u∈ev,∀ b,u.ownBlock=some b→b < w.heap.size:=fun u hu b hb=>by
  obtain ⟨j,hj,rfl⟩:=List.getElem_of_mem hu
  exact ((h.ent j (by rw [← h.evl];exact hj) hj).lt b hb).2
 have mem:∀ u∈ev.take q ++ .slice none 0 0 :: ev.drop q,u∈ev∨u=.slice none 0 0:=fun u hu=>by
  simp only [List.mem_append,List.mem_cons] at hu
  rcases hu with h1 | h1 | h1
  · exact Or.inl (List.mem_of_mem_take h1)
  · exact Or.inr h1
  · exact Or.inl (List.mem_of_mem_drop h1)
 refine ⟨by rw [insR_length];exact r,?_,?_,row_keep h.opn kk (no h.a12),row_keep h.mad kk (no h.a13),newAp h.a12 fun b hb=>(h.opn.lt b hb).2,newAp h.a13 fun b hb=>(h.mad.lt b hb).2,h.a23,?_,?_⟩
 ·
  rw [insR_length,List.length_append,List.length_cons,List.length_take,List.length_drop,← h.evl]
  omega
 ·
  intro i hi hv
  have g1:=ins_get S.ino q hql x i
  have g2:=ins_get ev q hqe (.slice none 0 0) i
  rw [← hI] at g1
  rw [List.getElem?_eq_getElem hi] at g1
  rw [List.getElem?_eq_getElem hv] at g2
  have old:∀ j,some (insR ltI S.ino x)[i]=S.ino[j]?→some (ev.take q ++ .slice none 0 0 :: ev.drop q)[i]=ev[j]?→w'.ownsRow H 64 2 (ev.take q ++ .slice none 0 0 :: ev.drop q)[i] ((insR ltI S.ino x)[i]).ents.length (flat ((insR ltI S.ino x)[i]).ents):=fun j e1 e2=>by
   obtain ⟨hj1,e1⟩:=List.getElem?_eq_some_iff.1 e1.symm
   obtain ⟨hj2,e2⟩:=List.getElem?_eq_some_iff.1 e2.symm
   rw [← e1,← e2]
   exact row_keep (h.ent j hj1 hj2) kk (no (h.ae _ (List.getElem_mem hj2)).1)
  by_cases c1:i < q
  ·
   rw [if_pos c1] at g1 g2
   exact old i g1 g2
  ·
   rw [if_neg c1] at g1 g2
   by_cases c2:i=q
   ·
    rw [if_pos c2] at g1 g2
    rw [Option.some.inj g1,Option.some.inj g2,hx]
    exact ⟨rfl,Or.inl ⟨rfl,rfl⟩⟩
   ·
    rw [if_neg c2] at g1 g2
    exact old (i - 1) g1 g2
 ·
  intro v hv
  rcases mem v hv with h1 | rfl
  · exact ⟨newAp (h.ae v h1).1 (lte v h1),(h.ae v h1).2.1,(h.ae v h1).2.2⟩
  · exact ⟨nilAp _,nilAp _,nilAp _⟩
 ·
  have h1:=h.aee
  rw [← List.take_append_drop q ev,List.pairwise_append] at h1
  refine List.pairwise_append.2 ⟨h1.1,List.pairwise_cons.2 ⟨fun u _=>(nilAp u).symm,h1.2.1⟩,fun a ha b hb=>?_⟩
  rcases List.mem_cons.1 hb with rfl | hb
  · exact nilAp a
  · exact h1.2.2 a ha b hb
theorem Bd.putIno {S:Sta} (h:Bd S) (hn:S.ino.length < 2513169434843) {x:Ino} (hx:x.ents=[]) (hd:x.data=⟨#[]⟩) (hnum:x.num≤9223372036854775807):Bd ⟨insR ltI S.ino x,S.opn,S.made⟩:=by
 have mem:∀ y∈insR ltI S.ino x,y∈S.ino∨y=x:=fun y hy=>by
  unfold insR at hy
  simp only [List.mem_append,List.mem_cons] at hy
  rcases hy with h1 | h1 | h1
  · exact Or.inl (List.mem_of_mem_take h1)
  · exact Or.inr h1
  · exact Or.inl (List.mem_of_mem_drop h1)
 refine ⟨?_,h.n2,h.n3,fun y hy=>?_,fun y hy=>?_,fun y hy=>?_,fun y hy=>?_⟩
 ·
  show (insR ltI S.ino x).length≤_
  rw [insR_length];omega
 ·
  rcases mem y hy with h1 | rfl
  · exact h.n4 y h1
  · rw [hx];exact Nat.zero_le _
 ·
  rcases mem y hy with h1 | rfl
  · exact h.w1 y h1
  · exact hnum
 ·
  rcases mem y hy with h1 | rfl
  · exact h.d1 y h1
  · rw [hd];exact Nat.zero_le _
 ·
  rcases mem y hy with h1 | rfl
  · exact h.e1 y h1
  · rw [hx];intro e he;cases he
theorem Cb.putIno {w0 w w':World} {B:Nat} {c:Cal} {pk v1 v2 v3:Value} {ev:List Value} {S:Sta} (h:Cb w0 w B c pk v1 v2 v3 ev S) {x:Ino} (hx:x.ents=[]) {v1':Value}
  (r:w'.ownsRow w0.heap.size 62 4 v1' (S.ino.length+1) (inoC (insR ltI S.ino x) (ev.take (whereR ltI S.ino x) ++ .slice none 0 0 :: ev.drop (whereR ltI S.ino x))))
  (kk:Kept v1.ownBlock.toList w w') (hb:∀ b,v1'.ownBlock=some b→v1.ownBlock=some b∨w.heap.size≤b) (hbd:Bd ⟨insR ltI S.ino x,S.opn,S.made⟩) :
  Cb w0 (w'.setCell ⟨B,8,none⟩ v1') B c pk v1' v2 v3 (ev.take (whereR ltI S.ino x) ++ .slice none 0 0 :: ev.drop (whereR ltI S.ino x)) ⟨insR ltI S.ino x,S.opn,S.made⟩:=by
 have hB:=h.off B (by simp)
 have hBl:=lt_of_heap h.box
 have hBk:B ∉ v1.ownBlock.toList:=fun hm=>by
  rw [Option.mem_toList] at hm
  exact hB.1 hm
 have hoff:Off [B] v1' v2 v3 (ev.take (whereR ltI S.ino x) ++ .slice none 0 0 :: ev.drop (whereR ltI S.ino x)):=off_of ⟨fun e=>by
  rcases hb B e with h1 | h1
  · exact hB.1 h1
  · omega,hB.2.1,hB.2.2.1,fun v hv=>by
  simp only [List.mem_append,List.mem_cons] at hv
  rcases hv with h1 | rfl | h1
  · exact hB.2.2.2 v (List.mem_of_mem_take h1)
  · intro e;cases e
  · exact hB.2.2.2 v (List.mem_of_mem_drop h1)⟩
 have kF:Kept [] w0 w':=h.k.trans kk (fun y hy=>by
  rw [Option.mem_toList] at hy
  exact Or.inr (h.os.ino.lt y hy).1)
 have hbox:w'.heap[B]?=some (.cells (callC c v1 v2 v3 pk) 76 (0,0)):=(kk.block B hBl hBk).trans h.box
 refine ⟨kF.setCell (Or.inr h.lo) _,?_,(h.os.putIno hx r kk hb).keep kept_set hoff,hoff,h.lo,h.tab,hbd⟩
 rw [block_set hbox]
 rfl
theorem Cb.new {w0 w:World} {B:Nat} {c:Cal} {pk v1 v2 v3:Value} {ev:List Value} {S:Sta} (h:Cb w0 w B c pk v1 v2 v3 ev S) {Z:Nat} (hZ:w.heap.size≤Z):Off [Z] v1 v2 v3 ev∧Z≠B:=by
 refine ⟨off_of ⟨fun e=>?_,fun e=>?_,fun e=>?_,fun v hv e=>?_⟩,fun e=>?_⟩
 · have:=(h.os.ino.lt Z e).2;omega
 · have:=(h.os.opn.lt Z e).2;omega
 · have:=(h.os.mad.lt Z e).2;omega
 ·
  obtain ⟨j,hj,rfl⟩:=List.getElem_of_mem hv
  have:=((h.os.ent j (by rw [← h.os.evl];exact hj) hj).lt Z e).2
  omega
 · have:=lt_of_heap h.box;omega
theorem Cb.beside {w0 w:World} {B:Nat} {c:Cal} {pk v1 v2 v3:Value} {ev:List Value} {S:Sta} (h:Cb w0 w B c pk v1 v2 v3 ev S) {Z i:Nat} (hZ:w0.heap.size≤Z) (ho:Off [Z] v1 v2 v3 ev) (hB:Z≠B) (v:Value):Cb w0 (w.setCell ⟨Z,i,none⟩ v) B c pk v1 v2 v3 ev S:=
 ⟨h.k.setCell (Or.inr hZ) _,by rw [block_other (Ne.symm hB)];exact h.box,h.os.keep kept_set ho,h.off,h.lo,h.tab,h.bd⟩
theorem beside_putIno {w w':World} {v1 v1' v2 v3:Value} {ev:List Value} {q B:Nat} (kk:Kept v1.ownBlock.toList w w') (hb:∀ b,v1'.ownBlock=some b→v1.ownBlock=some b∨w.heap.size≤b) (v:Value) {Z:Nat} (hZ:Z < w.heap.size) (hoff:Off [Z] v1 v2 v3 ev) (hB:Z≠B):(w'.setCell ⟨B,8,none⟩ v).heap[Z]?=w.heap[Z]?∧Off [Z] v1' v2 v3 (ev.take q ++ .slice none 0 0 :: ev.drop q):=by
 have ho:=hoff Z (by simp)
 have hm:Z ∉ v1.ownBlock.toList:=fun hm=>by
  rw [Option.mem_toList] at hm
  exact ho.1 hm
 refine ⟨by rw [block_other hB,kk.block Z hZ hm],off_of ⟨fun e=>?_,ho.2.1,ho.2.2.1,fun u hu=>?_⟩⟩
 ·
  rcases hb Z e with h1 | h1
  · exact ho.1 h1
  · omega
 ·
  simp only [List.mem_append,List.mem_cons] at hu
  rcases hu with h1 | rfl | h1
  · exact ho.2.2.2 u (List.mem_of_mem_take h1)
  · intro e;cases e
  · exact ho.2.2.2 u (List.mem_of_mem_drop h1)
def FrB (B:Nat) (w w':World) (v1 v2 v3:Value) (ev:List Value) (u1 u2 u3:Value) (eu:List Value):Prop:=w.heap.size≤w'.heap.size∧∀ Z,Z < w.heap.size→Z≠B→Off [Z] v1 v2 v3 ev→w'.heap[Z]?=w.heap[Z]?∧Off [Z] u1 u2 u3 eu
theorem FrB.kept {B:Nat} {w w':World} {v1 v2 v3:Value} {ev:List Value} (k:Kept [] w w'):FrB B w w' v1 v2 v3 ev v1 v2 v3 ev:=⟨k.size,fun Z hZ _ ho=>⟨k.block Z hZ (by simp),ho⟩⟩
theorem Frm.frb {B:Nat} {w w':World} {v1 v2 v3 u1 u2 u3:Value} {ev eu:List Value} (h:Frm w w' v1 v2 v3 ev u1 u2 u3 eu):FrB B w w' v1 v2 v3 ev u1 u2 u3 eu:=⟨h.1,fun Z hZ _ ho=>h.2 Z hZ ho⟩
theorem FrB.trans {B:Nat} {w w' w'':World} {v1 v2 v3 u1 u2 u3 t1 t2 t3:Value} {ev eu et:List Value} (h:FrB B w w' v1 v2 v3 ev u1 u2 u3 eu) (h':FrB B w' w'' u1 u2 u3 eu t1 t2 t3 et):FrB B w w'' v1 v2 v3 ev t1 t2 t3 et:=
 ⟨Nat.le_trans h.1 h'.1,fun Z hZ hB ho=>by
  obtain ⟨e1,o1⟩:=h.2 Z hZ hB ho
  obtain ⟨e2,o2⟩:=h'.2 Z (Nat.lt_of_lt_of_le hZ h.1) hB o1
  exact ⟨e2.trans e1,o2⟩⟩
theorem FrB.made {B:Nat} {w:World} {v1 v2 v3:Value} {ev:List Value} {g i n c:Nat} (hv:v3=.slice (some ⟨g,0,none⟩) n c) (v:Value):FrB B w (w.setCell ⟨g,i,none⟩ v) v1 v2 v3 ev v1 v2 v3 ev:=
 ⟨(kept_set (w:=w) (B:=g) (i:=i) (v:=v)).size,fun Z hZ _ ho=>⟨block_other (fun e=>(ho Z (by simp)).2.2.1 (by rw [hv,e];rfl)),ho⟩⟩
theorem FrB.putIno {w w':World} {v1 v1' v2 v3:Value} {ev:List Value} {q B:Nat} (kk:Kept v1.ownBlock.toList w w') (hb:∀ b,v1'.ownBlock=some b→v1.ownBlock=some b∨w.heap.size≤b) (v:Value):FrB B w (w'.setCell ⟨B,8,none⟩ v) v1 v2 v3 ev v1' v2 v3 (ev.take q ++ .slice none 0 0 :: ev.drop q):=
 ⟨Nat.le_trans kk.size (kept_set (w:=w') (B:=B) (i:=8) (v:=v)).size,fun Z hZ hB ho=>beside_putIno kk hb v hZ ho hB⟩
theorem FrB.since {B:Nat} {w w':World} {v1 v2 v3 u1 u2 u3:Value} {ev eu:List Value} (h:FrB B w w' v1 v2 v3 ev u1 u2 u3 eu) {R i:Nat} (hR:w.heap.size≤R) (v:Value):FrB B w (w'.setCell ⟨R,i,none⟩ v) v1 v2 v3 ev u1 u2 u3 eu:=
 ⟨Nat.le_trans h.1 (kept_set (w:=w') (B:=R) (i:=i) (v:=v)).size,fun Z hZ hB ho=>by
  obtain ⟨e1,o1⟩:=h.2 Z hZ hB ho
  exact ⟨by rw [block_other (by omega)];exact e1,o1⟩⟩
theorem row_ents {w:World} {H:Nat} {v:Value} {E:List En} (h:w.ownsRow H 64 2 v E.length (flat E)):∃ aE cE,v=.slice aE E.length cE∧EntA w aE E∧E.length≤cE∧∀ y,aE=some y→∃ b o,y=⟨b,o,none⟩:=by
 obtain ⟨ae,ce,ee,le,fe,re⟩:=row_form h
 refine ⟨ae,ce,ee,fun j hj=>?_,le,fun x hx=>by obtain ⟨g,e,-⟩:=fe x hx;exact ⟨g,0,e⟩⟩
 obtain ⟨f0,f1⟩:=flat_get E j _ (List.getElem?_eq_getElem hj)
 obtain ⟨ge,hge,t0⟩:=re _ _ f0
 obtain ⟨ge',hge',t1⟩:=re _ _ f1
 rw [hge] at hge'
 simp only [Option.some.injEq,Addr.mk.injEq,and_true] at hge'
 subst hge'
 exact ⟨ge,0,hge,by rw [Nat.zero_add];exact t0,by rw [Nat.zero_add];exact t1⟩
theorem at_ins {L:List Ino} {x:Ino} {d:Int} {k:Nat} (h:atR L d=some k) (hx:x.num≠d) (hk:k < L.length):∃ j,atR (insR ltI L x) d=some j∧∃ hj:j < (insR ltI L x).length,(insR ltI L x)[j]=L[k]:=by
 have hql:whereR ltI L x≤L.length:=where_le
 obtain ⟨q,hq⟩:∃ q,whereR ltI L x=q:=⟨_,rfl⟩
 rw [hq] at hql
 have hI:insR ltI L x=L.take q ++ x :: L.drop q:=by unfold insR;rw [hq]
 unfold atR at h ⊢
 rw [List.findIdx?_eq_some_iff_getElem] at h
 obtain ⟨hk',h1,h2⟩:=h
 have get:∀ i (hi:i < (insR ltI L x).length),some (insR ltI L x)[i]=if i < q then L[i]? else if i=q then some x else L[i - 1]?:=fun i hi=>by
  rw [← ins_get L q hql x i,← hI,List.getElem?_eq_getElem hi]
 have hlen:(insR ltI L x).length=L.length+1:=insR_length
 have fin:∀ j,(j < q→j=k)→(¬ j < q→j=k+1)→(j < q∨q≤k)→∃ j',(insR ltI L x).findIdx? (fun x=>x.num == d)=some j'∧∃ hj:j' < (insR ltI L x).length,(insR ltI L x)[j']=L[k]:=fun j c1 c2 c3=>by
  have hj:j < (insR ltI L x).length:=by
   rw [hlen]
   by_cases c:j < q
   · have:=c1 c;omega
   · have:=c2 c;omega
  have ej:(insR ltI L x)[j]=L[k]:=by
   have g:=get j hj
   by_cases c:j < q
   ·
    have c4:=c1 c
    subst c4
    rw [if_pos c,List.getElem?_eq_getElem hk] at g
    exact Option.some.inj g
   ·
    have c4:=c2 c
    subst c4
    rw [if_neg c,if_neg (by omega),Nat.add_sub_cancel,List.getElem?_eq_getElem hk] at g
    exact Option.some.inj g
  refine ⟨j,?_,hj,ej⟩
  rw [List.findIdx?_eq_some_iff_getElem]
  refine ⟨hj,by rw [ej];exact h1,fun i hij=>?_⟩
  have hi:i < (insR ltI L x).length:=by omega
  have g:=get i hi
  by_cases c:i < q
  ·
   have hik:i < k:=by
    by_cases c':j < q
    · have:=c1 c';omega
    · have:=c2 c';omega
   rw [if_pos c,List.getElem?_eq_getElem (by omega)] at g
   rw [Option.some.inj g]
   exact h2 i hik
  ·
   rw [if_neg c] at g
   have hjq:¬ j < q:=by omega
   have:=c2 hjq
   by_cases c':i=q
   ·
    rw [if_pos c'] at g
    rw [Option.some.inj g]
    simpa using hx
   ·
    rw [if_neg c',List.getElem?_eq_getElem (by omega)] at g
    rw [Option.some.inj g]
    exact h2 (i - 1) (by omega)
 by_cases c:k < q
 · exact fin k (fun _=>rfl) (fun h=>absurd c h) (Or.inl c)
 · exact fin (k+1) (fun h=>by omega) (fun _=>rfl) (Or.inr (by omega))
def putS (S:Sta) (d:Int) (e:En):Sta:=match atR S.ino d with
 | none=>S
 | some k=>if hk:k < S.ino.length then setE S k hk (insR ltE (S.ino[k]).ents e) else S
theorem putS_at {S:Sta} {d:Int} {e:En} {k:Nat} (h:atR S.ino d=some k) (hk:k < S.ino.length):putS S d e=setE S k hk (insR ltE (S.ino[k]).ents e):=by
 unfold putS
 rw [h]
 simp only [hk,dite_true]
structure Ans where
 code:Int
 fd:Int
 num:Int
 dir:Bool
 data:ByteArray
 names:List ByteArray
@[reducible] def ansV (a:Ans) (nv:Value):Value:=.agg #[.int .i64 a.code,.int .i64 a.fd,.int .i64 a.num,.bool a.dir,.string a.data,nv]
@[reducible] def ansC (code:Int):Ans:=⟨code,0,0,false,⟨#[]⟩,[]⟩
def Oks (w0 w:World) (B:Nat) (c:Cal) (pk:Value) (v1 v2 v3:Value) (ev:List Value) (x:Sta × Ans) (e:Ending) (w':World):Prop:=
 ∃ (z:Option Addr) (l k:Nat) (u1 u2 u3:Value) (eu:List Value),e=.returned (ansV x.2 (.slice z l k))∧Sr w' w.heap.size (.slice z l k) x.2.names∧(∀ b,(Value.slice z l k).ownBlock=some b→Off [b] u1 u2 u3 eu)∧Cb w0 w' B c pk u1 u2 u3 eu x.1∧FrB B w w' v1 v2 v3 ev u1 u2 u3 eu
def Out (w0 w:World) (B:Nat) (c:Cal) (pk:Value) (v1 v2 v3:Value) (ev:List Value) (S:Sta) (r:Except Int (Sta × Ans)) (e:Ending) (w':World):Prop:=match r with
 | .error code=>e=thr code∧∃ u1 u2 u3 eu,Cb w0 w' B c pk u1 u2 u3 eu S∧FrB B w w' v1 v2 v3 ev u1 u2 u3 eu
 | .ok x=>Oks w0 w B c pk v1 v2 v3 ev x e w'
theorem Out.err {w0 w:World} {B:Nat} {c:Cal} {pk v1 v2 v3 u1 u2 u3:Value} {ev eu:List Value} {S:Sta} {r:Except Int (Sta × Ans)} {w':World} {code:Int} (h:r=.error code) (k:Cb w0 w' B c pk u1 u2 u3 eu S) (f:FrB B w w' v1 v2 v3 ev u1 u2 u3 eu):Out w0 w B c pk v1 v2 v3 ev S r (thr code) w':=by rw [h];exact ⟨rfl,_,_,_,_,k,f⟩
theorem Out.val {w0 w:World} {B:Nat} {c:Cal} {pk v1 v2 v3 u1 u2 u3:Value} {ev eu:List Value} {S S':Sta} {r:Except Int (Sta × Ans)} {w':World} {a:Ans} {v:Value} (h:r=.ok (S',a)) (hn:a.names=[]) (hv:v=ansV a (.slice none 0 0)) (k:Cb w0 w' B c pk u1 u2 u3 eu S') (f:FrB B w w' v1 v2 v3 ev u1 u2 u3 eu):Out w0 w B c pk v1 v2 v3 ev S r (.returned v) w':=by
 rw [h,hv]
 exact ⟨none,0,0,_,_,_,_,rfl,by rw [hn];exact Sr.nil _ _,(fun b e=>by cases e),k,f⟩
theorem boxR (w:World) (cs:Array Value) (t:TypeId):∃ W X,Hid (w.alloc (.cells cs t (0,0))=W∧w.heap.size=X)∧Hid (Kept [] w W)∧Hid (W.heap[X]?=some (.cells cs t (0,0))):=
 ⟨_,_,⟨rfl,rfl⟩,(Kept.refl [] w).alloc _,Go.heap_alloc_new _ _⟩
@[reducible] def laidR (w:World) (R:Nat) (a b c d e f:Value):World:=(((((w.setCell ⟨R,0,none⟩ a).setCell ⟨R,1,none⟩ b).setCell ⟨R,2,none⟩ c).setCell ⟨R,3,none⟩ d).setCell ⟨R,4,none⟩ e).setCell ⟨R,5,none⟩ f
theorem block_res {w:World} {R:Nat} {T:TypeId} {c0 c1 c2 c3 c4 c5:Value} (h:w.heap[R]?=some (.cells #[c0,c1,c2,c3,c4,c5] T (0,0))) (a b c d e f:Value):(laidR w R a b c d e f).heap[R]?=some (.cells #[a,b,c,d,e,f] T (0,0)):=by
 unfold laidR
 rw [block_set (block_set (block_set (block_set (block_set (block_set h 0 _) 1 _) 2 _) 3 _) 4 _) 5 _]
 rfl
theorem Cb.res {w0 w:World} {B:Nat} {cl:Cal} {pk v1 v2 v3:Value} {ev:List Value} {S:Sta} (h:Cb w0 w B cl pk v1 v2 v3 ev S) {R:Nat} (hR:w0.heap.size≤R) (ho:Off [R] v1 v2 v3 ev) (hB:R≠B) (a b c d e f:Value):Cb w0 (laidR w R a b c d e f) B cl pk v1 v2 v3 ev S:=
 (((((h.beside hR ho hB a).beside hR ho hB b).beside hR ho hB c).beside hR ho hB d).beside hR ho hB e).beside hR ho hB f
theorem FrB.res {B:Nat} {w w':World} {v1 v2 v3 u1 u2 u3:Value} {ev eu:List Value} (h:FrB B w w' v1 v2 v3 ev u1 u2 u3 eu) {R:Nat} (hR:w.heap.size≤R) (a b c d e f:Value):FrB B w (laidR w' R a b c d e f) v1 v2 v3 ev u1 u2 u3 eu:=
 (((((h.since hR a).since hR b).since hR c).since hR d).since hR e).since hR f
theorem heap_drew9 {w:World}:w.drew.heap=w.heap:=rfl
theorem block_resd {w:World} {R:Nat} {T:TypeId} {c0 c1 c2 c3 c4 c5:Value} (h:w.heap[R]?=some (.cells #[c0,c1,c2,c3,c4,c5] T (0,0))) (a b c d e f:Value):(laidR w R a b c d e f).drew.heap[R]?=some (.cells #[a,b,c,d,e,f] T (0,0)):=by
 rw [heap_drew9]
 exact block_res h a b c d e f
theorem res_other {w:World} {R Z:Nat} {a b c d e f:Value} (h:Z≠R):(laidR w R a b c d e f).heap[Z]?=w.heap[Z]?:=by
 unfold laidR
 rw [block_other h,block_other h,block_other h,block_other h,block_other h,block_other h]
theorem Oks.laid {w0 w w5 w6:World} {B:Nat} {c:Cal} {pk v1 v2 v3 u1 u2 u3:Value} {ev eu:List Value} {S':Sta} {A:Ans} {z:Option Addr} {l k:Nat} (hk:Kept [] w w5) {R:Nat} (hRl:w0.heap.size≤R) (hRw:w.heap.size≤R) (hR5:R < w5.heap.size) (hRo:Off [R] v1 v2 v3 ev∧R≠B)
  (hsr:Sr w6 w5.heap.size (.slice z l k) A.names) (hof:∀ b,(Value.slice z l k).ownBlock=some b→Off [b] u1 u2 u3 eu) (hcb:Cb w0 w6 B c pk u1 u2 u3 eu S') (hfr:FrB B w5 w6 v1 v2 v3 ev u1 u2 u3 eu) (a b d e f g:Value) :
  Oks w0 w B c pk v1 v2 v3 ev (S',A) (.returned (ansV A (.slice z l k))) (laidR w6 R a b d e f g):=by
 have h6:=hfr.2 R hR5 hRo.2 hRo.1
 refine ⟨z,l,k,u1,u2,u3,eu,rfl,?_,hof,hcb.res hRl h6.2 hRo.2 _ _ _ _ _ _,FrB.res ((FrB.kept hk).trans hfr) hRw _ _ _ _ _ _⟩
 refine (hsr.same fun q hq=>?_).less hk.size
 have:=(hsr.block q hq).1
 exact res_other (by omega)
theorem prg {w0 w:World} {B:Nat} {c:Cal} {pk v1 v2 v3:Value} {ev:List Value} {S:Sta} (h:Cb w0 w B c pk v1 v2 v3 ev S):∃ W1 R,Hid (w.alloc (.cells #[.int .i64 0,.int .i64 0,.int .i64 0,.bool false,.string ⟨#[]⟩,.slice none 0 0] 31 (0,0))=W1∧w.heap.size=R)∧Hid (Kept [] w W1)∧Hid (W1.heap[R]?=some (.cells #[.int .i64 0,.int .i64 0,.int .i64 0,.bool false,.string ⟨#[]⟩,.slice none 0 0] 31 (0,0)))∧Hid (Cb w0 W1 B c pk v1 v2 v3 ev S)∧Hid (Off [R] v1 v2 v3 ev∧R≠B)∧Hid (w.heap.size≤R)∧Hid (w0.heap.size≤R)∧
  ∃ p:Pl,v1=.slice p.a1 S.ino.length p.c1∧v2=.slice p.a2 S.opn.length p.c2∧v3=.slice p.a3 S.made.length p.c3∧Rd W1 B c pk p S∧(∀ x,p.a1=some x→∃ g,x=⟨g,0,none⟩)∧(∀ x,p.a3=some x→∃ g,x=⟨g,0,none⟩)∧Hid (Rd W1 B c pk p S)∧Hid (v1=.slice p.a1 S.ino.length p.c1∧v2=.slice p.a2 S.opn.length p.c2∧v3=.slice p.a3 S.made.length p.c3∧(∀ x,p.a1=some x→∃ g,x=⟨g,0,none⟩)∧(∀ x,p.a3=some x→∃ g,x=⟨g,0,none⟩)):=by
 obtain ⟨W1,R,HWR,HKR,HRb⟩:=boxR w #[.int .i64 0,.int .i64 0,.int .i64 0,.bool false,.string ⟨#[]⟩,.slice none 0 0] 31
 have HC1:Hid (Cb w0 W1 B c pk v1 v2 v3 ev S):=h.kept HKR.out
 obtain ⟨p,e1,e2,e3,hrd,f1,f3⟩:=HC1.out.rd
 exact ⟨W1,R,HWR,HKR,HRb,HC1,h.new (Nat.le_of_eq HWR.out.2),Nat.le_of_eq HWR.out.2,by have:=h.k.size;rw [← HWR.out.2];exact this,p,e1,e2,e3,hrd,f1,f3,hrd,e1,e2,e3,f1,f3⟩
end Go.Proofs.YtffncojcnbhblaaGreatDoor
