/-
  Joined of my texts Cr Cq.
-/
import Derived.Test.YtffncojcnbhblaaGreatDoorJb8
import Derived.Test.YtffncojcnbhblaaGreatDoorTk
set_option linter.unusedVariables false
set_option linter.unusedSimpArgs false
set_option maxRecDepth 100000
set_option maxHeartbeats 8000000
namespace Go.Proofs.YtffncojcnbhblaaGreatDoor
open Go.RowKit
@[reducible] def upTo (S:Sta) (n:Nat):Sta:=⟨S.ino.take n,S.opn,S.made⟩
structure Cy (W1 w:World) (Bo:Nat) (v1 v2 v3:Value) (ev:List Value) (S:Sta):Prop where
 k:Kept [] W1 w
 box:w.heap[Bo]?=some (.cells #[v1,v2,v3] 27 (0,0))
 os:Os w W1.heap.size v1 v2 v3 ev S
 off:Off [Bo] v1 v2 v3 ev
 lo:W1.heap.size≤Bo
theorem Cy.kept {W1 w w':World} {Bo:Nat} {v1 v2 v3:Value} {ev:List Value} {S:Sta} (h:Cy W1 w Bo v1 v2 v3 ev S) (k:Kept [] w w'):Cy W1 w' Bo v1 v2 v3 ev S:=
 ⟨h.k.trans k (by simp),(k.block Bo (lt_of_heap h.box) (by simp)).trans h.box,h.os.kept k,h.off,h.lo⟩
theorem Os.lt {w:World} {H:Nat} {v1 v2 v3:Value} {ev:List Value} {S:Sta} (h:Os w H v1 v2 v3 ev S) {n:Nat} (hn:w.heap.size≤n):v1.ownBlock≠some n∧v2.ownBlock≠some n∧v3.ownBlock≠some n∧∀ v∈ev,v.ownBlock≠some n:=by
 refine ⟨fun e=>?_,fun e=>?_,fun e=>?_,fun v hv e=>?_⟩
 · have:=h.ino.lt _ e;omega
 · have:=h.opn.lt _ e;omega
 · have:=h.mad.lt _ e;omega
 ·
  obtain ⟨i,hi,rfl⟩:=List.getElem_of_mem hv
  have:=(h.ent i (by rw [← h.evl];exact hi) hi).lt _ e;omega
theorem Os.less {w:World} {H H':Nat} {v1 v2 v3:Value} {ev:List Value} {S:Sta} (h:Os w H v1 v2 v3 ev S) (hH:H'≤H):Os w H' v1 v2 v3 ev S:=
 ⟨row_less h.ino hH,h.evl,fun i hi hv=>row_less (h.ent i hi hv) hH,row_less h.opn hH,row_less h.mad hH,h.a12,h.a13,h.a23,h.ae,h.aee⟩
structure Cz (W1 w:World) (Bo Y:Nat) (v1 v2 v3:Value) (ev:List Value) (S:Sta) (ve:Value) (x:Ino):Prop where
 cy:Cy W1 w Bo v1 v2 v3 ev S
 y:w.heap[Y]?=some (.cells #[.int .i64 x.num,.bool x.dir,ve,.string x.data] 62 (0,0))
 offY:Off [Y] v1 v2 v3 ev
 yb:Y≠Bo
 loY:W1.heap.size≤Y
 er:w.ownsRow W1.heap.size 64 2 ve x.ents.length (flat x.ents)
 ap:Ap v1 ve∧Ap v2 ve∧Ap v3 ve∧∀ v∈ev,Ap v ve
 eb:ve.ownBlock≠some Bo
 ey:ve.ownBlock≠some Y
theorem Cz.kept {W1 w w':World} {Bo Y:Nat} {v1 v2 v3 ve:Value} {ev:List Value} {S:Sta} {x:Ino} (h:Cz W1 w Bo Y v1 v2 v3 ev S ve x) (k:Kept [] w w'):Cz W1 w' Bo Y v1 v2 v3 ev S ve x:=
 ⟨h.cy.kept k,(k.block Y (lt_of_heap h.y) (by simp)).trans h.y,h.offY,h.yb,h.loY,row_keep h.er k (by simp),h.ap,h.eb,h.ey⟩
theorem Cy.keepF {W1 w w':World} {Bo:Nat} {v1 v2 v3:Value} {ev:List Value} {S:Sta} {F:List Nat} (h:Cy W1 w Bo v1 v2 v3 ev S) (k:Kept F w w') (hF:Off F v1 v2 v3 ev) (hB:Bo ∉ F) (hW:∀ x∈F,W1.heap.size≤x):Cy W1 w' Bo v1 v2 v3 ev S:=
 ⟨h.k.trans k (fun x hx=>Or.inr (hW x hx)),(k.block Bo (lt_of_heap h.box) hB).trans h.box,h.os.keep k hF,h.off,h.lo⟩
theorem kept_set {w:World} {B i:Nat} {v:Value}:Kept [B] w (w.setCell ⟨B,i,none⟩ v):=(Kept.refl [B] w).setCell (Or.inl (by simp)) _
theorem off_of {B:Nat} {v1 v2 v3:Value} {ev:List Value} (h:v1.ownBlock≠some B∧v2.ownBlock≠some B∧v3.ownBlock≠some B∧∀ v∈ev,v.ownBlock≠some B):Off [B] v1 v2 v3 ev:=fun x hx=>by
 rw [List.mem_singleton] at hx;subst hx;exact h
theorem Cy.start {W1 w W2 w3:World} {Bo Y:Nat} {v1 v2 v3:Value} {ev:List Value} {S:Sta} (h:Cy W1 w Bo v1 v2 v3 ev S) {x:Ino} {v0 ve:Value} (hW:w.alloc (.cells #[.int .i64 x.num,.bool x.dir,v0,.string x.data] 62 (0,0))=W2∧w.heap.size=Y)
  (k:Kept [] W2 w3) (re:w3.ownsRow W2.heap.size 64 2 ve x.ents.length (flat x.ents)):Cz W1 (w3.setCell ⟨Y,2,none⟩ ve) Bo Y v1 v2 v3 ev S ve x:=by
 obtain ⟨hW1,hW2⟩:=hW
 have hsz:W2.heap.size=Y+1:=by rw [← hW1,← hW2];simp
 have kw:Kept [] w W2:=by rw [← hW1];exact (Kept.refl [] w).alloc _
 have hy:w3.heap[Y]?=some (.cells #[.int .i64 x.num,.bool x.dir,v0,.string x.data] 62 (0,0)):=by
  rw [k.block Y (by omega) (by simp),← hW1,← hW2];exact Go.heap_alloc_new _ _
 have h3:=(h.kept kw).kept k
 have hoff:=h.os.lt (n:=Y) (by omega)
 have hYB:Y≠Bo:=fun e=>by have:=lt_of_heap h.box;omega
 have hlo:W1.heap.size≤Y:=by have:=h.k.size;omega
 have hel:∀ k,ve.ownBlock=some k→Y+1≤k:=fun k hk=>by have:=re.lt k hk;omega
 have hbel:∀ {u:Value} {n:Nat} {T:TypeId} {kk:Nat} {xs:List Value},w.ownsRow W1.heap.size T kk u n xs→Ap u ve:=fun hu k hk he=>by
  have:=hu.lt k hk;have:=hel k he;omega
 refine ⟨h3.keepF kept_set (off_of hoff) (by simp;exact fun e=>hYB e.symm) (by simpa using hlo),?_,off_of hoff,hYB,hlo,row_keep (row_less re (by omega)) kept_set (by simp;intro e;have:=hel _ e;omega),⟨hbel h.os.ino,hbel h.os.opn,hbel h.os.mad,fun v hv=>?_⟩,fun e=>?_,fun e=>?_⟩
 · rw [block_set hy 2 ve];rfl
 ·
  obtain ⟨i,hi,rfl⟩:=List.getElem_of_mem hv
  exact hbel (h.os.ent i (by rw [← h.os.evl];exact hi) hi)
 · have:=hel _ e;have:=lt_of_heap h.box;omega
 · have:=hel _ e;omega
theorem Cz.name {W1 w:World} {Bo Y g c:Nat} {v1 v2 v3:Value} {ev:List Value} {S:Sta} {x:Ino} (h:Cz W1 w Bo Y v1 v2 v3 ev S (.slice (some ⟨g,0,none⟩) x.ents.length c) x) {j:Nat} (hj:j < x.ents.length) :
  Cz W1 (w.setCell ⟨g,j*2,none⟩ (.string (x.ents[j]).1)) Bo Y v1 v2 v3 ev S (.slice (some ⟨g,0,none⟩) x.ents.length c) x:=by
 have e1:(flat x.ents).set (j*2) (.string (x.ents[j]).1)=flat x.ents:=by
  have:=(flat_get x.ents j _ (List.getElem?_eq_getElem hj)).1
  apply List.ext_getElem?
  intro i
  rw [List.getElem?_set]
  by_cases e:j*2=i
  ·
   subst e
   rw [if_pos rfl,this,if_pos (by rw [flat_length];omega)]
  · rw [if_neg e]
 obtain ⟨hr,hgr⟩:=h.er.stored (j*2) (.string (x.ents[j]).1)
 rw [e1] at hr
 have hg:W1.heap.size≤g:=(h.er.lt g rfl).1
 have hoff:Off [g] v1 v2 v3 ev:=off_of ⟨fun e=>h.ap.1 _ e rfl,fun e=>h.ap.2.1 _ e rfl,fun e=>h.ap.2.2.1 _ e rfl,fun v hv e=>h.ap.2.2.2 v hv _ e rfl⟩
 have hgB:Bo≠g:=fun e=>h.eb (by rw [e];rfl)
 have hgY:Y≠g:=fun e=>h.ey (by rw [e];rfl)
 exact ⟨h.cy.keepF kept_set hoff (by simpa using hgB) (by simpa using hg),(kept_set.block Y (lt_of_heap h.y) (by simpa using hgY)).trans h.y,h.offY,h.yb,h.loY,hr,h.ap,h.eb,h.ey⟩
theorem Cz.cells {W1 w:World} {Bo Y g c:Nat} {v1 v2 v3:Value} {ev:List Value} {S:Sta} {x:Ino} (h:Cz W1 w Bo Y v1 v2 v3 ev S (.slice (some ⟨g,0,none⟩) x.ents.length c) x) {j:Nat} (hj:j < x.ents.length) :
  w.cell? ⟨Y,2,none⟩=some (.slice (some ⟨g,0,none⟩) x.ents.length c)∧w.cell? ⟨g,j*2,none⟩=some (.string (x.ents[j]).1):=by
 refine ⟨cellB h.y,?_⟩
 rw [h.er.cellAt (j*2) (by omega)]
 exact (flat_get x.ents j _ (List.getElem?_eq_getElem hj)).1
theorem Cz.data {W1 w:World} {Bo Y:Nat} {v1 v2 v3 ve:Value} {ev:List Value} {S:Sta} {x:Ino} (h:Cz W1 w Bo Y v1 v2 v3 ev S ve x):Cz W1 (w.setCell ⟨Y,3,none⟩ (.string x.data)) Bo Y v1 v2 v3 ev S ve x:=by
 refine ⟨h.cy.keepF kept_set h.offY (by simpa using h.yb.symm) (by simpa using h.loY),?_,h.offY,h.yb,h.loY,row_keep h.er kept_set (by simpa using h.ey),h.ap,h.eb,h.ey⟩
 rw [block_set h.y 3 _]
 rfl
theorem Cz.append {W1 w:World} {Bo Y:Nat} {v1 v2 v3 ve:Value} {ev:List Value} {S:Sta} {x:Ino} (h:Cz W1 w Bo Y v1 v2 v3 ev S ve x) (hn:S.ino.length+1≤2513169434844) (ty:TypeId) :
  ∃ v1' w',(Builtin.append_ #[23,23] ty #[v1,.slice (some ⟨w.heap.size,0,none⟩) 1 1]).run Tryz.prog (w.alloc (.cells #[.int .i64 x.num,.bool x.dir,ve,.string x.data] 62))=.ok v1' w'∧(∃ a n c,v1'=.slice a n c)∧w'.heap[Bo]?=some (.cells #[v1,v2,v3] 27 (0,0))∧
   Cy W1 (w'.setCell ⟨Bo,0,none⟩ v1') Bo v1' v2 v3 (ev ++ [ve]) ⟨S.ino ++ [x],S.opn,S.made⟩:=by
 obtain ⟨i0,hi,hz0,hz1,hz2⟩:=info_parts info_Inode
 obtain ⟨W2,hW2⟩:∃ W2,w.alloc (.cells #[.int .i64 x.num,.bool x.dir,ve,.string x.data] 62)=W2:=⟨_,rfl⟩
 rw [hW2]
 have kw:Kept [] w W2:=by rw [← hW2];exact (Kept.refl [] w).alloc _
 have h2:=h.kept kw
 have hsz:W2.heap.size=w.heap.size+1:=by rw [← hW2];simp
 have hc:∀ j u,([.int .i64 x.num,.bool x.dir,ve,.string x.data]:List Value)[j]?=some u→W2.cell? ((⟨w.heap.size,0,none⟩:Addr).add j)=some u:=fun j u hj=>by
  rw [add_lit,Nat.zero_add,← hW2,cell_new]
  rw [← hj]
  simp
 obtain ⟨g,cap,w',hr,r1,gr,hg,hgl⟩:=run_append_lies (P:=Tryz.prog) W2 23 ty W1.heap.size 62 i0 _ 4 56 Tryz.underlying23 hi hz0 hz1 hz2 rfl (by omega) v1 S.ino.length (inoC S.ino ev) h2.cy.os.ino ⟨w.heap.size,0,none⟩ 1 1 _ rfl hc (by
  intro u hu
  simp only [List.mem_cons,List.not_mem_nil,or_false] at hu
  rcases hu with rfl | rfl | rfl | rfl
  · rfl
  · rfl
  · exact row_one h.er
  · rfl) (by omega) (by unfold maxLen;omega) (by omega) (by have:=h2.cy.k.size;omega) W2.heap.size rfl
 refine ⟨_,w',hr,⟨_,_,_,rfl⟩,?_,?_⟩
 · rw [gr.block Bo (lt_of_heap h2.cy.box) (fun e=>(h.cy.off Bo (by simp)).1 e.symm)];exact h2.cy.box
 have hbox:w'.heap[Bo]?=some (.cells #[v1,v2,v3] 27 (0,0)):=by
  rw [gr.block Bo (lt_of_heap h2.cy.box) (fun e=>(h.cy.off Bo (by simp)).1 e.symm)];exact h2.cy.box
 -- where the row lies
 have hnew:∀ {u:Value} {n:Nat} {T:TypeId} {kk:Nat} {xs:List Value},W2.ownsRow W1.heap.size T kk u n xs→Ap v1 u→u.ownBlock≠some g:=fun hu ha e=>by
  rcases hg with hg | hg
  · exact ha _ hg e
  · have:=hu.lt _ e;omega
 have keepW:∀ {u:Value} {n:Nat} {T:TypeId} {kk:Nat} {xs:List Value},W2.ownsRow W1.heap.size T kk u n xs→Ap v1 u→w'.ownsRow W1.heap.size T kk u n xs:=fun {u n T kk xs} hu ha=>
  hu.kept gr (by
   rcases hb:u.ownBlock with _ | b
   · exact Or.inl rfl
   · exact Or.inr fun e=>ha b e.symm hb)
 have kB:Kept [] W1 w':=h2.cy.k.grown gr (fun k hk=>Or.inr (h2.cy.os.ino.lt k hk).1)
 have hBg:Bo≠g:=fun e=>by
  rcases hg with hg | hg
  · exact (h.cy.off Bo (by simp)).1 (by rw [hg,e])
  · have:=lt_of_heap h2.cy.box;omega
 have hoB:=h.cy.off Bo (by simp)
 have setB:Kept [Bo] w' (w'.setCell ⟨Bo,0,none⟩ (.slice (some ⟨g,0,none⟩) (S.ino.length+1) cap)):=kept_set
 have hap:=h.ap
 refine ⟨kB.setCell (Or.inr h.cy.lo) _,by rw [block_set hbox 0 _];rfl,⟨?_,?_,?_,?_,?_,?_,?_,h.cy.os.a23,?_,?_⟩,?_,h.cy.lo⟩
 ·
  have:=row_keep r1 setB (by simp [Value.ownBlock];exact fun e=>hBg e.symm)
  rw [inoC_append h.cy.os.evl]
  simpa [inoC] using this
 · simp [h.cy.os.evl]
 ·
  intro i hi hv
  simp only [List.length_append,List.length_cons,List.length_nil,Nat.zero_add] at hi hv
  by_cases e:i < S.ino.length
  ·
   have hve:i < ev.length:=by rw [h.cy.os.evl];exact e
   have r:=keepW (h2.cy.os.ent i e hve) (h.cy.os.ae _ (List.getElem_mem hve)).1
   have r':=row_keep r setB (by simp;exact hoB.2.2.2 _ (List.getElem_mem hve))
   simpa [List.getElem_append_left e,List.getElem_append_left hve] using r'
  ·
   have e1:i=S.ino.length:=by omega
   subst e1
   have r:=keepW h2.er hap.1
   have r':=row_keep r setB (by simp;exact h.eb)
   have e3:(ev ++ [ve])[S.ino.length]'(by simp [h.cy.os.evl])=ve:=by
    rw [List.getElem_append_right (by rw [h.cy.os.evl];exact Nat.le_refl _)]
    simp
   simpa [e3] using r'
 · exact row_keep (keepW h2.cy.os.opn h.cy.os.a12) setB (by simp;exact hoB.2.1)
 · exact row_keep (keepW h2.cy.os.mad h.cy.os.a13) setB (by simp;exact hoB.2.2.1)
 ·
  intro k hk he
  have:k=g:=by simpa [Value.ownBlock] using hk.symm
  subst this
  exact hnew h2.cy.os.opn h.cy.os.a12 he
 ·
  intro k hk he
  have:k=g:=by simpa [Value.ownBlock] using hk.symm
  subst this
  exact hnew h2.cy.os.mad h.cy.os.a13 he
 ·
  intro v hv
  rcases List.mem_append.1 hv with hv | hv
  ·
   obtain ⟨i,hi,rfl⟩:=List.getElem_of_mem hv
   refine ⟨fun k hk he=>?_,(h.cy.os.ae _ hv).2.1,(h.cy.os.ae _ hv).2.2⟩
   have:k=g:=by simpa [Value.ownBlock] using hk.symm
   subst this
   exact hnew (h2.cy.os.ent i (by rw [← h.cy.os.evl];exact hi) hi) (h.cy.os.ae _ hv).1 he
  ·
   rw [List.mem_singleton] at hv
   subst hv
   refine ⟨fun k hk he=>?_,hap.2.1,hap.2.2.1⟩
   have:k=g:=by simpa [Value.ownBlock] using hk.symm
   subst this
   exact hnew h2.er hap.1 he
 ·
  rw [List.pairwise_append]
  exact ⟨h.cy.os.aee,by simp,fun a ha b hb=>by rw [List.mem_singleton] at hb;subst hb;exact hap.2.2.2 a ha⟩
 ·
  refine off_of ⟨by simp [Value.ownBlock];exact fun e=>hBg e.symm,hoB.2.1,hoB.2.2.1,fun v hv=>?_⟩
  rcases List.mem_append.1 hv with hv | hv
  · exact hoB.2.2.2 v hv
  · rw [List.mem_singleton] at hv;subst hv;exact h.eb
theorem des_cells {w:World} {a:Option Addr} {D:List Ds} (h:DesA w a D):∀ j u,(desC D)[j]?=some u→∃ b o,a=some ⟨b,o,none⟩∧w.cell? ⟨b,o+j,none⟩=some u:=by
 intro j u hj
 have hl:j < D.length*3:=by
  rw [← desC_length]
  rcases Nat.lt_or_ge j (desC D).length with h | h
  · exact h
  · rw [List.getElem?_eq_none h] at hj;cases hj
 obtain ⟨i,r,hr,rfl⟩:∃ i r,r < 3∧j=i*3+r:=⟨j / 3,j % 3,by omega,by omega⟩
 have hi:i < D.length:=by omega
 obtain ⟨b,o,ha,h0,h1,h2⟩:=h i hi
 obtain ⟨q0,q1,q2⟩:=desC_get hi
 refine ⟨b,o,ha,?_⟩
 rcases (show r=0∨r=1∨r=2 by omega) with rfl | rfl | rfl
 · rw [Nat.add_zero] at hj ⊢;rw [h0,← hj,q0]
 · rw [← Nat.add_assoc,h1,← hj,q1]
 · rw [← Nat.add_assoc,h2,← hj,q2]
theorem int_cells {w:World} {a:Option Addr} {M:List Int} (h:IntA w a M):∀ j u,(M.map (Value.int .i64))[j]?=some u→∃ b o,a=some ⟨b,o,none⟩∧w.cell? ⟨b,o+j,none⟩=some u:=by
 intro j u hj
 have hl:j < M.length:=by
  rcases Nat.lt_or_ge j M.length with h | h
  · exact h
  · rw [List.getElem?_eq_none (by simpa using h)] at hj;cases hj
 obtain ⟨b,o,ha,h0⟩:=h j hl
 refine ⟨b,o,ha,?_⟩
 rw [h0,← hj]
 simp [hl]
theorem ent_cells {w:World} {a:Option Addr} {E:List En} (h:EntA w a E):∀ j u,(flat E)[j]?=some u→∃ b o,a=some ⟨b,o,none⟩∧w.cell? ⟨b,o+j,none⟩=some u:=by
 intro j u hj
 have hl:j < E.length*2:=by
  rw [← flat_length]
  rcases Nat.lt_or_ge j (flat E).length with h | h
  · exact h
  · rw [List.getElem?_eq_none h] at hj;cases hj
 obtain ⟨i,r,hr,rfl⟩:∃ i r,r < 2∧j=i*2+r:=⟨j / 2,j % 2,by omega,by omega⟩
 have hi:i < E.length:=by omega
 obtain ⟨b,o,ha,h0,h1⟩:=h i hi
 obtain ⟨q0,q1⟩:=flat_get E i _ (List.getElem?_eq_getElem hi)
 refine ⟨b,o,ha,?_⟩
 rcases (show r=0∨r=1 by omega) with rfl | rfl
 · rw [Nat.add_zero] at hj ⊢;rw [h0,← hj,q0]
 · rw [← Nat.add_assoc,h1,← hj,q1]
theorem clone_opn {w W:World} {p:Pl} {S:Sta} (h:Sv w p S) (hb:Bd S) (k:Kept [] w W):Calls Tryz.prog 42 #[.slice p.a2 S.opn.length p.c2] W fun e w'=>∃ v',e=.returned v'∧w'.ownsRow W.heap.size 83 3 v' S.opn.length (desC S.opn)∧Kept [] W w':=
 clone_Desc _ _ _ _ desC_length hb.n2 h.f2 (des_cells (h.des.kept k)) desC_one
theorem clone_mad {w W:World} {p:Pl} {S:Sta} (h:Sv w p S) (hb:Bd S) (k:Kept [] w W):Calls Tryz.prog 43 #[.slice p.a3 S.made.length p.c3] W fun e w'=>∃ v',e=.returned v'∧w'.ownsRow W.heap.size 3 1 v' S.made.length (S.made.map (Value.int .i64))∧Kept [] W w':=
 clone_int _ _ _ _ (by simp) hb.n3 h.f3 (int_cells (h.mad.kept k)) (ints_oneCell _)
theorem cells3 {w:World} {B:Nat} {x y z:Value} {t:TypeId} (h:w.heap[B]?=some (.cells #[x,y,z] t (0,0))):w.cell? ⟨B,0,none⟩=some x∧w.cell? ⟨B,1,none⟩=some y∧w.cell? ⟨B,2,none⟩=some z∧w.frozen? ⟨B,0,none⟩=false∧w.frozen? ⟨B,1,none⟩=false∧w.frozen? ⟨B,2,none⟩=false:=
 ⟨cellB h,cellB h,cellB h,frozen_of h 0,frozen_of h 1,frozen_of h 2⟩
theorem own_box {W1 Wx w':World} {o:Obj} {P:Prop} (hs:Kept [] W1 Wx∧P) (k:Kept [] (Wx.alloc o) w'):w'.heap[Wx.heap.size]?=some o∧W1.heap.size≤Wx.heap.size:=
 ⟨(k.block _ (by simp) (by simp)).trans (Go.heap_alloc_new _ _),hs.1.size⟩
theorem own_box2 {W1 Wx w':World} {o:Obj} {P:Prop} (hs:Kept [] W1 Wx∧P) (k:Kept [] (Wx.drew.alloc o) w'):w'.heap[Wx.heap.size]?=some o∧W1.heap.size≤Wx.heap.size:=
 ⟨(k.block _ (by show Wx.heap.size < _;simp) (by simp)).trans (Go.heap_alloc_new _ _),hs.1.size⟩
theorem own_box3 {W1 Wx w':World} {o:Obj} {P:Prop} (hs:Kept [] W1 Wx∧P) (k:Kept [] ((Wx.alloc o).drew) w'):w'.heap[Wx.heap.size]?=some o∧W1.heap.size≤Wx.heap.size:=
 ⟨(k.block _ (by show Wx.heap.size < (Wx.alloc o).heap.size;simp) (by simp)).trans (Go.heap_alloc_new _ _),hs.1.size⟩
theorem ck_set {W1 w:World} {X B:Nat} {v2 v3 a b c:Value} (h:Kept [] W1 w∧w.cell? ⟨X,1,none⟩=some v2∧w.cell? ⟨X,2,none⟩=some v3) (hlo:W1.heap.size≤B) (hX:X < W1.heap.size) :
  Kept [] W1 (((w.setCell ⟨B,0,none⟩ a).setCell ⟨B,1,none⟩ b).setCell ⟨B,2,none⟩ c)∧(((w.setCell ⟨B,0,none⟩ a).setCell ⟨B,1,none⟩ b).setCell ⟨B,2,none⟩ c).cell? ⟨X,1,none⟩=some v2∧(((w.setCell ⟨B,0,none⟩ a).setCell ⟨B,1,none⟩ b).setCell ⟨B,2,none⟩ c).cell? ⟨X,2,none⟩=some v3:=by
 have hne:X≠B:=by omega
 refine ⟨((h.1.setCell (Or.inr hlo) _).setCell (Or.inr hlo) _).setCell (Or.inr hlo) _,?_,?_⟩
 · rw [cellO hne,cellO hne,cellO hne];exact h.2.1
 · rw [cellO hne,cellO hne,cellO hne];exact h.2.2
structure Fin2 (W1 w:World) (B:Nat) (o:Obj) (va vb:Value) (Ta Tb:TypeId) (ka kb na nb:Nat) (xa xb:List Value):Prop where
 k:Kept [] W1 w
 here:w.heap[B]?=some o
 lo:W1.heap.size≤B
 ra:w.ownsRow W1.heap.size Ta ka va na xa
 rb:w.ownsRow W1.heap.size Tb kb vb nb xb
 ap:Ap va vb
 pa:va.ownBlock≠some B
 pb:vb.ownBlock≠some B
theorem Fin2.out {W1 w:World} {B:Nat} {o:Obj} {va vb:Value} {Ta Tb:TypeId} {ka kb na nb:Nat} {xa xb:List Value} (F:Fin2 W1 w B o va vb Ta Tb ka kb na nb xa xb) :
 Kept [] W1 w∧w.heap[B]?=some o∧W1.heap.size≤B∧w.ownsRow W1.heap.size Ta ka va na xa∧w.ownsRow W1.heap.size Tb kb vb nb xb∧Ap va vb∧va.ownBlock≠some B∧vb.ownBlock≠some B:=⟨F.k,F.here,F.lo,F.ra,F.rb,F.ap,F.pa,F.pb⟩
theorem Fin2.swap {W1 w:World} {B:Nat} {o:Obj} {va vb:Value} {Ta Tb:TypeId} {ka kb na nb:Nat} {xa xb:List Value} (F:Fin2 W1 w B o va vb Ta Tb ka kb na nb xa xb) :
 Kept [] W1 w∧w.heap[B]?=some o∧W1.heap.size≤B∧w.ownsRow W1.heap.size Tb kb vb nb xb∧w.ownsRow W1.heap.size Ta ka va na xa∧Ap vb va∧vb.ownBlock≠some B∧va.ownBlock≠some B:=⟨F.k,F.here,F.lo,F.rb,F.ra,F.ap.symm,F.pb,F.pa⟩
theorem fin1 {W1 wa wb:World} {o:Obj} {va vb:Value} {Ta Tb:TypeId} {ka kb na nb ba bb:Nat} {xa xb:List Value} (k1:Kept [] W1 wa) (k2:Kept [] wa wb) (ra:wa.ownsRow ba Ta ka va na xa) (hba:W1.heap.size≤ba) (rb:wb.ownsRow bb Tb kb vb nb xb) (hbb:wa.heap.size≤bb) :
  Fin2 W1 (wb.alloc o) wb.heap.size o va vb Ta Tb ka kb na nb xa xb:=by
 have h1:=k1.size
 have h2:=k2.size
 refine ⟨(k1.trans k2 (by simp)).alloc _,Go.heap_alloc_new _ _,by omega,(row_keep (row_less ra hba) k2 (by simp)).alloc _,(row_less rb (by omega)).alloc _,fun k ha hb=>?_,fun ha=>?_,fun hb=>?_⟩
 · have:=ra.lt k ha;have:=rb.lt k hb;omega
 · have:=ra.lt _ ha;omega
 · have:=rb.lt _ hb;omega
theorem fin_set {W1 w:World} {B:Nat} {x y z x' y' z':Value} {t:TypeId} {va vb:Value} {Ta Tb:TypeId} {ka kb na nb:Nat} {xa xb:List Value} (k:Kept [] W1 w) (hb:w.heap[B]?=some (.cells #[x,y,z] t (0,0))) (lo:W1.heap.size≤B)
  (ra:w.ownsRow W1.heap.size Ta ka va na xa) (rb:w.ownsRow W1.heap.size Tb kb vb nb xb) (ap:Ap va vb) (pa:va.ownBlock≠some B) (pb:vb.ownBlock≠some B) :
  Fin2 W1 (((w.setCell ⟨B,0,none⟩ x').setCell ⟨B,1,none⟩ y').setCell ⟨B,2,none⟩ z') B (.cells #[x',y',z'] t (0,0)) va vb Ta Tb ka kb na nb xa xb:=by
 have kk:Kept [B] w (((w.setCell ⟨B,0,none⟩ x').setCell ⟨B,1,none⟩ y').setCell ⟨B,2,none⟩ z'):=(((Kept.refl [B] w).setCell (Or.inl (by simp)) _).setCell (Or.inl (by simp)) _).setCell (Or.inl (by simp)) _
 refine ⟨((k.setCell (Or.inr lo) _).setCell (Or.inr lo) _).setCell (Or.inr lo) _,?_,lo,row_keep ra kk (by simpa using pa),row_keep rb kk (by simpa using pb),ap,pa,pb⟩
 rw [block_set (block_set (block_set hb 0 x') 1 y') 2 z']
 rfl
theorem fin2 {W1 wa wb:World} {o:Obj} {x y z x' y' z':Value} {t:TypeId} {va vb:Value} {Ta Tb:TypeId} {ka kb na nb ba bb:Nat} {xa xb:List Value} (k1:Kept [] W1 wa) (k2:Kept [] (wa.alloc o) wb) (hb:wb.heap[wa.heap.size]?=some (.cells #[x,y,z] t (0,0))) (ra:wa.ownsRow ba Ta ka va na xa) (hba:W1.heap.size≤ba) (rb:wb.ownsRow bb Tb kb vb nb xb) (hbb:(wa.alloc o).heap.size≤bb) :
  Fin2 W1 (((wb.setCell ⟨wa.heap.size,0,none⟩ x').setCell ⟨wa.heap.size,1,none⟩ y').setCell ⟨wa.heap.size,2,none⟩ z') wa.heap.size (.cells #[x',y',z'] t (0,0)) va vb Ta Tb ka kb na nb xa xb:=by
 have h1:=k1.size
 have h2:=k2.size
 have h3:(wa.alloc o).heap.size=wa.heap.size+1:=by simp
 refine fin_set ((k1.alloc o).trans k2 (by simp)) hb (by omega) (row_keep ((row_less ra hba).alloc _) k2 (by simp)) (row_less rb (by omega)) (fun k ha hb=>?_) (fun ha=>?_) (fun hb=>?_)
 · have:=ra.lt k ha;have:=rb.lt k hb;omega
 · have:=ra.lt _ ha;omega
 · have:=rb.lt _ hb;omega
theorem fin3 {W1 wa wb:World} {x y z x' y' z':Value} {t:TypeId} {va vb:Value} {Ta Tb:TypeId} {ka kb na nb ba bb B:Nat} {xa xb:List Value} (hB:W1.heap.size≤B) (k1:Kept [] W1 wa) (k2:Kept [] wa wb) (hb:wb.heap[B]?=some (.cells #[x,y,z] t (0,0))) (ra:wa.ownsRow ba Ta ka va na xa) (hba:B < ba) (rb:wb.ownsRow bb Tb kb vb nb xb) (hbb:wa.heap.size≤bb) (hw:B < wa.heap.size) :
  Fin2 W1 (((wb.setCell ⟨B,0,none⟩ x').setCell ⟨B,1,none⟩ y').setCell ⟨B,2,none⟩ z') B (.cells #[x',y',z'] t (0,0)) va vb Ta Tb ka kb na nb xa xb:=by
 have h1:=k1.size
 have h2:=k2.size
 refine fin_set (k1.trans k2 (by simp)) hb hB (row_keep (row_less ra (by omega)) k2 (by simp)) (row_less rb (by omega)) (fun k ha hb=>?_) (fun ha=>?_) (fun hb=>?_)
 · have:=ra.lt k ha;have:=rb.lt k hb;omega
 · have:=ra.lt _ ha;omega
 · have:=rb.lt _ hb;omega
theorem ck_kept {W1 w w':World} {X:Nat} {v2 v3:Value} (h:Kept [] W1 w∧w.cell? ⟨X,1,none⟩=some v2∧w.cell? ⟨X,2,none⟩=some v3) (k:Kept [] w w'):Kept [] W1 w'∧w'.cell? ⟨X,1,none⟩=some v2∧w'.cell? ⟨X,2,none⟩=some v3:=
 ⟨h.1.trans k (by simp),k.cell h.2.1 (by simp),k.cell h.2.2 (by simp)⟩
theorem p_copied {w:World} {p:Pl} {S:Sta} (h:Sv w p S) (hb:Bd S) :
  Calls Tryz.prog 28 #[sval p S] w fun e w'=>∃ v1 v2 v3 ev,e=.returned (.agg #[v1,v2,v3])∧Os w' w.heap.size v1 v2 v3 ev S∧Kept [] w w':=by
 have HBd:Hid (Bd S):=hb
 obtain ⟨W0,X,HW,HB⟩:=boxS h
 obtain ⟨W1,R,HWR,HKR,r0,r1,r2'⟩:=box3 W0 (.slice none 0 0) (.slice none 0 0) (.slice none 0 0) 27
 have HB1:Hid (_):=HB.out.kept HKR.out
 have HC:Hid (Kept [] W1 W1∧W1.cell? ⟨X,1,none⟩=some (.slice p.a2 S.opn.length p.c2)∧W1.cell? ⟨X,2,none⟩=some (.slice p.a3 S.made.length p.c3)):=⟨Kept.refl _ _,HB1.out.x1,HB1.out.x2⟩
 clear h hb
 go_enter Tryz.func28,Tryz.ntmps28
 go_upto_region 1 with fail
 have HR0:Hid (W1.heap[R]?=some (.cells #[.slice none 0 0,.slice none 0 0,.slice none 0 0] 27 (0,0))):=by
  rw [← HWR.out.1,← HWR.out.2];exact Go.heap_alloc_new _ _
 have HX0:Hid (w.heap.size=X):=HW.out.2
 have hR:R=X+1:=by rw [← HWR.out.2,← HW.out.1,← HW.out.2];simp
 rw [HW.out.1,HW.out.2,HWR.out.1]
 subst hR
 have HX:Hid (X < W1.heap.size):=block_lt_of_cell HB1.out.x1
 clear HW HWR
 refine Code.wp_mono (Q:=fun e a w'=>e=Exit.normal∧∃ (Bo:Nat) (v2 v3 u7 u8 u9 u10 u11 u12 u13:Value),a={ tmps:=#[sval p S,.pointer (some ⟨X,0,none⟩),.pointer (some ⟨X+1,0,none⟩),.pointer (some ⟨Bo,0,none⟩),undef,undef,undef,u7,u8,u9,u10,u11,u12,u13,undef,undef,undef,undef,undef,undef,undef,undef,undef,undef,undef,undef,undef,undef,undef,undef,undef,undef,undef,undef,undef,undef,undef,undef,undef,undef,undef,undef,undef,undef,undef,undef,undef,undef,undef,undef,undef,undef,undef,undef,undef,undef],defers:=[] }∧
  Kept [] W1 w'∧w'.heap[Bo]?=some (.cells #[.slice none 0 0,v2,v3] 27 (0,0))∧W1.heap.size≤Bo∧w'.ownsRow W1.heap.size 83 3 v2 S.opn.length (desC S.opn)∧w'.ownsRow W1.heap.size 3 1 v3 S.made.length (S.made.map (Value.int .i64))∧Ap v2 v3∧v2.ownBlock≠some Bo∧v3.ownBlock≠some Bo) ?imp ?reg
 case reg=>
  go_region_held3 (fun w'=>Kept [] W1 w'∧w'.cell? ⟨X,1,none⟩=some (.slice p.a2 S.opn.length p.c2)∧w'.cell? ⟨X,2,none⟩=some (.slice p.a3 S.made.length p.c3)) (first | exact HC.out | exact zo2 | exact zo3 | exact ck_set zo2 hlo HX.out | exact ck_set zo3 hlo HX.out | exact ck_set (by assumption) hlo HX.out | exact ck_kept (by assumption) ((Kept.refl _ _).alloc _) | exact ck_kept (by assumption) (((Kept.refl _ _).alloc _).drew) | exact ck_kept (by assumption) (Kept.refl _ _).drew | go_keep)
   (first
    | (go_at_call 42;refine (clone_opn HB1.out.sv HBd.out (And.left (by assumption))).mono ?_;rintro e wo2 ⟨v2,rfl,o2,ko2⟩;obtain ⟨av2,cv2,hv,-⟩:=row_form o2;subst hv;have zo2:=ck_kept (by assumption) ko2;first | (have hbb:=own_box (by assumption) ko2;obtain ⟨hbo2,hlo⟩:=hbb;obtain ⟨ca,cb,cc,fa,fb,fc⟩:=cells3 hbo2) | (have hbb:=own_box2 (by assumption) ko2;obtain ⟨hbo2,hlo⟩:=hbb;obtain ⟨ca,cb,cc,fa,fb,fc⟩:=cells3 hbo2) | (have hbb:=own_box3 (by assumption) ko2;obtain ⟨hbo2,hlo⟩:=hbb;obtain ⟨ca,cb,cc,fa,fb,fc⟩:=cells3 hbo2) | (have hbo2:=(ko2.block _ (lt_of_heap hbo2) (by simp)).trans hbo2;clear ca cb cc fa fb fc;obtain ⟨ca,cb,cc,fa,fb,fc⟩:=cells3 hbo2) | (have hbo2:=(ko2.block _ (lt_of_heap hbo3) (by simp)).trans hbo3;clear ca cb cc fa fb fc;obtain ⟨ca,cb,cc,fa,fb,fc⟩:=cells3 hbo2) | skip)
    | (go_at_call 42;refine (clone_opn HB1.out.sv HBd.out ((And.left (by assumption:_∧_)).drew)).mono ?_;rintro e wo2 ⟨v2,rfl,o2,ko2⟩;obtain ⟨av2,cv2,hv,-⟩:=row_form o2;subst hv;have zo2:=ck_kept (by assumption) ko2;first | (have hbb:=own_box (by assumption) ko2;obtain ⟨hbo2,hlo⟩:=hbb;obtain ⟨ca,cb,cc,fa,fb,fc⟩:=cells3 hbo2) | (have hbb:=own_box2 (by assumption) ko2;obtain ⟨hbo2,hlo⟩:=hbb;obtain ⟨ca,cb,cc,fa,fb,fc⟩:=cells3 hbo2) | (have hbb:=own_box3 (by assumption) ko2;obtain ⟨hbo2,hlo⟩:=hbb;obtain ⟨ca,cb,cc,fa,fb,fc⟩:=cells3 hbo2) | (have hbo2:=(ko2.block _ (lt_of_heap hbo2) (by simp)).trans hbo2;clear ca cb cc fa fb fc;obtain ⟨ca,cb,cc,fa,fb,fc⟩:=cells3 hbo2) | (have hbo2:=(ko2.block _ (lt_of_heap hbo3) (by simp)).trans hbo3;clear ca cb cc fa fb fc;obtain ⟨ca,cb,cc,fa,fb,fc⟩:=cells3 hbo2) | skip)
    | (go_at_call 43;refine (clone_mad HB1.out.sv HBd.out (And.left (by assumption))).mono ?_;rintro e wo3 ⟨v3,rfl,o3,ko3⟩;obtain ⟨av3,cv3,hv,-⟩:=row_form o3;subst hv;have zo3:=ck_kept (by assumption) ko3;first | (have hbb:=own_box (by assumption) ko3;obtain ⟨hbo3,hlo⟩:=hbb;obtain ⟨ca,cb,cc,fa,fb,fc⟩:=cells3 hbo3) | (have hbb:=own_box2 (by assumption) ko3;obtain ⟨hbo3,hlo⟩:=hbb;obtain ⟨ca,cb,cc,fa,fb,fc⟩:=cells3 hbo3) | (have hbb:=own_box3 (by assumption) ko3;obtain ⟨hbo3,hlo⟩:=hbb;obtain ⟨ca,cb,cc,fa,fb,fc⟩:=cells3 hbo3) | (have hbo3:=(ko3.block _ (lt_of_heap hbo2) (by simp)).trans hbo2;clear ca cb cc fa fb fc;obtain ⟨ca,cb,cc,fa,fb,fc⟩:=cells3 hbo3) | (have hbo3:=(ko3.block _ (lt_of_heap hbo3) (by simp)).trans hbo3;clear ca cb cc fa fb fc;obtain ⟨ca,cb,cc,fa,fb,fc⟩:=cells3 hbo3) | skip)
    | (go_at_call 43;refine (clone_mad HB1.out.sv HBd.out ((And.left (by assumption:_∧_)).drew)).mono ?_;rintro e wo3 ⟨v3,rfl,o3,ko3⟩;obtain ⟨av3,cv3,hv,-⟩:=row_form o3;subst hv;have zo3:=ck_kept (by assumption) ko3;first | (have hbb:=own_box (by assumption) ko3;obtain ⟨hbo3,hlo⟩:=hbb;obtain ⟨ca,cb,cc,fa,fb,fc⟩:=cells3 hbo3) | (have hbb:=own_box2 (by assumption) ko3;obtain ⟨hbo3,hlo⟩:=hbb;obtain ⟨ca,cb,cc,fa,fb,fc⟩:=cells3 hbo3) | (have hbb:=own_box3 (by assumption) ko3;obtain ⟨hbo3,hlo⟩:=hbb;obtain ⟨ca,cb,cc,fa,fb,fc⟩:=cells3 hbo3) | (have hbo3:=(ko3.block _ (lt_of_heap hbo2) (by simp)).trans hbo2;clear ca cb cc fa fb fc;obtain ⟨ca,cb,cc,fa,fb,fc⟩:=cells3 hbo3) | (have hbo3:=(ko3.block _ (lt_of_heap hbo3) (by simp)).trans hbo3;clear ca cb cc fa fb fc;obtain ⟨ca,cb,cc,fa,fb,fc⟩:=cells3 hbo3) | skip))
  all_goals first
   | exact ⟨rfl,_,_,_,_,_,_,_,_,_,_,rfl,(fin1 zo2.1 ko3 o2 (Nat.le_refl _) o3 (Nat.le_refl _)).out⟩
   | exact ⟨rfl,_,_,_,_,_,_,_,_,_,_,rfl,(fin2 zo2.1 ko3 hbo3 o2 (Nat.le_refl _) o3 (Nat.le_refl _)).out⟩
   | exact ⟨rfl,_,_,_,_,_,_,_,_,_,_,rfl,(fin3 hlo zo2.1 ko3 hbo3 o2 (by simp) o3 (Nat.le_refl _) (lt_of_heap hbo2)).out⟩
   | exact ⟨rfl,_,_,_,_,_,_,_,_,_,_,rfl,(fin1 zo3.1 ko2 o3 (Nat.le_refl _) o2 (Nat.le_refl _)).swap⟩
   | exact ⟨rfl,_,_,_,_,_,_,_,_,_,_,rfl,(fin2 zo3.1 ko2 hbo2 o3 (Nat.le_refl _) o2 (Nat.le_refl _)).swap⟩
   | exact ⟨rfl,_,_,_,_,_,_,_,_,_,_,rfl,(fin3 hlo zo3.1 ko2 hbo2 o3 (by simp) o2 (Nat.le_refl _) (lt_of_heap hbo3)).swap⟩
   | trace_state
 case imp=>
  rintro e a w1 ⟨rfl,Bo,v2,v3,u7,u8,u9,u10,u11,u12,u13,rfl,k1,hbo,lo,r2,r3,ap,p2,p3⟩
  have HC1:Hid (Cy W1 w1 Bo (.slice none 0 0) v2 v3 [] (upTo S 0)):=⟨k1,hbo,⟨World.ownsRow_nil _ _ _ _,rfl,fun i hi=>(by simp at hi),r2,r3,fun k hk=>(by cases hk),fun k hk=>(by cases hk),ap,fun v hv=>(by cases hv),List.Pairwise.nil⟩,off_of ⟨by simp [Value.ownBlock],p2,p3,fun v hv=>(by cases hv)⟩,lo⟩
  obtain ⟨a2,c2,hv2,-⟩:=row_form r2
  obtain ⟨a3,c3,hv3,-⟩:=row_form r3
  have HR2:Hid (w1.cell? ⟨X+1,0,none⟩=some (.slice none 0 0)∧w1.cell? ⟨X+1,1,none⟩=some (.slice none 0 0)∧w1.cell? ⟨X+1,2,none⟩=some (.slice none 0 0)):=⟨k1.cell r0 (by simp),k1.cell r1 (by simp),k1.cell r2' (by simp)⟩
  have HB2:Hid (_):=HB1.out.kept k1
  have x0:=HB2.out.x0
  have hn1:S.ino.length≤2513169434843:=HBd.out.n1
  subst hv2 hv3
  clear k1 hbo r2 r3 ap p2 p3 r0 r1 r2' HC
  go_wp2_with fail
  clear x0
  go_loopw [17] (fun i wr=>∃ (n:Nat) (v1:Value) (ev:List Value),i=.int .i64 (n:Int)∧n≤S.ino.length∧Hid (Cy W1 wr Bo v1 (.slice a2 S.opn.length c2) (.slice a3 S.made.length c3) ev (upTo S n))) (fun i _=>(S.ino.length - intOf i).toNat)
  case atStart=>exact ⟨0,_,_,rfl,by omega,HC1.out⟩
  case round=>
   obtain ⟨n,v1,ev,rfl,hn,HJ⟩:=hrel
   by_cases hlt:n < S.ino.length
   ·
    have j0:(0:Int)≤(n:Int):=by omega
    have j1:(n:Int) < (S.ino.length:Int):=by omega
    obtain ⟨b,o,ae,ce,ha,q0,q1,q2,q3,q4,q5,q6⟩:=(HB1.out.kept HJ.out.k).sv.ino n hlt
    have HA:Hid (_):=ha
    rw [ha]
    obtain ⟨x,hx⟩:∃ x,S.ino[n]=x:=⟨_,rfl⟩
    have HXn:Hid (_):=hx
    have HBx:Hid (x.ents.length≤5864062014634∧x.data.size≤140737488351232∧∀ e∈x.ents,e.1.size≤140737488351232):=by
     rw [← hx]
     exact ⟨HBd.out.n4 _ (List.getElem_mem hlt),HBd.out.d1 _ (List.getElem_mem hlt),HBd.out.e1 _ (List.getElem_mem hlt)⟩
    rw [hx] at q0 q1 q2 q3 q4 q5
    have HEn:Hid (EntA wr ae x.ents∧True):=⟨q4,q6⟩
    have hel:x.ents.length≤5864062014634:=HBx.out.1
    clear ha hx q4 q5 q6
    obtain ⟨W2,Y,HWY,HK2,c0,c1,c2',c3'⟩:=box4 wr (.int .i64 x.num) (.bool x.dir) (.slice ae x.ents.length ce) (.string x.data) 62
    go_upto_region 5 with fail
    rw [HWY.out.1,HWY.out.2]
    clear q0 q1 q2 q3
    go_wp2_with fail
    refine (clone_Entry ae x.ents.length ce (flat x.ents) (flat_length _) HBx.out.1 HEn.out.2 (ent_cells (HEn.out.1.kept HK2.out)) (flat_one _)).mono ?_
    rintro e w3 ⟨ve,rfl,re,k3⟩
    have HZ:Hid (_):=HJ.out.start HWY.out k3 re
    have hy3:w3.heap[Y]?=some (.cells #[.int .i64 x.num,.bool x.dir,.slice ae x.ents.length ce,.string x.data] 62 (0,0)):=by
     rw [k3.block Y (by rw [← HWY.out.1,← HWY.out.2];simp) (by simp),← HWY.out.1,← HWY.out.2];exact Go.heap_alloc_new _ _
    have d2:=(cellB (i:=2) hy3).trans (show _=some (Value.slice ae x.ents.length ce) from rfl)
    have f2:=frozen_of hy3 2
    obtain ⟨ave,cve,hve,hvl,hvf,-⟩:=row_form re
    have HVf:Hid (∀ y,ave=some y→∃ g,y=⟨g,0,none⟩):=fun y hy=>by obtain ⟨g,e,-⟩:=hvf y hy;exact ⟨g,e⟩
    have HVn:Hid (ave=none→x.ents.length=0):=fun e=>by
     rcases re.2 with ⟨e1,e2⟩ | ⟨g,cap,cur,e1,-⟩
     · exact e2
     · rw [hve,e] at e1;cases e1
    subst hve
    obtain ⟨W4,hW4⟩:∃ W4,w3.setCell ⟨Y,2,none⟩ (.slice ave x.ents.length cve)=W4:=⟨_,rfl⟩
    rw [hW4] at HZ
    have HW4:Hid (_):=hW4
    clear hW4 k3 re hy3 hvl hvf c0 c1 c2' c3' HWY HK2 HEn HJ
    go_upto_region 6 with fail
    rw [HW4.out]
    clear HW4 d2 f2
    have d2:W4.cell? ⟨Y,2,none⟩=some (.slice ave x.ents.length cve):=cellB HZ.out.y
    go_wp2_with fail
    clear d2
    go_loopw [28] (fun i wr=>∃ m:Nat,i=.int .i64 (m:Int)∧m≤x.ents.length∧Hid (Cz W1 wr Bo Y v1 (.slice a2 S.opn.length c2) (.slice a3 S.made.length c3) ev (upTo S n) (.slice ave x.ents.length cve) x)) (fun i _=>(x.ents.length - intOf i).toNat)
    case atStart=>exact ⟨0,rfl,by omega,HZ.out⟩
    case round=>
     obtain ⟨m,rfl,hm,HI⟩:=hrel
     by_cases hlm:m < x.ents.length
     ·
      have l0:(0:Int)≤(m:Int):=by omega
      have l1:(m:Int) < (x.ents.length:Int):=by omega
      rcases ave with _ | y
      · have:=HVn.out rfl;omega
      obtain ⟨g,rfl⟩:=HVf.out y rfl
      have HC:Hid (_):=HI.out.cells hlm
      have HFr:Hid (wr.frozen? ⟨g,m*2,none⟩=false):=HI.out.er.frozenAt _
      have HSz:Hid ((x.ents[m]).1.size≤140737488351232):=HBx.out.2.2 _ (List.getElem_mem hlm)
      go_upto_region 9 with fail
      go_region_held3 (fun w'=>w'.cell? ⟨Y,2,none⟩=some (.slice (some ⟨g,0,none⟩) x.ents.length cve)∧w'.cell? ⟨g,m*2,none⟩=some (.string (x.ents[m]).1)) (first | exact HC.out | exact z4 | exact (HZ5.out.name hlm).cells hlm | go_keep)
       (first
        | (go_at_call 45;refine (s_clone (x.ents[m]).1 _ HSz.out).mono ?_;rintro e w5 ⟨rfl,k5⟩;have HZ5:Hid (_):=HI.out.kept ((Kept.refl _ _).drew.trans k5 (by simp));have z4:=HZ5.out.cells hlm;have f5:=HZ5.out.er.frozenAt (m*2);clear k5))
      have HZ6:Hid (_):=HZ5.out.name hlm
      clear z4 f5 HC HI HZ5 HFr
      go_wp2_with fail
      go_roundw
      case rel=>exact ⟨m+1,by go_num,by omega,HZ6.out⟩
      case measure=>simp [intOf];omega
     ·
      have l1:¬ (m:Int) < (x.ents.length:Int):=by omega
      have d3:wr.cell? ⟨Y,3,none⟩=some (.string x.data):=cellB HI.out.y
      go_wp2_with fail
      refine (s_clone x.data _ HBx.out.2.1).mono ?_
      rintro e w5 ⟨rfl,k5⟩
      have HZ5:Hid (_):=HI.out.kept k5
      have e3:w5.cell? ⟨Y,3,none⟩=some (.string x.data):=cellB HZ5.out.y
      have f3:=frozen_of HZ5.out.y 3
      obtain ⟨W6,hW6⟩:∃ W6,w5.setCell ⟨Y,3,none⟩ (.string x.data)=W6:=⟨_,rfl⟩
      have HZ6:Hid (_):=HZ5.out.data
      rw [hW6] at HZ6
      have HW6:Hid (_):=hW6
      clear hW6 k5 d3 HI HZ5
      go_upto_region 12 with fail
      rw [HW6.out]
      clear HW6 e3 f3
      have g0:W6.cell? ⟨Y,0,none⟩=some (.int .i64 x.num):=cellB HZ6.out.y
      have g1:W6.cell? ⟨Y,1,none⟩=some (.bool x.dir):=cellB HZ6.out.y
      have g2:W6.cell? ⟨Y,2,none⟩=some (.slice ave x.ents.length cve):=cellB HZ6.out.y
      have g3:W6.cell? ⟨Y,3,none⟩=some (.string x.data):=cellB HZ6.out.y
      have g4:W6.cell? ⟨Bo,0,none⟩=some v1:=cellB HZ6.out.cy.box
      obtain ⟨a1,c1,hv1,-⟩:=row_form HZ6.out.cy.os.ino
      have hl:(upTo S n).ino.length=n:=by simp;omega
      rw [hl] at hv1
      obtain ⟨v1',w7,hr,hform,hbox,hcy⟩:=HZ6.out.append (by rw [hl];omega) 23
      have HS:Hid (upTo S (n+1)=⟨(upTo S n).ino ++ [x],(upTo S n).opn,(upTo S n).made⟩):=by
       show _=_
       unfold upTo
       simp only [Sta.mk.injEq,and_true]
       rw [List.take_succ_eq_append_getElem hlt,HXn.out]
      have HC7:Hid (Cy W1 (w7.setCell ⟨Bo,0,none⟩ v1') Bo v1' (.slice a2 S.opn.length c2) (.slice a3 S.made.length c3) (ev ++ [.slice ave x.ents.length cve]) (upTo S (n+1))):=by
       show Cy _ _ _ _ _ _ _ _
       rw [HS.out]
       exact hcy
      have h0:w7.cell? ⟨Bo,0,none⟩=some v1:=cellB hbox
      have f0:=frozen_of hbox 0
      obtain ⟨a7,n7,c7,hv7⟩:=hform
      rw [hv1] at hr h0 g4
      rw [hv7] at hr HC7
      have HAp:Hid (_):=hr
      clear hr hbox hcy hl HS hv1 hv7
      go_wp2_with (first
       | (at_builtin;refine wpList_append_run _ rfl _ _ 23 23 rfl _ _ rfl rfl _ _ HAp.out ?_))
      go_roundw
      case rel=>exact ⟨n+1,_,_,by go_num,by omega,HC7.out⟩
      case measure=>simp [intOf];omega
   ·
    have j1:¬ (n:Int) < (S.ino.length:Int):=by omega
    have HCe:Hid (Cy W1 wr Bo v1 (.slice a2 S.opn.length c2) (.slice a3 S.made.length c3) ev S):=by
     have:=HJ.out
     unfold upTo at this
     rw [List.take_of_length_le (by omega)] at this
     exact this
    obtain ⟨a1,c1,hv1,-⟩:=row_form HCe.out.os.ino
    subst hv1
    obtain ⟨g0,g1,g2⟩:=cz3 HCe.out.box
    have hres:wr.heap[X+1]?=some (.cells #[.slice none 0 0,.slice none 0 0,.slice none 0 0] 27 (0,0)):=(HCe.out.k.block _ (lt_of_heap HR0.out) (by simp)).trans HR0.out
    obtain ⟨t0,t1,t2,t3,t4,t5⟩:=cells3 hres
    have hlt1:X+1 < W1.heap.size:=lt_of_heap HR0.out
    obtain ⟨W9,hW9⟩:∃ W9,((wr.setCell ⟨X+1,0,none⟩ (.slice a1 S.ino.length c1)).setCell ⟨X+1,1,none⟩ (.slice a2 S.opn.length c2)).setCell ⟨X+1,2,none⟩ (.slice a3 S.made.length c3)=W9:=⟨_,rfl⟩
    have h9:W9.heap[X+1]?=some (.cells #[.slice a1 S.ino.length c1,.slice a2 S.opn.length c2,.slice a3 S.made.length c3] 27 (0,0)):=by
     rw [← hW9,block_set (block_set (block_set hres 0 _) 1 _) 2 _];rfl
    have kk:Kept [X+1] wr W9:=by
     rw [← hW9];exact (((Kept.refl [X+1] wr).setCell (Or.inl (by simp)) _).setCell (Or.inl (by simp)) _).setCell (Or.inl (by simp)) _
    have HOs:Hid (Os W9 w.heap.size (.slice a1 S.ino.length c1) (.slice a2 S.opn.length c2) (.slice a3 S.made.length c3) ev S∧Kept [] w W9):=by
     have hoff:Off [X+1] (.slice a1 S.ino.length c1) (.slice a2 S.opn.length c2) (.slice a3 S.made.length c3) ev:=off_of ⟨fun e=>by have:=HCe.out.os.ino.lt _ e;omega,fun e=>by have:=HCe.out.os.opn.lt _ e;omega,fun e=>by have:=HCe.out.os.mad.lt _ e;omega,fun v hv e=>by
      obtain ⟨i,hi,rfl⟩:=List.getElem_of_mem hv
      have:=(HCe.out.os.ent i (by rw [← HCe.out.os.evl];exact hi) hi).lt _ e;omega⟩
     have h1:=HB1.out.k.size
     exact ⟨(HCe.out.os.keep kk hoff).less (by have:=HX0.out;omega),(HB1.out.k.trans HCe.out.k (by simp)).trans kk (fun x hx=>by rw [List.mem_singleton] at hx;subst hx;right;have:=HX0.out;omega)⟩
    have HW9:Hid (_):=hW9
    clear hW9 kk hres HCe HJ
    go_wp2_with fail
    (try simp only [Exit.inBlock,Exit.then])
    rw [HW9.out]
    refine bodyPost_ret (results_cell_row rfl _ _ (X+1) 27 #[.slice a1 S.ino.length c1,.slice a2 S.opn.length c2,.slice a3 S.made.length c3] (0,0) _ rfl h9 Tryz.underlying27 rfl (by kernel_rfl)) rfl ?_
    exact ⟨_,_,_,rfl,⟨_,HOs.out.1⟩,HOs.out.2⟩
end Go.Proofs.YtffncojcnbhblaaGreatDoor
