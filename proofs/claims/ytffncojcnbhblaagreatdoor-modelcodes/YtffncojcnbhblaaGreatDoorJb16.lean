/-
  Joined of my texts Dl Df.
-/
import Derived.Test.YtffncojcnbhblaaGreatDoorJb15
import Derived.Test.YtffncojcnbhblaaGreatDoorTk
set_option linter.unusedVariables false
set_option linter.unusedSimpArgs false
set_option maxRecDepth 100000
set_option maxHeartbeats 8000000
namespace Go.Proofs.YtffncojcnbhblaaGreatDoor
open List renaming setIfInBounds_toArray → lz0, set_cons_zero → lz1, set_cons_succ → lz2, getElem_toArray → lz3, getElem_cons_zero → lz4, getElem_cons_succ → lz5
open Go.RowKit
theorem run_append_in {P:Program} (w:World) (t ty e:TypeId) (i:TypeInfo) (k:Nat) (ht:P.underlying t=some (.slice e)) (hi:P.info? e=some i) (hk:i.size=k) (g sLen sCap:Nat) (a:Addr) (n c:Nat) (cs:List Value) (cur:Array Value) (T:TypeId)
  (hg:w.heap[g]?=some (.cells cur T (0,0))) (hl:cs.length=n*k) (hsrc:∀ j v,cs[j]?=some v→w.cell? (a.add j)=some v) (hroom:sLen+n≤sCap) (hfit:sLen*k+cs.length≤cur.size) (h1:∀ v∈cs,v.oneCell'=true) :
  (Builtin.append_ #[t,t] ty #[.slice (some ⟨g,0,none⟩) sLen sCap,.slice (some a) n c]).run P w=.ok (.slice (some ⟨g,0,none⟩) (sLen+n) sCap) (w.setRow g (cur.toList.take (sLen*k) ++ cs ++ cur.toList.drop (sLen*k+cs.length)).toArray):=by
 have hfo:=run_firstCells_some (P:=P) w k n a n c cs (by simpa using hl) hsrc
 have hst:=run_storeCells_at P g (sLen*k) T cs 0 cur w hg (by simpa using hfit) h1
 simp only [Nat.add_zero] at hst
 simp [Builtin.append_,run_underlying ht,sizeOf,typeInfo,hi,hk,hroom,hfo,Addr.add_lit,hst,Builtin.lenOf]
theorem step_append_run9 {P:Program} {ops:Array Oper} {o:Oper} {a:Act} {w:World} {K:Act→World→Prop} {Q:Exit→Act→World→Prop} {E:Prop} (hg:o.guard=none) (s x:Operand) (t1 t2:TypeId)
  (hop:o.op=Op.call { callee:=Callee.builtin Builtin.append,args:=#[s,x],argTypes:=#[t1,t2] }) (v u:Value) (hs:a.eval s=v) (hx:a.eval x=u) (v':Value) (w':World)
  (hrun:(Builtin.append_ #[t1,t2] o.type #[v,u]).run P w=.ok v' w') (hK:K (a.put o.dst v') w'):if Region.wanted o (yielded ops a.tmps)=true then Oper.wp P o a w K Q else E:=by
 have hw:Region.wanted o (yielded ops a.tmps)=true:=by simp [Region.wanted,hg]
 rw [if_pos hw]
 unfold Oper.wp
 simp [execOp,hop,resolve,invoke,builtin,hs,hx,hrun,Result.andThen]
 exact hK
theorem wpList_clear_run {P:Program} (w:World) {ops:Array Oper} {rest:List Oper} {o:Oper} {a:Act} {Q:Exit→Act→World→Prop} (hgd:o.guard=none) (s:Operand) (t1:TypeId)
  (ho:o.op=.call { callee:=.builtin .clear,args:=#[s],argTypes:=#[t1] }) (v:Value) (hs:a.eval s=v) (v':Value) (w':World)
  (hr:(Builtin.clear_ #[t1] o.type #[v]).run P w=.ok v' w') (h:wpList P ops Q rest (a.put o.dst v') w'):wpList P ops Q (o :: rest) a w:=by
 refine wpList_plain hgd fun K hK=>?_
 unfold Oper.wp execOp
 simp only [ho,resolve,invoke,builtin,Sem.run_bind,Sem.run_pure,Result.andThen_ok,List.map_toArray,List.map_cons,List.map_nil,hs,hr]
 exact hK _ _ h
theorem run_clear_one {P:Program} (w:World) (t e ty:TypeId) (z:Value) (k:Nat) (ht:P.underlying t=some (.slice e)) (hz:∀ w,(zeroValue e).run P w=.ok z w) (hzs:z.cells.size=k) (h1:∀ v∈z.cells.toList,v.oneCell'=true) (g o c:Nat) (cur:Array Value) (T:TypeId)
  (hg:w.heap[g]?=some (.cells cur T (0,0))) (hfit:o+k≤cur.size) :
  (Builtin.clear_ #[t] ty #[.slice (some ⟨g,o,none⟩) 1 c]).run P w=.ok (.tuple #[]) (w.setRow g (cur.toList.take o ++ z.cells.toList ++ cur.toList.drop (o+k)).toArray):=by
 have hzc:(Builtin.zeroCells z.cells 1).toList=z.cells.toList:=by
  unfold Builtin.zeroCells
  apply List.ext_getElem
  · simp
  ·
   intro i h1 h2
   have:i < z.cells.size:=by simpa using h2
   simp [Nat.mod_eq_of_lt this,getElem!_pos,this]
 have hlen:z.cells.toList.length=k:=by simpa using hzs
 have hst:=run_storeCells_at P g o T z.cells.toList 0 cur w hg (by rw [hlen];simpa using hfit) h1
 rw [hlen] at hst
 simp only [Nat.add_zero] at hst
 simp [Builtin.clear_,run_underlying ht,hz,hzc,hst]
theorem take1 {A:List Value} {cs Z:List Value} {p k r:Nat} (hA:p+k+r≤A.length) (hc:cs.length=r) (hZ:Z.length=k) :
  ((A.take p ++ cs ++ A.drop (p+r)).take (p+r) ++ Z ++ (A.take p ++ cs ++ A.drop (p+r)).drop (p+r+k)).take (p+r)=A.take p ++ cs∧
  ((A.take p ++ cs ++ A.drop (p+r)).take (p+r) ++ Z ++ (A.take p ++ cs ++ A.drop (p+r)).drop (p+r+k)).length=A.length∧
  (A.take p ++ cs ++ A.drop (p+r)).length=A.length:=by
 have hp:(A.take p).length=p:=by rw [List.length_take];omega
 have hpc:(A.take p ++ cs).length=p+r:=by rw [List.length_append,hp,hc]
 have h1:(A.take p ++ cs ++ A.drop (p+r)).take (p+r)=A.take p ++ cs:=by
  rw [List.take_append_of_le_length (by omega),List.take_of_length_le (by omega)]
 have h3:(A.take p ++ cs ++ A.drop (p+r)).length=A.length:=by
  rw [List.length_append,hpc,List.length_drop];omega
 refine ⟨?_,?_,h3⟩
 · rw [h1,List.append_assoc,List.take_append_of_le_length (by omega),List.take_of_length_le (by omega)]
 · rw [h1,List.length_append,List.length_append,hpc,hZ,List.length_drop,h3];omega
theorem zv_Desc (w:World):(zeroValue 83).run Tryz.prog w=.ok (.agg #[.int .i64 0,.int .i64 0,.int .i64 0]) w:=by kernel_rfl
theorem del_Desc {w:World} {H g n cap:Nat} {xs:List Value} (h:w.ownsRow H 83 3 (.slice (some ⟨g,0,none⟩) n cap) n xs) (h1:∀ u∈xs,u.oneCell'=true) (i:Nat) (hi:i < n) (hn:n≤5864062014634) :
  Calls Tryz.prog 138 #[.slice (some ⟨g,0,none⟩) n cap,.int .i64 (i:Int),.int .i64 ((i:Int)+1)] w fun e w'=>e=.returned (.slice (some ⟨g,0,none⟩) (n - 1) cap)∧w'.ownsRow H 83 3 (.slice (some ⟨g,0,none⟩) (n - 1) cap) (n - 1) (xs.take (i*3) ++ xs.drop ((i+1)*3))∧Kept [g] w w':=by
 rcases h.2 with ⟨-,e2⟩ | ⟨g',cap',cur,hv,hHg,hgg,hnc,hcm,hcs,htk⟩
 · omega
 simp only [Value.slice.injEq,Option.some.injEq,Addr.mk.injEq,and_true,true_and] at hv
 obtain ⟨e1,e2⟩:=hv
 subst e1 e2
 obtain ⟨i0,hi0,hz0,hz1,hz2⟩:=info_parts info_Desc
 obtain ⟨m,hm⟩:∃ m,n=i+1+m:=⟨n - (i+1),by omega⟩
 have hlx:xs.length=n*3:=h.1
 have hAl:cur.toList.length=cap*3:=by simpa using hcs
 obtain ⟨cs,hcs2⟩:∃ cs,xs.drop ((i+1)*3)=cs:=⟨_,rfl⟩
 have hcl:cs.length=m*3:=by rw [← hcs2,List.length_drop,hlx];omega
 have h1c:∀ u∈cs,u.oneCell'=true:=fun u hu=>h1 u (List.mem_of_mem_drop (hcs2 ▸ hu))
 have hsrc:∀ (a:Addr),(0 < m→a=⟨g,(i+1)*3,none⟩)→∀ j v,cs[j]?=some v→w.drew.cell? (a.add j)=some v:=fun a ha j v hj=>by
  have hjl:j < cs.length:=by
   rcases Nat.lt_or_ge j cs.length with h | h
   · exact h
   · rw [List.getElem?_eq_none h] at hj;cases hj
  rw [ha (by omega),add_lit]
  show w.cell? _=_
  rw [cellB hgg]
  rw [← hcs2,List.getElem?_drop,← htk,List.getElem?_take_of_lt (by omega)] at hj
  simpa using hj
 obtain ⟨A,hA⟩:∃ A,cur.toList=A:=⟨_,rfl⟩
 have ap:∀ (a:Addr) (c:Nat),(0 < m→a=⟨g,(i+1)*3,none⟩)→(Builtin.append_ #[24,24] 24 #[.slice (some ⟨g,0,none⟩) i cap,.slice (some a) m c]).run Tryz.prog w.drew=.ok (.slice (some ⟨g,0,none⟩) (i+m) cap) (w.drew.setRow g (A.take (i*3) ++ cs ++ A.drop (i*3+m*3)).toArray):=fun a c ha=>by
  have:=run_append_in (P:=Tryz.prog) w.drew 24 24 83 i0 3 Tryz.underlying24 hi0 hz1 g i cap a m c cs cur 83 hgg hcl (hsrc a ha) (by omega) (by rw [hcl];simp only [Array.size_eq_length_toList] at *;omega) h1c
  rw [hA,hcl] at this
  exact this
 obtain ⟨q1,q2,q3⟩:=take1 (A:=A) (cs:=cs) (Z:=((.agg #[.int .i64 0,.int .i64 0,.int .i64 0]):Value).cells.toList) (p:=i*3) (k:=3) (r:=m*3) (by rw [← hA,hAl];omega) hcl (by simp [Value.cells])
 obtain ⟨A1,hA1⟩:∃ A1,A.take (i*3) ++ cs ++ A.drop (i*3+m*3)=A1:=⟨_,rfl⟩
 rw [hA1] at q1 q2 q3 ap
 obtain ⟨W1,hW1⟩:∃ W1,w.drew.setRow g A1.toArray=W1:=⟨_,rfl⟩
 have hg1:W1.heap[g]?=some (.cells A1.toArray 83 (0,0)):=by rw [← hW1];exact setRow_heap w.drew g cur _ _ _ hgg
 rw [hW1] at ap
 obtain ⟨A2,hA2⟩:∃ A2,A1.take (i*3+m*3) ++ ((.agg #[.int .i64 0,.int .i64 0,.int .i64 0]):Value).cells.toList ++ A1.drop (i*3+m*3+3)=A2:=⟨_,rfl⟩
 rw [hA2] at q1 q2
 have cl:∀ o c,o=i*3+m*3→(Builtin.clear_ #[24] 0 #[.slice (some ⟨g,o,none⟩) 1 c]).run Tryz.prog W1=.ok (.tuple #[]) (W1.setRow g A2.toArray):=fun o c ho=>by
  have:=run_clear_one (P:=Tryz.prog) W1 24 83 0 (.agg #[.int .i64 0,.int .i64 0,.int .i64 0]) 3 Tryz.underlying24 zv_Desc rfl (by intro v hv;simp [Value.cells] at hv;rcases hv with rfl | rfl | rfl <;> rfl) g o c A1.toArray 83 hg1 (by rw [ho];simp only [List.size_toArray];rw [q3,← hA,hAl];omega)
  rw [ho] at this ⊢
  rw [List.toList_toArray,hA2] at this
  exact this
 obtain ⟨W2,hW2⟩:∃ W2,W1.setRow g A2.toArray=W2:=⟨_,rfl⟩
 rw [hW2] at cl
 have HE:Hid (W2.ownsRow H 83 3 (.slice (some ⟨g,0,none⟩) (i+m) cap) (i+m) (xs.take (i*3) ++ cs)∧Kept [g] w W2):=by
  refine ⟨⟨?_,.inr ⟨g,cap,A2.toArray,rfl,hHg,?_,by omega,hcm,?_,?_⟩⟩,?_⟩
  · rw [List.length_append,List.length_take,hlx,hcl];omega
  · rw [← hW2];exact setRow_heap W1 g A1.toArray _ _ _ hg1
  · simp only [List.size_toArray];rw [q2,← hA];exact hcs
  · rw [List.toList_toArray,Nat.add_mul,q1,← htk,hA,List.take_take,Nat.min_eq_left (by omega)]
  ·
   rw [← hW2,← hW1]
   exact ((Kept.refl _ w).drew.setRow (Or.inl (by simp)) _).setRow (Or.inl (by simp)) _
 have HAp:Hid (∀ (a:Addr) (mm c:Nat),mm=m→(0 < m→a=⟨g,(i+1)*3,none⟩)→(Builtin.append_ #[24,24] 24 #[.slice (some ⟨g,0,none⟩) i cap,.slice (some a) mm c]).run Tryz.prog w.drew=.ok (.slice (some ⟨g,0,none⟩) (i+m) cap) W1):=fun a mm c hmm ha=>by subst hmm;exact ap a c ha
 have HCl:Hid (∀ o l c,l=1→o=i*3+m*3→(Builtin.clear_ #[24] 0 #[.slice (some ⟨g,o,none⟩) l c]).run Tryz.prog W1=.ok (.tuple #[]) W2):=fun o l c hl ho=>by subst hl;exact cl o c ho
 obtain ⟨q,hq⟩:∃ q,i+m=q:=⟨_,rfl⟩
 rw [hq] at HAp HE
 have HQ:Hid (n=q+1∧m=n - (i+1)∧q*3=i*3+m*3):=⟨by omega,by omega,by rw [← hq];omega⟩
 have HE2:Hid (xs.drop ((i+1)*3)=cs∧n - 1=q):=⟨hcs2,by omega⟩
 have i1:(0:Int)≤(i:Int):=by omega
 have i2:(i:Int)≤(i:Int)+1:=by omega
 have i3:(i:Int)+1≤(n:Int):=by omega
 have i4:(n:Int)≤(cap:Int):=by omega
 have i5:¬ (i:Int)=(i:Int)+1:=by omega
 have i6:((i:Int) == (i:Int)+1)=false:=by simpa using i5
 have i7:¬ n=i:=by omega
 have i8:(0:Int)≤(i:Int)+1:=by omega
 have i9:((i:Int)+1).toNat=i+1:=by omega
 have j1:(q:Int)≤(n:Int):=by omega
 have j2:(0:Int)≤(q:Int):=by omega
 have j3:¬ cap=q:=by omega
 have j4:i≤cap:=by omega
 have j5:(i:Int)≤(cap:Int):=by omega
 have hcap:cap≤9223372036854775807:=by unfold maxLen at hcm;omega
 clear h h1 hi hn hHg hgg hcm hcs htk hi0 hz0 hz1 hz2 hlx hAl hcl h1c hsrc hA q1 q2 q3 hA1 hW1 hg1 hA2 hW2 ap cl hq hm hcs2
 go_enter Tryz.func138,Tryz.ntmps138
 go_upto_region 5 with fail
 by_cases hc:cap=i+1
 ·
  subst hc
  have k3:¬ i+1=q:=j3
  refine wp_region_held_drew (S:=fun w'=>True) (by kernel_rfl) ?_ (fun hHeld=>?_)
  · trivial
  refine tkA 0 rfl ?_
  refine tkA 1 rfl ?_
  refine tkA 2 rfl ?_
  refine tkA 3 rfl ?_
  refine tkA 4 rfl ?_
  refine tkA 5 rfl ?_
  refine wpAnyH_ready (rs:=[6]) (by kernel_rfl) (by simp) ?_
  refine AllReadyH.cons rfl (fun K hK=>?_) AllReadyH.nil
  refine step_append_run9 (by rfl) _ _ 24 24 (by rfl) _ _ (by rfl) (by rfl) _ _ (HAp.out _ _ _ (by have:=HQ.out;omega) (fun h=>by first | rfl | (exfalso;have:=HQ.out;omega))) ?_
  refine hK.out _ _ ?_ (fun hHeld=>?_)
  · trivial
  clear hK K
  try simp only [Act.put,lz0,lz1,lz2,lz3,lz4,lz5]
  refine tkA 7 rfl ?_
  refine wpAnyH_done (by kernel_rfl) ?_ _
  have hcl:=HCl.out (q*3) (n - q) (i+1 - q) (by have:=HQ.out.1;omega) HQ.out.2.2
  go_wp2_with (first
   | (at_builtin;refine wpList_clear_run _ rfl _ 24 rfl _ rfl _ _ hcl ?_))
  go_ret
  exact ⟨by rw [HE2.out.2];rfl,by rw [HE2.out.1,HE2.out.2];exact HE.out.1,HE.out.2⟩
 ·
  skip
  refine wp_region_held_drew (S:=fun w'=>True) (by kernel_rfl) ?_ (fun hHeld=>?_)
  · trivial
  refine tkA 0 rfl ?_
  refine tkA 1 rfl ?_
  refine tkA 2 rfl ?_
  refine tkA 3 rfl ?_
  refine tkA 4 rfl ?_
  refine tkA 5 rfl ?_
  refine wpAnyH_ready (rs:=[6]) (by kernel_rfl) (by simp) ?_
  refine AllReadyH.cons rfl (fun K hK=>?_) AllReadyH.nil
  refine step_append_run9 (by rfl) _ _ 24 24 (by rfl) _ _ (by rfl) (by rfl) _ _ (HAp.out _ _ _ (by have:=HQ.out;omega) (fun h=>by first | rfl | (exfalso;have:=HQ.out;omega))) ?_
  refine hK.out _ _ ?_ (fun hHeld=>?_)
  · trivial
  clear hK K
  try simp only [Act.put,lz0,lz1,lz2,lz3,lz4,lz5]
  refine tkA 7 rfl ?_
  refine wpAnyH_done (by kernel_rfl) ?_ _
  have hcl:=HCl.out (q*3) (n - q) (cap - q) (by have:=HQ.out.1;omega) HQ.out.2.2
  go_wp2_with (first
   | (at_builtin;refine wpList_clear_run _ rfl _ 24 rfl _ rfl _ _ hcl ?_))
  go_ret
  exact ⟨by rw [HE2.out.2];rfl,by rw [HE2.out.1,HE2.out.2];exact HE.out.1,HE.out.2⟩
theorem zv_Entry (w:World):(zeroValue 64).run Tryz.prog w=.ok (.agg #[.string ⟨#[]⟩,.int .i64 0]) w:=by kernel_rfl
theorem del_Entry {w:World} {H g n cap:Nat} {xs:List Value} (h:w.ownsRow H 64 2 (.slice (some ⟨g,0,none⟩) n cap) n xs) (h1:∀ u∈xs,u.oneCell'=true) (i:Nat) (hi:i < n) (hn:n≤5864062014634) :
  Calls Tryz.prog 157 #[.slice (some ⟨g,0,none⟩) n cap,.int .i64 (i:Int),.int .i64 ((i:Int)+1)] w fun e w'=>e=.returned (.slice (some ⟨g,0,none⟩) (n - 1) cap)∧w'.ownsRow H 64 2 (.slice (some ⟨g,0,none⟩) (n - 1) cap) (n - 1) (xs.take (i*2) ++ xs.drop ((i+1)*2))∧Kept [g] w w':=by
 rcases h.2 with ⟨-,e2⟩ | ⟨g',cap',cur,hv,hHg,hgg,hnc,hcm,hcs,htk⟩
 · omega
 simp only [Value.slice.injEq,Option.some.injEq,Addr.mk.injEq,and_true,true_and] at hv
 obtain ⟨e1,e2⟩:=hv
 subst e1 e2
 obtain ⟨i0,hi0,hz0,hz1,hz2⟩:=info_parts info_Entry
 obtain ⟨m,hm⟩:∃ m,n=i+1+m:=⟨n - (i+1),by omega⟩
 have hlx:xs.length=n*2:=h.1
 have hAl:cur.toList.length=cap*2:=by simpa using hcs
 obtain ⟨cs,hcs2⟩:∃ cs,xs.drop ((i+1)*2)=cs:=⟨_,rfl⟩
 have hcl:cs.length=m*2:=by rw [← hcs2,List.length_drop,hlx];omega
 have h1c:∀ u∈cs,u.oneCell'=true:=fun u hu=>h1 u (List.mem_of_mem_drop (hcs2 ▸ hu))
 have hsrc:∀ (a:Addr),(0 < m→a=⟨g,(i+1)*2,none⟩)→∀ j v,cs[j]?=some v→w.drew.cell? (a.add j)=some v:=fun a ha j v hj=>by
  have hjl:j < cs.length:=by
   rcases Nat.lt_or_ge j cs.length with h | h
   · exact h
   · rw [List.getElem?_eq_none h] at hj;cases hj
  rw [ha (by omega),add_lit]
  show w.cell? _=_
  rw [cellB hgg]
  rw [← hcs2,List.getElem?_drop,← htk,List.getElem?_take_of_lt (by omega)] at hj
  simpa using hj
 obtain ⟨A,hA⟩:∃ A,cur.toList=A:=⟨_,rfl⟩
 have ap:∀ (a:Addr) (c:Nat),(0 < m→a=⟨g,(i+1)*2,none⟩)→(Builtin.append_ #[60,60] 60 #[.slice (some ⟨g,0,none⟩) i cap,.slice (some a) m c]).run Tryz.prog w.drew=.ok (.slice (some ⟨g,0,none⟩) (i+m) cap) (w.drew.setRow g (A.take (i*2) ++ cs ++ A.drop (i*2+m*2)).toArray):=fun a c ha=>by
  have:=run_append_in (P:=Tryz.prog) w.drew 60 60 64 i0 2 Tryz.underlying60 hi0 hz1 g i cap a m c cs cur 64 hgg hcl (hsrc a ha) (by omega) (by rw [hcl];simp only [Array.size_eq_length_toList] at *;omega) h1c
  rw [hA,hcl] at this
  exact this
 obtain ⟨q1,q2,q3⟩:=take1 (A:=A) (cs:=cs) (Z:=((.agg #[.string ⟨#[]⟩,.int .i64 0]):Value).cells.toList) (p:=i*2) (k:=2) (r:=m*2) (by rw [← hA,hAl];omega) hcl (by simp [Value.cells])
 obtain ⟨A1,hA1⟩:∃ A1,A.take (i*2) ++ cs ++ A.drop (i*2+m*2)=A1:=⟨_,rfl⟩
 rw [hA1] at q1 q2 q3 ap
 obtain ⟨W1,hW1⟩:∃ W1,w.drew.setRow g A1.toArray=W1:=⟨_,rfl⟩
 have hg1:W1.heap[g]?=some (.cells A1.toArray 64 (0,0)):=by rw [← hW1];exact setRow_heap w.drew g cur _ _ _ hgg
 rw [hW1] at ap
 obtain ⟨A2,hA2⟩:∃ A2,A1.take (i*2+m*2) ++ ((.agg #[.string ⟨#[]⟩,.int .i64 0]):Value).cells.toList ++ A1.drop (i*2+m*2+2)=A2:=⟨_,rfl⟩
 rw [hA2] at q1 q2
 have cl:∀ o c,o=i*2+m*2→(Builtin.clear_ #[60] 0 #[.slice (some ⟨g,o,none⟩) 1 c]).run Tryz.prog W1=.ok (.tuple #[]) (W1.setRow g A2.toArray):=fun o c ho=>by
  have:=run_clear_one (P:=Tryz.prog) W1 60 64 0 (.agg #[.string ⟨#[]⟩,.int .i64 0]) 2 Tryz.underlying60 zv_Entry rfl (by intro v hv;simp [Value.cells] at hv;rcases hv with rfl | rfl <;> rfl) g o c A1.toArray 64 hg1 (by rw [ho];simp only [List.size_toArray];rw [q3,← hA,hAl];omega)
  rw [ho] at this ⊢
  rw [List.toList_toArray,hA2] at this
  exact this
 obtain ⟨W2,hW2⟩:∃ W2,W1.setRow g A2.toArray=W2:=⟨_,rfl⟩
 rw [hW2] at cl
 have HE:Hid (W2.ownsRow H 64 2 (.slice (some ⟨g,0,none⟩) (i+m) cap) (i+m) (xs.take (i*2) ++ cs)∧Kept [g] w W2):=by
  refine ⟨⟨?_,.inr ⟨g,cap,A2.toArray,rfl,hHg,?_,by omega,hcm,?_,?_⟩⟩,?_⟩
  · rw [List.length_append,List.length_take,hlx,hcl];omega
  · rw [← hW2];exact setRow_heap W1 g A1.toArray _ _ _ hg1
  · simp only [List.size_toArray];rw [q2,← hA];exact hcs
  · rw [List.toList_toArray,Nat.add_mul,q1,← htk,hA,List.take_take,Nat.min_eq_left (by omega)]
  ·
   rw [← hW2,← hW1]
   exact ((Kept.refl _ w).drew.setRow (Or.inl (by simp)) _).setRow (Or.inl (by simp)) _
 have HAp:Hid (∀ (a:Addr) (mm c:Nat),mm=m→(0 < m→a=⟨g,(i+1)*2,none⟩)→(Builtin.append_ #[60,60] 60 #[.slice (some ⟨g,0,none⟩) i cap,.slice (some a) mm c]).run Tryz.prog w.drew=.ok (.slice (some ⟨g,0,none⟩) (i+m) cap) W1):=fun a mm c hmm ha=>by subst hmm;exact ap a c ha
 have HCl:Hid (∀ o l c,l=1→o=i*2+m*2→(Builtin.clear_ #[60] 0 #[.slice (some ⟨g,o,none⟩) l c]).run Tryz.prog W1=.ok (.tuple #[]) W2):=fun o l c hl ho=>by subst hl;exact cl o c ho
 obtain ⟨q,hq⟩:∃ q,i+m=q:=⟨_,rfl⟩
 rw [hq] at HAp HE
 have HQ:Hid (n=q+1∧m=n - (i+1)∧q*2=i*2+m*2):=⟨by omega,by omega,by rw [← hq];omega⟩
 have HE2:Hid (xs.drop ((i+1)*2)=cs∧n - 1=q):=⟨hcs2,by omega⟩
 have i1:(0:Int)≤(i:Int):=by omega
 have i2:(i:Int)≤(i:Int)+1:=by omega
 have i3:(i:Int)+1≤(n:Int):=by omega
 have i4:(n:Int)≤(cap:Int):=by omega
 have i5:¬ (i:Int)=(i:Int)+1:=by omega
 have i6:((i:Int) == (i:Int)+1)=false:=by simpa using i5
 have i7:¬ n=i:=by omega
 have i8:(0:Int)≤(i:Int)+1:=by omega
 have i9:((i:Int)+1).toNat=i+1:=by omega
 have j1:(q:Int)≤(n:Int):=by omega
 have j2:(0:Int)≤(q:Int):=by omega
 have j3:¬ cap=q:=by omega
 have j4:i≤cap:=by omega
 have j5:(i:Int)≤(cap:Int):=by omega
 have hcap:cap≤9223372036854775807:=by unfold maxLen at hcm;omega
 clear h h1 hi hn hHg hgg hcm hcs htk hi0 hz0 hz1 hz2 hlx hAl hcl h1c hsrc hA q1 q2 q3 hA1 hW1 hg1 hA2 hW2 ap cl hq hm hcs2
 go_enter Tryz.func157,Tryz.ntmps157
 go_upto_region 5 with fail
 by_cases hc:cap=i+1
 ·
  subst hc
  have k3:¬ i+1=q:=j3
  refine wp_region_held_drew (S:=fun w'=>True) (by kernel_rfl) ?_ (fun hHeld=>?_)
  · trivial
  refine tkA 0 rfl ?_
  refine tkA 1 rfl ?_
  refine tkA 2 rfl ?_
  refine tkA 3 rfl ?_
  refine tkA 4 rfl ?_
  refine tkA 5 rfl ?_
  refine wpAnyH_ready (rs:=[6]) (by kernel_rfl) (by simp) ?_
  refine AllReadyH.cons rfl (fun K hK=>?_) AllReadyH.nil
  refine step_append_run9 (by rfl) _ _ 60 60 (by rfl) _ _ (by rfl) (by rfl) _ _ (HAp.out _ _ _ (by have:=HQ.out;omega) (fun h=>by first | rfl | (exfalso;have:=HQ.out;omega))) ?_
  refine hK.out _ _ ?_ (fun hHeld=>?_)
  · trivial
  clear hK K
  try simp only [Act.put,lz0,lz1,lz2,lz3,lz4,lz5]
  refine tkA 7 rfl ?_
  refine wpAnyH_done (by kernel_rfl) ?_ _
  have hcl:=HCl.out (q*2) (n - q) (i+1 - q) (by have:=HQ.out.1;omega) HQ.out.2.2
  go_wp2_with (first
   | (at_builtin;refine wpList_clear_run _ rfl _ 60 rfl _ rfl _ _ hcl ?_))
  go_ret
  exact ⟨by rw [HE2.out.2];rfl,by rw [HE2.out.1,HE2.out.2];exact HE.out.1,HE.out.2⟩
 ·
  skip
  refine wp_region_held_drew (S:=fun w'=>True) (by kernel_rfl) ?_ (fun hHeld=>?_)
  · trivial
  refine tkA 0 rfl ?_
  refine tkA 1 rfl ?_
  refine tkA 2 rfl ?_
  refine tkA 3 rfl ?_
  refine tkA 4 rfl ?_
  refine tkA 5 rfl ?_
  refine wpAnyH_ready (rs:=[6]) (by kernel_rfl) (by simp) ?_
  refine AllReadyH.cons rfl (fun K hK=>?_) AllReadyH.nil
  refine step_append_run9 (by rfl) _ _ 60 60 (by rfl) _ _ (by rfl) (by rfl) _ _ (HAp.out _ _ _ (by have:=HQ.out;omega) (fun h=>by first | rfl | (exfalso;have:=HQ.out;omega))) ?_
  refine hK.out _ _ ?_ (fun hHeld=>?_)
  · trivial
  clear hK K
  try simp only [Act.put,lz0,lz1,lz2,lz3,lz4,lz5]
  refine tkA 7 rfl ?_
  refine wpAnyH_done (by kernel_rfl) ?_ _
  have hcl:=HCl.out (q*2) (n - q) (cap - q) (by have:=HQ.out.1;omega) HQ.out.2.2
  go_wp2_with (first
   | (at_builtin;refine wpList_clear_run _ rfl _ 60 rfl _ rfl _ _ hcl ?_))
  go_ret
  exact ⟨by rw [HE2.out.2];rfl,by rw [HE2.out.1,HE2.out.2];exact HE.out.1,HE.out.2⟩
theorem k_drop {w:World} (z num:Int) (d:Bool) (v:Value) (s:ByteArray) (hv:∃ a n c,v=.slice a n c) (X:Nat) (hX:w.cell? ⟨X,0,none⟩=some (.int .i64 num)) :
  Calls Tryz.prog 156 #[.agg #[.int .i64 z,.bool d,v,.string s],.pointer (some ⟨X,0,none⟩)] w fun e w'=>e=.returned (.bool (z == num))∧Kept [] w w':=by
 obtain ⟨a,n,c,rfl⟩:=hv
 obtain ⟨W0,hW0⟩:∃ W0,W0=w.alloc (.cells #[.int .i64 z,.bool d,.slice a n c,.string s] 62 (0,0)):=⟨_,rfl⟩
 have k0:Hid (Kept [] w W0):=by rw [hW0];exact (Kept.refl [] w).alloc _
 have c0:W0.cell? ⟨w.heap.size,0,none⟩=some (.int .i64 z):=by rw [hW0];exact cell_new _ _ _ _
 have c1:W0.cell? ⟨X,0,none⟩=some (.int .i64 num):=k0.out.cell hX (by simp)
 have HW:Hid (_):=hW0.symm
 clear hW0
 go_enter Tryz.func156,Tryz.ntmps156
 go_upto_region 1 with fail
 rw [HW.out]
 clear HW
 go_wp2_with fail
 go_ret
 exact ⟨rfl,k0.out⟩
theorem ix_drop {w:World} {a:Option Addr} {L:List Ino} (hL:InoA w a L) (hn:L.length≤lim) (c:Nat) (num:Int) (X:Nat) (hX:w.cell? ⟨X,0,none⟩=some (.int .i64 num)) :
  Calls Tryz.prog 72 #[.slice a L.length c,.func (.func 156) #[] #[.pointer (some ⟨X,0,none⟩)]] w fun e w'=>e=.returned (.int .i64 (ixI (atR L num)))∧Kept [] w w':=by
 have HL:Hid (InoA w a L):=hL
 have HX:Hid (_):=hX
 unfold lim at hn
 clear hL hX
 go_enter Tryz.func72,Tryz.ntmps72
 go_wp2_with fail
 go_loopw [8] (fun i wr=>∃ n:Nat,i=.int .i64 (n:Int)∧n≤L.length∧Hid (Kept [] w wr∧∀ j (hj:j < L.length),j < n→(L[j]).num≠num)) (fun i _=>(L.length - intOf i).toNat)
 case atStart=>exact ⟨0,rfl,by omega,Kept.refl _ _,fun j _ hj=>by omega⟩
 case round=>
  obtain ⟨n,rfl,hn,HJ⟩:=hrel
  by_cases hlt:n < L.length
  ·
   have i0:(0:Int)≤(n:Int):=by omega
   have i1:(n:Int) < (L.length:Int):=by omega
   obtain ⟨b,o,ae,ce,ha,h1,h2,h3,h4,-⟩:=(HL.out.kept HJ.out.1) n hlt
   subst ha
   have HX2:Hid (wr.cell? ⟨X,0,none⟩=some (.int .i64 num)):=HJ.out.1.cell HX.out (by simp)
   obtain ⟨z,hz⟩:∃ z,(L[n]).num=z:=⟨_,rfl⟩
   obtain ⟨dd,hdd⟩:∃ dd,(L[n]).dir=dd:=⟨_,rfl⟩
   obtain ⟨el,hel⟩:∃ el,(L[n]).ents.length=el:=⟨_,rfl⟩
   obtain ⟨da,hda⟩:∃ da,(L[n]).data=da:=⟨_,rfl⟩
   have HZ:Hid (_):=hz
   rw [hz] at h1
   rw [hdd] at h2
   rw [hel] at h3
   rw [hda] at h4
   clear hz hdd hel hda
   go_wp2_with fail
   refine (k_drop z num dd _ da ⟨_,_,_,rfl⟩ X HX2.out).mono ?_
   rintro e w1 ⟨rfl,k1⟩
   have HK:Hid (Kept [] w w1):=HJ.out.1.trans k1 (by simp)
   clear k1
   by_cases he:z=num
   ·
    have HE:Hid (atR L num=some n):=at_some hlt (HZ.out.trans he) HJ.out.2
    subst he
    clear HJ
    have ht:(z == z)=true:=by simp
    rw [ht]
    go_wp2_with fail
    go_ret
    exact ⟨ret_int (by rw [HE.out];rfl),HK.out⟩
   ·
    have HE:Hid (Kept [] w w1∧∀ j (hj:j < L.length),j < n+1→(L[j]).num≠num):=⟨HK.out,fun j hj hjn=>by
     by_cases e:j=n
     · subst e;rw [HZ.out];exact he
     · exact HJ.out.2 j hj (by omega)⟩
    have e1:(z == num)=false:=by simpa using he
    rw [e1]
    clear HJ HK
    go_wp2_with fail
    go_roundw
    case rel=>exact ⟨n+1,by go_num,by omega,HE.out⟩
    case measure=>simp [intOf];omega
  ·
   have i1:¬ (n:Int) < (L.length:Int):=by omega
   have HE:Hid (atR L num=none):=at_none fun j hj=>HJ.out.2 j hj (by omega)
   go_wp2_with fail
   go_ret
   exact ⟨ret_int (by rw [HE.out];rfl),HJ.out.1⟩
theorem zv_Inode (w:World):(zeroValue 62).run Tryz.prog w=.ok (.agg #[.int .i64 0,.bool false,.slice none 0 0,.string ⟨#[]⟩]) w:=by kernel_rfl
theorem shift4 {A C:List Value} {k j N:Nat} (hN:A.length=N) (hC:C.length=N) (h:∀ q,C[q]?=if k*4≤q∧q < (j - 1)*4 then A[q+4]? else A[q]?) (hk:k < j) {u0 u1 u2 u3:Value} (hj:j*4+3 < N)
  (h0:A[j*4]?=some u0) (h1:A[j*4+1]?=some u1) (h2:A[j*4+2]?=some u2) (h3:A[j*4+3]?=some u3) :
  ∀ q,((((C.set ((j - 1)*4) u0).set ((j - 1)*4+1) u1).set ((j - 1)*4+2) u2).set ((j - 1)*4+3) u3)[q]?=if k*4≤q∧q < (j+1 - 1)*4 then A[q+4]? else A[q]?:=by
 intro q
 simp only [List.getElem?_set,List.length_set,hC]
 by_cases e3:(j - 1)*4+3=q
 ·
  rw [if_pos e3,if_pos (by omega),if_pos (by omega),← e3,← h3]
  congr 1;omega
 rw [if_neg e3]
 by_cases e2:(j - 1)*4+2=q
 ·
  rw [if_pos e2,if_pos (by omega),if_pos (by omega),← e2,← h2]
  congr 1;omega
 rw [if_neg e2]
 by_cases e1:(j - 1)*4+1=q
 ·
  rw [if_pos e1,if_pos (by omega),if_pos (by omega),← e1,← h1]
  congr 1;omega
 rw [if_neg e1]
 by_cases e0:(j - 1)*4=q
 ·
  rw [if_pos e0,if_pos (by omega),if_pos (by omega),← e0,← h0]
  congr 1;omega
 rw [if_neg e0,h q]
 by_cases c:k*4≤q∧q < (j - 1)*4
 · rw [if_pos c,if_pos (by omega)]
 · rw [if_neg c,if_neg (by omega)]
structure Sf (w wr:World) (g k j:Nat) (A:List Value):Prop where
 kp:Kept [g] w wr
 here:∃ C:List Value,wr.heap[g]?=some (.cells C.toArray 62 (0,0))∧C.length=A.length∧∀ q,C[q]?=if k*4≤q∧q < (j - 1)*4 then A[q+4]? else A[q]?
theorem Sf.kept {w wr w':World} {g k j:Nat} {A:List Value} (h:Sf w wr g k j A) (kk:Kept [] wr w'):Sf w w' g k j A:=by
 obtain ⟨C,hC,h2,h3⟩:=h.here
 exact ⟨h.kp.trans kk (by simp),C,(kk.block g (lt_of_heap hC) (by simp)).trans hC,h2,h3⟩
theorem Sf.cell {w wr:World} {g k j:Nat} {A:List Value} (h:Sf w wr g k j A) {q:Nat} (hq:(j - 1)*4≤q) {v:Value} (hA:A[q]?=some v):wr.cell? ⟨g,q,none⟩=some v:=by
 obtain ⟨C,hC,-,h3⟩:=h.here
 rw [cellB hC]
 have:=h3 q
 rw [if_neg (by omega)] at this
 simpa [hA] using this
theorem Sf.frozen {w wr:World} {g k j:Nat} {A:List Value} (h:Sf w wr g k j A) (i:Nat):wr.frozen? ⟨g,i,none⟩=false:=by
 obtain ⟨C,hC,-⟩:=h.here
 exact frozen_of hC i
theorem Sf.next {w wr:World} {g k j:Nat} {A:List Value} (h:Sf w wr g k j A) (hk:k < j) {u0 u1 u2 u3:Value} (hj:j*4+3 < A.length) (h0:A[j*4]?=some u0) (h1:A[j*4+1]?=some u1) (h2:A[j*4+2]?=some u2) (h3:A[j*4+3]?=some u3) :
  Sf w ((((wr.setCell ⟨g,(j - 1)*4,none⟩ u0).setCell ⟨g,(j - 1)*4+1,none⟩ u1).setCell ⟨g,(j - 1)*4+2,none⟩ u2).setCell ⟨g,(j - 1)*4+3,none⟩ u3) g k (j+1) A:=by
 obtain ⟨C,hC,hl,hq⟩:=h.here
 refine ⟨(((h.kp.setCell (Or.inl (by simp)) _).setCell (Or.inl (by simp)) _).setCell (Or.inl (by simp)) _).setCell (Or.inl (by simp)) _,_,?_,?_,shift4 rfl hl hq hk hj h0 h1 h2 h3⟩
 ·
  rw [block_set (block_set (block_set (block_set hC _ _) _ _) _ _) _ _]
  simp
 · simp [hl]
theorem delf {w:World} {H g cap:Nat} {L:List Ino} {ev:List Value} (hev:ev.length=L.length) (hent:∀ i (hi:i < L.length) (hv:i < ev.length),∃ aE cE,ev[i]=.slice aE (L[i]).ents.length cE∧EntA w aE (L[i]).ents∧(L[i]).ents.length≤cE∧∀ y,aE=some y→∃ b o,y=⟨b,o,none⟩)
  (h:w.ownsRow H 62 4 (.slice (some ⟨g,0,none⟩) L.length cap) L.length (inoC L ev)) (hn:L.length≤2513169434843) (num:Int) (X:Nat) (hX:w.cell? ⟨X,0,none⟩=some (.int .i64 num)) (hXg:X≠g) {k:Nat} (hat:atR L num=some k) (hu:∀ j (hj:j < L.length),j≠k→(L[j]).num≠num) :
  Calls Tryz.prog 155 #[.slice (some ⟨g,0,none⟩) L.length cap,.func (.func 156) #[] #[.pointer (some ⟨X,0,none⟩)]] w fun e w'=>e=.returned (.slice (some ⟨g,0,none⟩) (L.length - 1) cap)∧w'.ownsRow H 62 4 (.slice (some ⟨g,0,none⟩) (L.length - 1) cap) (L.length - 1) (inoC (L.eraseIdx k) (ev.eraseIdx k))∧Kept [g] w w':=by
 rcases h.2 with ⟨hv,-⟩ | ⟨g',cap',cur,hv,hHg,hgg,hnc,hcm,hcs,htk⟩
 · cases hv
 simp only [Value.slice.injEq,Option.some.injEq,Addr.mk.injEq,and_true,true_and] at hv
 obtain ⟨e1,e2⟩:=hv
 subst e1 e2
 obtain ⟨hkl,hkn⟩:=at_get hat
 obtain ⟨N,hN⟩:∃ N,L.length=N:=⟨_,rfl⟩
 have hxl:(inoC L ev).length=N*4:=by rw [← hN];exact inoC_length hev
 obtain ⟨A,hA⟩:∃ A,cur.toList=A:=⟨_,rfl⟩
 have hAl:A.length=cap*4:=by rw [← hA];simpa using hcs
 have hAx:∀ q,q < N*4→A[q]?=(inoC L ev)[q]?:=fun q hq=>by
  rw [← htk,hA,List.getElem?_take_of_lt (by omega)]
 have HIno:Hid (InoA w (some ⟨g,0,none⟩) L):=fun i hi=>by
  have hvi:i < ev.length:=by omega
  obtain ⟨aE,cE,he,hE,hc,hf⟩:=hent i hi hvi
  obtain ⟨t0,t1,t2,t3⟩:=inoC_get hi hvi
  have cc:∀ q v,q < N*4→(inoC L ev)[q]?=some v→w.cell? ⟨g,q,none⟩=some v:=fun q v hq hv=>by
   rw [cellB hgg,← hv,← hAx q hq,← hA];simp
  exact ⟨g,0,aE,cE,rfl,by rw [Nat.zero_add];exact cc _ _ (by omega) t0,by rw [Nat.zero_add];exact cc _ _ (by omega) t1,by rw [Nat.zero_add];exact cc _ _ (by omega) (by rw [t2,he]),by rw [Nat.zero_add];exact cc _ _ (by omega) t3,hE,hc,trivial⟩
 have HAt:Hid (atR L num=some k∧L.length≤lim):=⟨hat,by unfold lim;omega⟩
 have HX:Hid (w.cell? ⟨X,0,none⟩=some (.int .i64 num)∧X≠g):=⟨hX,hXg⟩
 have HEl:Hid (∀ j (hj:j < L.length),∃ z d a c s,A[j*4]?=some (.int .i64 z)∧A[j*4+1]?=some (.bool d)∧A[j*4+2]?=some (.slice a (L[j]).ents.length c)∧A[j*4+3]?=some (.string s)∧(j≠k→(z == num)=false)):=fun j hj=>by
  have hvj:j < ev.length:=by omega
  obtain ⟨aE,cE,he,-⟩:=hent j hj hvj
  obtain ⟨t0,t1,t2,t3⟩:=inoC_get hj hvj
  exact ⟨_,_,aE,cE,_,by rw [hAx _ (by omega)];exact t0,by rw [hAx _ (by omega)];exact t1,by rw [hAx _ (by omega),t2,he],by rw [hAx _ (by omega)];exact t3,fun hne=>by simpa using hu j hj hne⟩
 have HS0:Hid (Sf w w g k (k+1) A):=⟨Kept.refl _ _,A,by rw [hgg,← hA],rfl,fun q=>by rw [if_neg (by omega)]⟩
 have HFin:Hid (∀ W C2:List Value,W.length=A.length→(∀ q,W[q]?=if k*4≤q∧q < (N - 1)*4 then A[q+4]? else A[q]?)→C2=W.take ((N - 1)*4) ++ [.int .i64 0,.bool false,.slice none 0 0,.string ⟨#[]⟩] ++ W.drop ((N - 1)*4+4)→C2.length=cap*4∧C2.take ((N - 1)*4)=inoC (L.eraseIdx k) (ev.eraseIdx k)):=fun W C2 hW hq h2=>by
  have hWl:W.length=cap*4:=by rw [hW,hAl]
  have hT:(W.take ((N - 1)*4)).length=(N - 1)*4:=by rw [List.length_take];omega
  subst h2
  constructor
  ·
   rw [List.length_append,List.length_append,hT,List.length_drop]
   simp only [List.length_cons,List.length_nil]
   omega
  ·
   rw [List.append_assoc,List.take_append_of_le_length (by omega),List.take_of_length_le (by omega)]
   have e1:L.eraseIdx k=L.take k ++ L.drop (k+1):=List.eraseIdx_eq_take_drop_succ ..
   have e2:ev.eraseIdx k=ev.take k ++ ev.drop (k+1):=List.eraseIdx_eq_take_drop_succ ..
   rw [e1,e2,inoC_append (by rw [List.length_take,List.length_take,hev]),← inoC_take hev k (by omega),← inoC_drop hev (k+1) (by omega)]
   apply List.ext_getElem?
   intro q
   have hP:((inoC L ev).take (k*4)).length=k*4:=by rw [List.length_take];omega
   by_cases c1:q < (N - 1)*4
   ·
    rw [List.getElem?_take_of_lt c1,hq q]
    by_cases c2:q < k*4
    · rw [if_neg (by omega),List.getElem?_append_left (by omega),List.getElem?_take_of_lt c2,hAx q (by omega)]
    ·
     rw [if_pos (by omega),List.getElem?_append_right (by omega),hP,List.getElem?_drop,hAx _ (by omega)]
     congr 1
     omega
   ·
    rw [List.getElem?_eq_none (by omega),List.getElem?_eq_none]
    rw [List.length_append,hP,List.length_drop,hxl]
    omega
 have HM:Hid (H≤g∧N≤cap∧cap≤maxLen∧A.length=cap*4):=⟨hHg,by omega,hcm,hAl⟩
 have HEr:Hid ((inoC (L.eraseIdx k) (ev.eraseIdx k)).length=(N - 1)*4):=by
  show _=_
  rw [inoC_length (by rw [List.length_eraseIdx,List.length_eraseIdx,hev]),List.length_eraseIdx,if_pos hkl,hN]
 have hcap:cap≤9223372036854775807:=by unfold maxLen at hcm;omega
 rw [hN]
 rw [hN] at hkl hn
 have hnc2:N≤cap:=by omega
 have HN:Hid (L.length=N):=hN
 clear hent h hX hXg hat hu hHg hgg hcm hcs htk hkn hxl hA hAl hAx hev hnc hN
 have hk0:¬ (k:Int)=-1:=by omega
 have hk1:((k:Int) == -1)=false:=by simp
 go_enter Tryz.func155,Tryz.ntmps155
 have HIx:Hid (Calls Tryz.prog 72 #[.slice (some ⟨g,0,none⟩) N cap,.func (.func 156) #[] #[.pointer (some ⟨X,0,none⟩)]] w fun e w'=>e=.returned (.int .i64 (k:Int))∧Kept [] w w'):=by
  have:=ix_drop HIno.out HAt.out.2 cap num X HX.out.1
  rw [HAt.out.1,HN.out] at this
  exact this
 go_wp2_with fail
 refine HIx.out.mono ?_
 rintro e w1 ⟨rfl,k1⟩
 have HS1:Hid (_):=HS0.out.kept k1
 clear k1 HIx HS0
 go_wp2_with fail
 go_loopw [5,6] (fun i j wr=>∃ n:Nat,j=.int .i64 (n:Int)∧i=.int .i64 ((n:Int) - 1)∧k < n∧n≤N∧Hid (Sf w wr g k n A)) (fun _ j _=>(N - intOf j).toNat)
 case atStart=>exact ⟨k+1,by go_num,by go_num,by omega,by omega,HS1.out⟩
 case round=>
  obtain ⟨n,rfl,rfl,hkn,hnN,HJ⟩:=hrel
  by_cases hlt:n < N
  ·
   have i0:(0:Int)≤(n:Int):=by omega
   have i1:(n:Int) < (N:Int):=by omega
   obtain ⟨z,d,a,c,t,t0,t1,t2,t3,hz⟩:=HEl.out n (by have:=HN.out;omega)
   have c0:=HJ.out.cell (by omega) t0
   have c1:=HJ.out.cell (by omega) t1
   have c2:=HJ.out.cell (by omega) t2
   have c3:=HJ.out.cell (by omega) t3
   have hz2:=hz (by omega)
   generalize hll:(L[n]'(by have:=HN.out;omega)).ents.length=ll at t2 c2
   have HT:Hid (A[n*4]?=some (.int .i64 z)∧A[n*4+1]?=some (.bool d)∧A[n*4+2]?=some (.slice a ll c)∧A[n*4+3]?=some (.string t)):=⟨t0,t1,t2,t3⟩
   obtain ⟨W3,Y,HWY,HKY,y0,y1,y2,y3⟩:=box4 wr (.int .i64 z) (.bool d) (.slice a ll c) (.string t) 62
   have HS3:Hid (_):=HJ.out.kept HKY.out
   have HX3:Hid (W3.cell? ⟨X,0,none⟩=some (.int .i64 num)):=by
    have:=HJ.out.kp.cell HX.out.1 (by simpa using HX.out.2)
    exact HKY.out.cell this (by simp)
   have HGY:Hid (Y≠g):=fun e=>by
    obtain ⟨C,hC,-⟩:=HJ.out.here
    have h1:=lt_of_heap hC
    have h2:=HWY.out.2
    omega
   clear hz t0 t1 t2 t3 hll
   go_upto_region 8 with fail
   rw [HWY.out.1,HWY.out.2]
   clear HWY c0 c1 c2 c3
   go_wp2_with fail
   refine (k_drop z num d _ t ⟨_,_,_,rfl⟩ X HX3.out).mono ?_
   rintro e w5 ⟨rfl,k5⟩
   rw [hz2]
   have x0:=k5.cell y0 (by simp)
   have x1:=k5.cell y1 (by simp)
   have x2:=k5.cell y2 (by simp)
   have x3:=k5.cell y3 (by simp)
   have HS5:Hid (_):=HS3.out.kept k5
   obtain ⟨p,hp⟩:∃ p,n - 1=p:=⟨_,rfl⟩
   have hpi:(n:Int) - 1=(p:Int):=by omega
   rw [hpi]
   have l0:(0:Int)≤(p:Int):=by omega
   have l1:(p:Int) < (N:Int):=by omega
   have HSn:Hid (Sf w ((((w5.setCell ⟨g,p*4,none⟩ (.int .i64 z)).setCell ⟨g,p*4+1,none⟩ (.bool d)).setCell ⟨g,p*4+2,none⟩ (.slice a ll c)).setCell ⟨g,p*4+3,none⟩ (.string t)) g k (n+1) A):=by
    have:=HS5.out.next hkn (by have:=HM.out;omega) HT.out.1 HT.out.2.1 HT.out.2.2.1 HT.out.2.2.2
    rw [hp] at this
    exact this
   obtain ⟨C,hC,hCl,-⟩:=HS5.out.here
   have hg:∀ i,i < A.length→∃ v,w5.cell? ⟨g,i,none⟩=some v:=fun i hi=>by
    rw [cellB hC]
    exact ⟨C[i]'(by omega),by simp⟩
   have hAl:=HM.out.2.2.2
   obtain ⟨b0,g0⟩:=hg (p*4) (by omega)
   obtain ⟨b1,g1⟩:=hg (p*4+1) (by omega)
   obtain ⟨b2,g2⟩:=hg (p*4+2) (by omega)
   obtain ⟨b3,g3⟩:=hg (p*4+3) (by omega)
   have z0:=HS5.out.frozen (p*4)
   have z1:=HS5.out.frozen (p*4+1)
   have z2:=HS5.out.frozen (p*4+2)
   have z3:=HS5.out.frozen (p*4+3)
   have HPI:Hid ((p:Int)=(n:Int) - 1):=hpi.symm
   clear hg hC hCl hAl hpi hp k5 y0 y1 y2 y3 HS5 HS3 HJ
   go_wp2_with fail
   go_roundw
   case rel=>exact ⟨n+1,by go_num,by have:=HPI.out;refine congrArg (Value.int IntKind.i64) ?_;omega,by omega,by omega,HSn.out⟩
   case measure=>simp [intOf];omega
  ·
   have i1:¬ (n:Int) < (N:Int):=by omega
   have hnn:n=N:=by omega
   subst hnn
   obtain ⟨C,hC,hCl,hCq⟩:=HJ.out.here
   have hAl:=HM.out.2.2.2
   have hcl:=run_clear_one (P:=Tryz.prog) wr 23 62 0 (.agg #[.int .i64 0,.bool false,.slice none 0 0,.string ⟨#[]⟩]) 4 Tryz.underlying23 zv_Inode rfl (by intro v hv;simp [Value.cells] at hv;rcases hv with rfl | rfl | rfl | rfl <;> rfl) g ((n - 1)*4) (cap - (n - 1)) C.toArray 62 hC (by simp only [List.size_toArray];omega)
   obtain ⟨C2,hC2⟩:∃ C2,C.take ((n - 1)*4) ++ [.int .i64 0,.bool false,.slice none 0 0,.string ⟨#[]⟩] ++ C.drop ((n - 1)*4+4)=C2:=⟨_,rfl⟩
   obtain ⟨f1,f2⟩:=HFin.out C C2 hCl hCq hC2.symm
   have hcl2:(Builtin.clear_ #[23] 0 #[.slice (some ⟨g,(n - 1)*4,none⟩) 1 (cap - (n - 1))]).run Tryz.prog wr=.ok (.tuple #[]) (wr.setRow g C2.toArray):=by
    rw [← hC2];exact hcl
   obtain ⟨W7,hW7⟩:∃ W7,wr.setRow g C2.toArray=W7:=⟨_,rfl⟩
   rw [hW7] at hcl2
   have HE:Hid (W7.ownsRow H 62 4 (.slice (some ⟨g,0,none⟩) (n - 1) cap) (n - 1) (inoC (L.eraseIdx k) (ev.eraseIdx k))∧Kept [g] w W7):=by
    have hM:=HM.out
    refine ⟨⟨HEr.out,.inr ⟨g,cap,C2.toArray,rfl,hM.1,?_,by omega,hM.2.2.1,by simpa using f1,by simpa using f2⟩⟩,?_⟩
    · rw [← hW7];exact setRow_heap wr g C.toArray _ _ _ hC
    · rw [← hW7];exact HJ.out.kp.setRow (Or.inl (by simp)) _
   obtain ⟨p,hp⟩:∃ p,n - 1=p:=⟨_,rfl⟩
   have hpi:(n:Int) - 1=(p:Int):=by omega
   rw [hpi]
   rw [hp] at hcl2 HE
   have HP:Hid (n - 1=p):=hp
   have HCl:Hid (∀ l,l=1→(Builtin.clear_ #[23] 0 #[.slice (some ⟨g,p*4,none⟩) l (cap - p)]).run Tryz.prog wr=.ok (.tuple #[]) W7):=fun l hl=>by subst hl;exact hcl2
   have l0:(0:Int)≤(p:Int):=by omega
   have l1:(p:Int)≤(n:Int):=by omega
   have l2:¬ cap=p:=by omega
   have l3:(p:Int)≤(cap:Int):=by omega
   have HL1:Hid (n - p=1):=by show _=_;omega
   clear hcl hcl2 hC hCl hCq hC2 f1 f2 hW7 hAl hp hpi
   have hcl3:=HCl.out (n - p) HL1.out
   go_wp2_with fail
   go_ret
   exact ⟨by rw [HP.out];rfl,by rw [HP.out];exact HE.out.1,HE.out.2⟩
end Go.Proofs.YtffncojcnbhblaaGreatDoor
