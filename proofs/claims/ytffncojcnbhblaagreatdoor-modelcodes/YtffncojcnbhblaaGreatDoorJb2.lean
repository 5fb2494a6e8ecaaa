/-
  Joined of my texts Sr Dc Nm Aw Bits.
-/
import Derived.Test.YtffncojcnbhblaaGreatDoorJb1
import Derived.Maps.AppendAt
import Derived.Lib.DecodeNEq
import Derived.Laws.BitsLemmas
import Derived.Laws.Strings3
import Derived.Laws.RangeAny
set_option linter.unusedVariables false
set_option linter.unusedSimpArgs false
set_option maxRecDepth 100000
set_option maxHeartbeats 8000000
namespace Go.Proofs.YtffncojcnbhblaaGreatDoor
open Go.RowKit
def tx (xs:List ByteArray) (i:Nat):ByteArray:=xs.getD i ⟨#[]⟩
theorem tx_ext {xs ys:List ByteArray} (hl:xs.length=ys.length) (h:∀ j,j < xs.length→tx xs j=tx ys j):xs=ys:=by
 apply List.ext_getElem hl
 intro i h1 h2
 have:=h i h1
 unfold tx at this
 rw [List.getD_eq_getElem?_getD,List.getD_eq_getElem?_getD,List.getElem?_eq_getElem h1,List.getElem?_eq_getElem h2] at this
 exact this
theorem ret_bool {x y:Bool} (h:x=y):Ending.returned (.bool x)=.returned (.bool y):=by rw [h]
def Ss (w:World) (a:Option Addr) (xs:List ByteArray):Prop:=
 xs.length≤9223372036854775807∧∀ i,i < xs.length→∃ b off,a=some ⟨b,off,none⟩∧w.cell? ⟨b,off+i,none⟩=some (.string (tx xs i))
theorem Ss.same {w w':World} {a:Option Addr} {xs:List ByteArray} (h:Ss w a xs) (hk:∀ x,a=some x→w'.heap[x.block]?=w.heap[x.block]?):Ss w' a xs:=
 ⟨h.1,fun i hi=>by
  obtain ⟨b,off,rfl,hc⟩:=h.2 i hi
  refine ⟨b,off,rfl,?_⟩
  have:=hk _ rfl
  unfold World.cell? at hc ⊢
  simp only [] at hc ⊢ this
  rw [this]
  exact hc⟩
theorem Ss.lt {w:World} {a:Option Addr} {xs:List ByteArray} (h:Ss w a xs) (hx:xs≠[]) {x:Addr} (hax:a=some x):x.block < w.heap.size:=by
 obtain ⟨b,off,rfl,hc⟩:=h.2 0 (by cases xs with | nil=>exact absurd rfl hx | cons=>simp)
 simp at hax
 subst hax
 rcases Nat.lt_or_ge b w.heap.size with h' | h'
 · exact h'
 · simp [World.cell?,Array.getElem?_eq_none h'] at hc
theorem Ss.none {w:World} {a:Option Addr}:Ss w a []:=⟨by simp,fun i hi=>by simp at hi⟩
theorem Ss.kept {w w':World} {a:Option Addr} {xs:List ByteArray} (h:Ss w a xs) (k:Kept [] w w'):Ss w' a xs:=by
 by_cases hx:xs=[]
 · subst hx;exact Ss.none
 · exact h.same fun x hax=>k.block _ (h.lt hx hax) (by simp)
theorem Ss.drewN {w:World} {a:Option Addr} {xs:List ByteArray} (h:Ss w a xs) (n:Nat):Ss (w.drewN n) a xs:=h
theorem Ss.take {w:World} {a:Option Addr} {xs:List ByteArray} (h:Ss w a xs) (n:Nat):Ss w a (xs.take n):=
 ⟨by have:=h.1;rw [List.length_take];omega,fun i hi=>by
  rw [List.length_take] at hi
  obtain ⟨b,off,rfl,hc⟩:=h.2 i (by omega)
  refine ⟨b,off,rfl,?_⟩
  rw [hc]
  congr 2
  unfold tx
  rw [List.getD_eq_getElem?_getD,List.getD_eq_getElem?_getD,List.getElem?_take_of_lt (by omega)]⟩
def Sr (w:World) (H:Nat) (v:Value) (xs:List ByteArray):Prop:=w.ownsRow H 9 1 v xs.length (xs.map Value.string)
theorem Sr.nil (w:World) (H:Nat):Sr w H (.slice none 0 0) []:=World.ownsRow_nil w H 9 1
theorem Sr.same {w w':World} {H:Nat} {v:Value} {xs:List ByteArray} (h:Sr w H v xs) (hk:∀ k,v.ownBlock=some k→w'.heap[k]?=w.heap[k]?):Sr w' H v xs:=by
 refine ⟨h.1,?_⟩
 rcases h.2 with hn | ⟨g,cap,cur,rfl,hb,hgg,rest⟩
 · exact .inl hn
 · exact .inr ⟨g,cap,cur,rfl,hb,by rw [hk g rfl];exact hgg,rest⟩
theorem Sr.block {w:World} {H:Nat} {v:Value} {xs:List ByteArray} (h:Sr w H v xs):∀ k,v.ownBlock=some k→H≤k∧k < w.heap.size:=World.ownsRow.lt h
theorem Sr.kept {w w':World} {H:Nat} {v:Value} {xs:List ByteArray} (h:Sr w H v xs) (k:Kept [] w w'):Sr w' H v xs:=
 h.same fun x hx=>k.block x (h.block x hx).2 (by simp)
theorem Sr.less {w:World} {H H':Nat} {v:Value} {xs:List ByteArray} (h:Sr w H v xs) (hH:H'≤H):Sr w H' v xs:=by
 refine ⟨h.1,?_⟩
 rcases h.2 with hn | ⟨g,cap,cur,rfl,hb,rest⟩
 · exact .inl hn
 · exact .inr ⟨g,cap,cur,rfl,by omega,rest⟩
theorem Sr.read {w:World} {H:Nat} {v:Value} {xs:List ByteArray} (h:Sr w H v xs):∃ a c,v=.slice a xs.length c∧Ss w a xs∧∀ x,a=some x→H≤x.block:=by
 rcases h.2 with ⟨rfl,h2⟩ | ⟨g,cap,cur,rfl,hb,hgg,h4,h5,h6,h7⟩
 ·
  have:xs=[]:=List.eq_nil_of_length_eq_zero h2
  subst this
  exact ⟨_,_,rfl,Ss.none,fun x hx=>by cases hx⟩
 ·
  refine ⟨_,_,rfl,⟨by unfold maxLen at h5;omega,fun i hi=>⟨g,0,rfl,?_⟩⟩,fun x hx=>by cases hx;exact hb⟩
  rw [Nat.zero_add,cell_of_row _ _ _ _ _ _ hgg]
  have h8:(cur.toList.take (xs.length*1))[i]?=(xs.map Value.string)[i]?:=by rw [h7]
  rw [List.getElem?_take_of_lt (by omega),Array.getElem?_toList] at h8
  rw [h8]
  unfold tx
  rw [List.getD_eq_getElem?_getD]
  simp [hi]
theorem info9:(Tryz.prog.info? 9).map (fun i=>(i.zero,i.size,i.bytes))=some (some (.string ⟨#[]⟩),1,16):=by kernel_rfl
theorem texts_oneCell (xs:List ByteArray):∀ u∈xs.map Value.string,u.oneCell'=true:=by
 intro u hu
 simp only [List.mem_map] at hu
 obtain ⟨a,_,rfl⟩:=hu
 rfl
theorem append_texts {w:World} {H:Nat} {v:Value} {xs ys:List ByteArray} (h:Sr w H v xs) (hH:H≤w.heap.size) (a:Option Addr) (n c:Nat) (hn:n=ys.length) (hy:Ss w a ys) (ha:a≠none) (hb:(xs.length+ys.length)*16≤140737488355328) (ty:TypeId) :
  ∃ v' w',(Builtin.append_ #[29,29] ty #[v,.slice a n c]).run Tryz.prog w=.ok v' w'∧Sr w' H v' (xs ++ ys)∧w.grownBy w' v.ownBlock:=by
 subst hn
 obtain ⟨i0,hi,hz0,hz1,hz2⟩:=info_parts info9
 cases a with
 | none=>exact absurd rfl ha
 | some ad=>
  obtain ⟨v',w',hr,h2,h3,_,h5⟩:=run_append_own_at (P:=Tryz.prog) w H 29 ty 9 i0 (.string ⟨#[]⟩) 1 16 Tryz.underlying29 hi hz0 hz1 hz2 rfl (by omega) v xs.length (xs.map Value.string) h ad ys.length c (ys.map Value.string) (by simp)
   (fun j u hu=>by
    rw [List.getElem?_map] at hu
    rcases Nat.lt_or_ge j ys.length with hj | hj
    ·
     obtain ⟨b,off,e,hc⟩:=hy.2 j hj
     cases e
     have ea:(⟨b,off,none⟩:Addr).add j=⟨b,off+j,none⟩:=by unfold Addr.add;split <;> simp_all
     rw [ea,hc]
     unfold tx
     rw [List.getD_eq_getElem?_getD]
     rw [List.getElem?_eq_getElem hj] at hu ⊢
     simpa using hu
    · rw [List.getElem?_eq_none hj] at hu;cases hu)
   (texts_oneCell ys) (by unfold maxLen;omega) hb hH
  refine ⟨v',w',hr,?_,h3⟩
  unfold Sr
  rw [List.length_append,List.map_append]
  exact h2
theorem append_text {w:World} {H:Nat} {v:Value} {xs:List ByteArray} (h:Sr w H v xs) (hH:H≤w.heap.size) (e:ByteArray) (hb:xs.length+1≤1000000) (ty:TypeId) :
  ∃ v' w',(Builtin.append_ #[29,29] ty #[v,.slice (some ⟨w.heap.size,0,none⟩) 1 1]).run Tryz.prog (w.alloc (.cells #[.string e] 9))=.ok v' w'∧Sr w' H v' (xs ++ [e])∧Kept v.ownBlock.toList w w':=by
 have hk:Kept [] w (w.alloc (.cells #[.string e] 9)):=(Kept.refl [] w).alloc _
 have hs:Ss (w.alloc (.cells #[.string e] 9)) (some ⟨w.heap.size,0,none⟩) [e]:=⟨by simp,fun i hi=>⟨_,_,rfl,by
  have:i=0:=by simpa using hi
  subst this
  rw [cell_of_row _ _ _ _ _ _ (heap_alloc_new w _)]
  rfl⟩⟩
 obtain ⟨v',w',hr,h2,h3⟩:=append_texts (h.kept hk) (by have:=hk.size;omega) _ 1 1 rfl hs (by simp) (by simp;omega) ty
 exact ⟨v',w',hr,h2,(hk.mono (by simp)).grown h3 fun x hx=>Or.inl (by rw [hx];simp)⟩
theorem wpList_append_run {P:Program} (w:World) {ops:Array Oper} {rest:List Oper} {o:Oper} {a:Act} {Q:Exit→Act→World→Prop} (hgd:o.guard=none) (s x:Operand) (t1 t2:TypeId)
  (ho:o.op=.call { callee:=.builtin .append,args:=#[s,x],argTypes:=#[t1,t2] }) (v u:Value) (hs:a.eval s=v) (hx:a.eval x=u) (v':Value) (w':World)
  (hr:(Builtin.append_ #[t1,t2] o.type #[v,u]).run P w=.ok v' w') (h:wpList P ops Q rest (a.put o.dst v') w'):wpList P ops Q (o :: rest) a w:=by
 refine wpList_plain hgd fun K hK=>?_
 unfold Oper.wp execOp
 simp only [ho,resolve,invoke,builtin,Sem.run_bind,Sem.run_pure,Result.andThen_ok,List.map_toArray,List.map_cons,List.map_nil,hs,hx,hr]
 exact hK _ _ h
theorem kept_of_own {w w':World} {H:Nat} {v:Value} {w0:World} (h0:Kept [] w0 w) (h:Kept v.ownBlock.toList w w') (hv:∀ k,v.ownBlock=some k→w0.heap.size≤k):Kept [] w0 w':=
 h0.trans h fun x hx=>Or.inr (hv x (by simpa using hx))
theorem slices_equal (a b:Option Addr) (n m c d:Nat) (xs ys:List ByteArray) (w:World) (hn:n=xs.length) (hm:m=ys.length) (ha:Ss w a xs) (hb:Ss w b ys) :
  Calls Tryz.prog 41 #[.slice a n c,.slice b m d] w fun e w'=>e=.returned (.bool (decide (xs=ys)))∧∃ q,w'=w.drewN q:=by
 have hn63:=ha.1
 have hm63:=hb.1
 obtain ⟨z,hz⟩:∃ z,decide (xs=ys)=z:=⟨_,rfl⟩
 rw [hz]
 by_cases hnm:n=m
 ·
  subst hnm
  have HB:Hid (Ss w a xs∧Ss w b ys∧n=xs.length∧n=ys.length∧decide (xs=ys)=z):=⟨ha,hb,hn,hm,hz⟩
  have hbig:n≤9223372036854775807:=by omega
  clear ha hb hn hm hz hn63 hm63
  go_enter Tryz.func41,Tryz.ntmps41
  go_wp2_with fail
  go_loopw [13] (fun s wr=>∃ (k q:Nat),s=.int .i64 (k:Int)∧k≤n∧wr=w.drewN q∧Hid (∀ j,j < k→tx xs j=tx ys j)) (fun s _=>(n - intOf s).toNat)
  case atStart=>exact ⟨0,0,rfl,by omega,rfl,fun j hj=>by omega⟩
  case round=>
   obtain ⟨k,q,rfl,hk,rfl,HJ⟩:=hrel
   by_cases hlt:k < n
   ·
    have i1:(k:Int) < (n:Int):=by omega
    obtain ⟨b1,o1,rfl,c1⟩:=HB.out.1.2 k (by have:=HB.out.2.2.1;omega)
    obtain ⟨b2,o2,rfl,c2⟩:=HB.out.2.1.2 k (by have:=HB.out.2.2.2.1;omega)
    obtain ⟨x,hx⟩:∃ x,tx xs k=x:=⟨_,rfl⟩
    obtain ⟨y,hy⟩:∃ y,tx ys k=y:=⟨_,rfl⟩
    rw [hx] at c1
    rw [hy] at c2
    by_cases hxy:x=y
    ·
     subst hxy
     have HX:Hid (tx xs k=tx ys k):=hx.trans hy.symm
     clear hx hy
     go_wp2_with fail
     go_region
     go_wp2_with fail
     go_roundw
     case rel=>exact ⟨k+1,q+1,by go_num,by omega,rfl,fun j hj=>by
      rcases Nat.lt_or_ge j k with h | h
      · exact HJ.out j h
      ·
       have:j=k:=by omega
       rw [this];exact HX.out⟩
     case measure=>simp [intOf];omega
    ·
     have hne:¬ x.toList=y.toList:=fun e=>hxy (by apply ByteArray.ext;apply Array.ext';rw [ByteArray.toList_eq,ByteArray.toList_eq] at e;exact e)
     have hnb:(x.toList == y.toList)=false:=by simpa using hne
     have HX:Hid (false=z):=by
      show false=z
      rw [← HB.out.2.2.2.2]
      symm
      rw [decide_eq_false_iff_not]
      intro e
      rw [e,hy] at hx
      exact hxy hx.symm
     clear hx hy hxy
     go_wp2_with fail
     go_region
     go_wp2_with fail
     go_ret
     exact ⟨ret_bool HX.out,q+1,rfl⟩
   ·
    have i1:¬ (k:Int) < (n:Int):=by omega
    have HX:Hid (true=z):=by
     show true=z
     rw [← HB.out.2.2.2.2]
     symm
     rw [decide_eq_true_eq]
     have h1:=HB.out.2.2.1
     have h2:=HB.out.2.2.2.1
     refine tx_ext (by omega) fun j hj=>HJ.out j (by omega)
    go_wp2_with fail
    go_ret
    exact ⟨ret_bool HX.out,q,rfl⟩
 ·
  have i0:¬ (n:Int)=(m:Int):=by omega
  have HX:Hid (false=z):=by
   show false=z
   rw [← hz]
   symm
   rw [decide_eq_false_iff_not]
   intro e
   exact hnm (by rw [hn,hm,e])
  clear ha hb hn hm hz hn63 hm63
  go_enter Tryz.func41,Tryz.ntmps41
  go_wp2_with fail
  go_ret
  exact ⟨ret_bool HX.out,0,rfl⟩
end Go.Proofs.YtffncojcnbhblaaGreatDoor
namespace Go.Proofs.YtffncojcnbhblaaGreatDoor
open Go.RowKit Go.Lib
def Tab (w:World):Prop:=
 (∀ c,c < 256→w.cell? ⟨0,c,none⟩=some (.int .u8 (firstT c)))∧
 (∀ i,i < 16→w.cell? ⟨1,2*i,none⟩=some (.int .u8 (accLo i))∧w.cell? ⟨1,2*i+1,none⟩=some (.int .u8 (accHi i)))
theorem Tab.kept {w w':World} (h:Tab w) (k:Kept [] w w'):Tab w':=
 ⟨fun c hc=>k.cell (h.1 c hc) (by simp),fun i hi=>⟨k.cell (h.2 i hi).1 (by simp),k.cell (h.2 i hi).2 (by simp)⟩⟩
theorem first_any (b:Nat) (h:128≤b):firstT b=241∨firstT b=2∨firstT b=19∨firstT b=3∨firstT b=35∨firstT b=52∨firstT b=4∨firstT b=68:=by
 unfold firstT
 rw [if_neg (by omega)]
 repeat' split
 all_goals simp
theorem stray_mask:wrap32 517543559168 / 2147483648=-1:=by unfold wrap32;omega
theorem stray_byte:∀ x:Fin 256,bits .or .i32 (bits .andNot .i32 ((x.val:Nat):Int) (-1)) (bits .and .i32 65533 (-1))=65533:=by decide
def Slow (s:ByteArray) (w:World):Prop:=
 Calls Tryz.prog 166 #[.string s] w fun e w'=>e=.returned (.tuple #[.int .i32 ((Utf8.decode s 0).1:Int),.int .i64 ((Utf8.decode s 0).2:Int)])∧Kept [] w w'
theorem dec_eq (s:ByteArray):Utf8.decode s 0=decodeN s.size (at8 s 0) (at8 s 1) (at8 s 2) (at8 s 3):=by
 rw [decode_at];rfl
theorem at8_in {s:ByteArray} {i:Nat} (h:i < s.size):(s[i]'h).toNat=at8 s i:=(at8_get s i h).symm
theorem slow_241 (s:ByteArray) (w:World) (hT:Tab w) (h0:0 < s.size) (hX:firstT (at8 s 0)=241):Slow s w:=by
 unfold Slow
 have hd:Utf8.decode s 0=(65533,1):=by rw [dec_eq];exact bad_eq _ _ _ _ _ (at8_lt s 0) hX
 rw [hd]
 have l0:=at8_lt s 0
 have hz0:(0:Int) < (s.size:Int):=by omega
 have hz1:¬ ((s.size:Int) < 1):=by omega
 have hs0:=at8_in h0
 have hc:=hT.1 (at8 s 0) l0
 rw [hX] at hc
 clear hT hX hd
 have HS:Hid (_):=hs0
 generalize at8 s 0=x0 at *
 go_enter Tryz.func166,Tryz.ntmps166
 go_wp2
 rw [stray_mask,stray_byte ⟨x0,l0⟩]
 go_ret2
 exact ⟨rfl,Kept.refl _ _⟩
theorem slow_2 (s:ByteArray) (w:World) (hT:Tab w) (h0:0 < s.size) (hX:firstT (at8 s 0)=2):Slow s w:=by
 unfold Slow
 have l0:=at8_lt s 0
 have l1:=at8_lt s 1
 have l2:=at8_lt s 2
 have l3:=at8_lt s 3
 have hd:Utf8.decode s 0=slowN s.size (at8 s 0) (at8 s 1) (at8 s 2) (at8 s 3) 2 (accLo 0) (accHi 0):=by
  rw [dec_eq]
  have:=slow_eq s.size (at8 s 0) (at8 s 1) (at8 s 2) (at8 s 3) (by omega) l1 l2 l3 (by omega)
  rw [hX] at this
  exact this.symm
 have hz0:(0:Int) < (s.size:Int):=by omega
 have hz1:¬ ((s.size:Int) < 1):=by omega
 have hs0:=at8_in h0
 have hc:=hT.1 (at8 s 0) l0
 have ha:=(hT.2 0 (by omega)).1
 have hb:=(hT.2 0 (by omega)).2
 rw [hX] at hc
 simp only [accLo,accHi,Nat.reduceMul,Nat.reduceAdd,Nat.reduceEqDiff,if_true,if_false] at ha hb hd
 rw [hd]
 clear hT hX hd
 by_cases hn:s.size < 2
 ·
  have hnz:(s.size:Int) < 2:=by omega
  generalize at8 s 0=x0 at *
  go_enter Tryz.func166,Tryz.ntmps166
  go_wp2
  all_goals (go_ret2;refine ⟨?_,(Kept.refl _ _).alloc _⟩;unfold slowN;rw [if_pos hn];rfl)
 ·
  have hnz:¬ ((s.size:Int) < 2):=by omega
  have k1:(1:Int) < (s.size:Int):=by omega
  have hs1:=at8_in (show 1 < s.size by omega)
  generalize at8 s 0=x0 at *
  generalize at8 s 1=x1 at *
  generalize at8 s 2=x2 at *
  generalize at8 s 3=x3 at *
  go_enter Tryz.func166,Tryz.ntmps166
  go_wp2
  all_goals
   go_ret2
   refine ⟨?_,(Kept.refl _ _).alloc _⟩
   unfold slowN
   repeat' split
   all_goals first
    | (exfalso;omega)
    | rfl
    | (simp only [Int.natCast_add,Int.natCast_mul,Int.natCast_emod,Int.natCast_ofNat];rfl)
theorem slow_19 (s:ByteArray) (w:World) (hT:Tab w) (h0:0 < s.size) (hX:firstT (at8 s 0)=19):Slow s w:=by
 unfold Slow
 have l0:=at8_lt s 0
 have l1:=at8_lt s 1
 have l2:=at8_lt s 2
 have l3:=at8_lt s 3
 have hd:Utf8.decode s 0=slowN s.size (at8 s 0) (at8 s 1) (at8 s 2) (at8 s 3) 3 (accLo 1) (accHi 1):=by
  rw [dec_eq]
  have:=slow_eq s.size (at8 s 0) (at8 s 1) (at8 s 2) (at8 s 3) (by omega) l1 l2 l3 (by omega)
  rw [hX] at this
  exact this.symm
 have hz0:(0:Int) < (s.size:Int):=by omega
 have hz1:¬ ((s.size:Int) < 1):=by omega
 have hs0:=at8_in h0
 have hc:=hT.1 (at8 s 0) l0
 have ha:=(hT.2 1 (by omega)).1
 have hb:=(hT.2 1 (by omega)).2
 rw [hX] at hc
 simp only [accLo,accHi,Nat.reduceMul,Nat.reduceAdd,Nat.reduceEqDiff,if_true,if_false] at ha hb hd
 rw [hd]
 clear hT hX hd
 by_cases hn:s.size < 3
 ·
  have hnz:(s.size:Int) < 3:=by omega
  generalize at8 s 0=x0 at *
  go_enter Tryz.func166,Tryz.ntmps166
  go_wp2
  all_goals (go_ret2;refine ⟨?_,(Kept.refl _ _).alloc _⟩;unfold slowN;rw [if_pos hn];rfl)
 ·
  have hnz:¬ ((s.size:Int) < 3):=by omega
  have k1:(1:Int) < (s.size:Int):=by omega
  have hs1:=at8_in (show 1 < s.size by omega)
  have k2:(2:Int) < (s.size:Int):=by omega
  have hs2:=at8_in (show 2 < s.size by omega)
  generalize at8 s 0=x0 at *
  generalize at8 s 1=x1 at *
  generalize at8 s 2=x2 at *
  generalize at8 s 3=x3 at *
  go_enter Tryz.func166,Tryz.ntmps166
  go_wp2
  all_goals
   go_ret2
   refine ⟨?_,(Kept.refl _ _).alloc _⟩
   unfold slowN
   repeat' split
   all_goals first
    | (exfalso;omega)
    | rfl
    | (simp only [Int.natCast_add,Int.natCast_mul,Int.natCast_emod,Int.natCast_ofNat];rfl)
theorem slow_3 (s:ByteArray) (w:World) (hT:Tab w) (h0:0 < s.size) (hX:firstT (at8 s 0)=3):Slow s w:=by
 unfold Slow
 have l0:=at8_lt s 0
 have l1:=at8_lt s 1
 have l2:=at8_lt s 2
 have l3:=at8_lt s 3
 have hd:Utf8.decode s 0=slowN s.size (at8 s 0) (at8 s 1) (at8 s 2) (at8 s 3) 3 (accLo 0) (accHi 0):=by
  rw [dec_eq]
  have:=slow_eq s.size (at8 s 0) (at8 s 1) (at8 s 2) (at8 s 3) (by omega) l1 l2 l3 (by omega)
  rw [hX] at this
  exact this.symm
 have hz0:(0:Int) < (s.size:Int):=by omega
 have hz1:¬ ((s.size:Int) < 1):=by omega
 have hs0:=at8_in h0
 have hc:=hT.1 (at8 s 0) l0
 have ha:=(hT.2 0 (by omega)).1
 have hb:=(hT.2 0 (by omega)).2
 rw [hX] at hc
 simp only [accLo,accHi,Nat.reduceMul,Nat.reduceAdd,Nat.reduceEqDiff,if_true,if_false] at ha hb hd
 rw [hd]
 clear hT hX hd
 by_cases hn:s.size < 3
 ·
  have hnz:(s.size:Int) < 3:=by omega
  generalize at8 s 0=x0 at *
  go_enter Tryz.func166,Tryz.ntmps166
  go_wp2
  all_goals (go_ret2;refine ⟨?_,(Kept.refl _ _).alloc _⟩;unfold slowN;rw [if_pos hn];rfl)
 ·
  have hnz:¬ ((s.size:Int) < 3):=by omega
  have k1:(1:Int) < (s.size:Int):=by omega
  have hs1:=at8_in (show 1 < s.size by omega)
  have k2:(2:Int) < (s.size:Int):=by omega
  have hs2:=at8_in (show 2 < s.size by omega)
  generalize at8 s 0=x0 at *
  generalize at8 s 1=x1 at *
  generalize at8 s 2=x2 at *
  generalize at8 s 3=x3 at *
  go_enter Tryz.func166,Tryz.ntmps166
  go_wp2
  all_goals
   go_ret2
   refine ⟨?_,(Kept.refl _ _).alloc _⟩
   unfold slowN
   repeat' split
   all_goals first
    | (exfalso;omega)
    | rfl
    | (simp only [Int.natCast_add,Int.natCast_mul,Int.natCast_emod,Int.natCast_ofNat];rfl)
theorem slow_35 (s:ByteArray) (w:World) (hT:Tab w) (h0:0 < s.size) (hX:firstT (at8 s 0)=35):Slow s w:=by
 unfold Slow
 have l0:=at8_lt s 0
 have l1:=at8_lt s 1
 have l2:=at8_lt s 2
 have l3:=at8_lt s 3
 have hd:Utf8.decode s 0=slowN s.size (at8 s 0) (at8 s 1) (at8 s 2) (at8 s 3) 3 (accLo 2) (accHi 2):=by
  rw [dec_eq]
  have:=slow_eq s.size (at8 s 0) (at8 s 1) (at8 s 2) (at8 s 3) (by omega) l1 l2 l3 (by omega)
  rw [hX] at this
  exact this.symm
 have hz0:(0:Int) < (s.size:Int):=by omega
 have hz1:¬ ((s.size:Int) < 1):=by omega
 have hs0:=at8_in h0
 have hc:=hT.1 (at8 s 0) l0
 have ha:=(hT.2 2 (by omega)).1
 have hb:=(hT.2 2 (by omega)).2
 rw [hX] at hc
 simp only [accLo,accHi,Nat.reduceMul,Nat.reduceAdd,Nat.reduceEqDiff,if_true,if_false] at ha hb hd
 rw [hd]
 clear hT hX hd
 by_cases hn:s.size < 3
 ·
  have hnz:(s.size:Int) < 3:=by omega
  generalize at8 s 0=x0 at *
  go_enter Tryz.func166,Tryz.ntmps166
  go_wp2
  all_goals (go_ret2;refine ⟨?_,(Kept.refl _ _).alloc _⟩;unfold slowN;rw [if_pos hn];rfl)
 ·
  have hnz:¬ ((s.size:Int) < 3):=by omega
  have k1:(1:Int) < (s.size:Int):=by omega
  have hs1:=at8_in (show 1 < s.size by omega)
  have k2:(2:Int) < (s.size:Int):=by omega
  have hs2:=at8_in (show 2 < s.size by omega)
  generalize at8 s 0=x0 at *
  generalize at8 s 1=x1 at *
  generalize at8 s 2=x2 at *
  generalize at8 s 3=x3 at *
  go_enter Tryz.func166,Tryz.ntmps166
  go_wp2
  all_goals
   go_ret2
   refine ⟨?_,(Kept.refl _ _).alloc _⟩
   unfold slowN
   repeat' split
   all_goals first
    | (exfalso;omega)
    | rfl
    | (simp only [Int.natCast_add,Int.natCast_mul,Int.natCast_emod,Int.natCast_ofNat];rfl)
theorem slow_52 (s:ByteArray) (w:World) (hT:Tab w) (h0:0 < s.size) (hX:firstT (at8 s 0)=52):Slow s w:=by
 unfold Slow
 have l0:=at8_lt s 0
 have l1:=at8_lt s 1
 have l2:=at8_lt s 2
 have l3:=at8_lt s 3
 have hd:Utf8.decode s 0=slowN s.size (at8 s 0) (at8 s 1) (at8 s 2) (at8 s 3) 4 (accLo 3) (accHi 3):=by
  rw [dec_eq]
  have:=slow_eq s.size (at8 s 0) (at8 s 1) (at8 s 2) (at8 s 3) (by omega) l1 l2 l3 (by omega)
  rw [hX] at this
  exact this.symm
 have hz0:(0:Int) < (s.size:Int):=by omega
 have hz1:¬ ((s.size:Int) < 1):=by omega
 have hs0:=at8_in h0
 have hc:=hT.1 (at8 s 0) l0
 have ha:=(hT.2 3 (by omega)).1
 have hb:=(hT.2 3 (by omega)).2
 rw [hX] at hc
 simp only [accLo,accHi,Nat.reduceMul,Nat.reduceAdd,Nat.reduceEqDiff,if_true,if_false] at ha hb hd
 rw [hd]
 clear hT hX hd
 by_cases hn:s.size < 4
 ·
  have hnz:(s.size:Int) < 4:=by omega
  generalize at8 s 0=x0 at *
  go_enter Tryz.func166,Tryz.ntmps166
  go_wp2
  all_goals (go_ret2;refine ⟨?_,(Kept.refl _ _).alloc _⟩;unfold slowN;rw [if_pos hn];rfl)
 ·
  have hnz:¬ ((s.size:Int) < 4):=by omega
  have k1:(1:Int) < (s.size:Int):=by omega
  have hs1:=at8_in (show 1 < s.size by omega)
  have k2:(2:Int) < (s.size:Int):=by omega
  have hs2:=at8_in (show 2 < s.size by omega)
  have k3:(3:Int) < (s.size:Int):=by omega
  have hs3:=at8_in (show 3 < s.size by omega)
  generalize at8 s 0=x0 at *
  generalize at8 s 1=x1 at *
  generalize at8 s 2=x2 at *
  generalize at8 s 3=x3 at *
  go_enter Tryz.func166,Tryz.ntmps166
  go_wp2
  all_goals
   go_ret2
   refine ⟨?_,(Kept.refl _ _).alloc _⟩
   unfold slowN
   repeat' split
   all_goals first
    | (exfalso;omega)
    | rfl
    | (simp only [Int.natCast_add,Int.natCast_mul,Int.natCast_emod,Int.natCast_ofNat];rfl)
theorem slow_4 (s:ByteArray) (w:World) (hT:Tab w) (h0:0 < s.size) (hX:firstT (at8 s 0)=4):Slow s w:=by
 unfold Slow
 have l0:=at8_lt s 0
 have l1:=at8_lt s 1
 have l2:=at8_lt s 2
 have l3:=at8_lt s 3
 have hd:Utf8.decode s 0=slowN s.size (at8 s 0) (at8 s 1) (at8 s 2) (at8 s 3) 4 (accLo 0) (accHi 0):=by
  rw [dec_eq]
  have:=slow_eq s.size (at8 s 0) (at8 s 1) (at8 s 2) (at8 s 3) (by omega) l1 l2 l3 (by omega)
  rw [hX] at this
  exact this.symm
 have hz0:(0:Int) < (s.size:Int):=by omega
 have hz1:¬ ((s.size:Int) < 1):=by omega
 have hs0:=at8_in h0
 have hc:=hT.1 (at8 s 0) l0
 have ha:=(hT.2 0 (by omega)).1
 have hb:=(hT.2 0 (by omega)).2
 rw [hX] at hc
 simp only [accLo,accHi,Nat.reduceMul,Nat.reduceAdd,Nat.reduceEqDiff,if_true,if_false] at ha hb hd
 rw [hd]
 clear hT hX hd
 by_cases hn:s.size < 4
 ·
  have hnz:(s.size:Int) < 4:=by omega
  generalize at8 s 0=x0 at *
  go_enter Tryz.func166,Tryz.ntmps166
  go_wp2
  all_goals (go_ret2;refine ⟨?_,(Kept.refl _ _).alloc _⟩;unfold slowN;rw [if_pos hn];rfl)
 ·
  have hnz:¬ ((s.size:Int) < 4):=by omega
  have k1:(1:Int) < (s.size:Int):=by omega
  have hs1:=at8_in (show 1 < s.size by omega)
  have k2:(2:Int) < (s.size:Int):=by omega
  have hs2:=at8_in (show 2 < s.size by omega)
  have k3:(3:Int) < (s.size:Int):=by omega
  have hs3:=at8_in (show 3 < s.size by omega)
  generalize at8 s 0=x0 at *
  generalize at8 s 1=x1 at *
  generalize at8 s 2=x2 at *
  generalize at8 s 3=x3 at *
  go_enter Tryz.func166,Tryz.ntmps166
  go_wp2
  all_goals
   go_ret2
   refine ⟨?_,(Kept.refl _ _).alloc _⟩
   unfold slowN
   repeat' split
   all_goals first
    | (exfalso;omega)
    | rfl
    | (simp only [Int.natCast_add,Int.natCast_mul,Int.natCast_emod,Int.natCast_ofNat];rfl)
theorem slow_68 (s:ByteArray) (w:World) (hT:Tab w) (h0:0 < s.size) (hX:firstT (at8 s 0)=68):Slow s w:=by
 unfold Slow
 have l0:=at8_lt s 0
 have l1:=at8_lt s 1
 have l2:=at8_lt s 2
 have l3:=at8_lt s 3
 have hd:Utf8.decode s 0=slowN s.size (at8 s 0) (at8 s 1) (at8 s 2) (at8 s 3) 4 (accLo 4) (accHi 4):=by
  rw [dec_eq]
  have:=slow_eq s.size (at8 s 0) (at8 s 1) (at8 s 2) (at8 s 3) (by omega) l1 l2 l3 (by omega)
  rw [hX] at this
  exact this.symm
 have hz0:(0:Int) < (s.size:Int):=by omega
 have hz1:¬ ((s.size:Int) < 1):=by omega
 have hs0:=at8_in h0
 have hc:=hT.1 (at8 s 0) l0
 have ha:=(hT.2 4 (by omega)).1
 have hb:=(hT.2 4 (by omega)).2
 rw [hX] at hc
 simp only [accLo,accHi,Nat.reduceMul,Nat.reduceAdd,Nat.reduceEqDiff,if_true,if_false] at ha hb hd
 rw [hd]
 clear hT hX hd
 by_cases hn:s.size < 4
 ·
  have hnz:(s.size:Int) < 4:=by omega
  generalize at8 s 0=x0 at *
  go_enter Tryz.func166,Tryz.ntmps166
  go_wp2
  all_goals (go_ret2;refine ⟨?_,(Kept.refl _ _).alloc _⟩;unfold slowN;rw [if_pos hn];rfl)
 ·
  have hnz:¬ ((s.size:Int) < 4):=by omega
  have k1:(1:Int) < (s.size:Int):=by omega
  have hs1:=at8_in (show 1 < s.size by omega)
  have k2:(2:Int) < (s.size:Int):=by omega
  have hs2:=at8_in (show 2 < s.size by omega)
  have k3:(3:Int) < (s.size:Int):=by omega
  have hs3:=at8_in (show 3 < s.size by omega)
  generalize at8 s 0=x0 at *
  generalize at8 s 1=x1 at *
  generalize at8 s 2=x2 at *
  generalize at8 s 3=x3 at *
  go_enter Tryz.func166,Tryz.ntmps166
  go_wp2
  all_goals
   go_ret2
   refine ⟨?_,(Kept.refl _ _).alloc _⟩
   unfold slowN
   repeat' split
   all_goals first
    | (exfalso;omega)
    | rfl
    | (simp only [Int.natCast_add,Int.natCast_mul,Int.natCast_emod,Int.natCast_ofNat];rfl)
theorem slow_any (s:ByteArray) (w:World) (hT:Tab w) (h0:0 < s.size) (h:128≤at8 s 0):Slow s w:=by
 rcases first_any (at8 s 0) h with hX | hX | hX | hX | hX | hX | hX | hX
 · exact slow_241 s w hT h0 hX
 · exact slow_2 s w hT h0 hX
 · exact slow_19 s w hT h0 hX
 · exact slow_3 s w hT h0 hX
 · exact slow_35 s w hT h0 hX
 · exact slow_52 s w hT h0 hX
 · exact slow_4 s w hT h0 hX
 · exact slow_68 s w hT h0 hX
def iterTo (W:World) (b:Nat) (s:ByteArray) (j:Nat):World:={ W with heap:=W.heap.setIfInBounds b (.stringIter s j) }
theorem next_at {W:World} {b:Nat} {s:ByteArray} {j:Nat} (hb:W.heap[b]?=some (.stringIter s j)) (h:j < s.size) (ty:TypeId) :
  (Instr.next (.pointer (some ⟨b,0,none⟩)) true ty).run Tryz.prog W =
   .ok (.tuple #[.bool true,.int .i64 (j:Int),.int .i32 (one s j).1]) (iterTo W b s (j+max (one s j).2 1)):=by
 rw [← (decode_one s j).2,← (decode_one s j).1]
 simp only [Instr.next,getObj,setObj,Sem.run_bind,Sem.run,hb,Result.andThen,h,if_true,iterTo]
 simp [goInt]
theorem next_none {W:World} {b:Nat} {s:ByteArray} {j:Nat} (hb:W.heap[b]?=some (.stringIter s j)) (h:¬ j < s.size) (ty:TypeId) :
  (Instr.next (.pointer (some ⟨b,0,none⟩)) true ty).run Tryz.prog W=.ok (.tuple #[.bool false]) W:=by
 simp [Instr.next,getObj,Sem.run,hb,h]
structure It (w0 W:World) (s:ByteArray) (j:Nat):Prop where
 kept:Kept [] w0 W
 here:W.heap[w0.heap.size]?=some (.stringIter s j)
theorem It.begin (w:World) (s:ByteArray):It w (w.iter s 0) s 0:=⟨(Kept.refl [] w).alloc _,World.iter_heap w s 0⟩
theorem It.next {w0 W:World} {s:ByteArray} {j:Nat} (h:It w0 W s j) (k:Nat):It w0 (iterTo W w0.heap.size s k) s k:=by
 have hlt:=lt_of_heap h.here
 refine ⟨⟨h.kept.os,h.kept.tape,h.kept.output,?_,?_⟩,?_⟩
 ·
  show w0.heap.size≤(W.heap.setIfInBounds _ _).size
  rw [Array.size_setIfInBounds];exact h.kept.size
 ·
  intro i hi hF
  show (W.heap.setIfInBounds _ _)[i]?=_
  rw [Array.getElem?_setIfInBounds,if_neg (by omega)]
  exact h.kept.block i hi hF
 ·
  show (W.heap.setIfInBounds _ _)[_]?=_
  rw [Array.getElem?_setIfInBounds,if_pos rfl,if_pos hlt]
theorem It.turn {w0 W W':World} {s:ByteArray} {j:Nat} (h:It w0 W s j) (k:Kept [] W W'):It w0 W' s j:=
 ⟨h.kept.trans k (by simp),(k.block _ (lt_of_heap h.here) (by simp)).trans h.here⟩
theorem It.pos {w0 W:World} {s:ByteArray} {j:Nat} (h:It w0 W s j):W.iterPos w0.heap.size=j:=by simp [World.iterPos,h.here]
theorem may_stand (r:Int) (w:World) :
  Calls Tryz.prog 145 #[.int .i32 r] w fun e w'=>e=.returned (.bool (!(decide (r < 32) || r == 127 || r == 47)))∧w'=w:=by
 by_cases h1:r < 32
 ·
  have e1:(!(decide (r < 32) || r == 127 || r == 47))=false:=by simp [h1]
  rw [e1]
  have i1:¬ (32:Int)≤r:=by omega
  go_enter Tryz.func145,Tryz.ntmps145
  go_wp2
  go_ret
  exact ⟨rfl,rfl⟩
 have i1:(32:Int)≤r:=by omega
 by_cases h2:r=127
 ·
  subst h2
  go_enter Tryz.func145,Tryz.ntmps145
  go_wp2
  go_ret
  exact ⟨rfl,rfl⟩
 have c2:(r == 127)=false:=by simpa using h2
 have c1:decide (r < 32)=false:=by simpa using h1
 have c3:(r != 127)=true:=by simpa using h2
 rw [c1,c2]
 by_cases h3:r=47
 ·
  subst h3
  go_enter Tryz.func145,Tryz.ntmps145
  go_wp2
  go_ret
  exact ⟨rfl,rfl⟩
 have c4:(r == 47)=false:=by simpa using h3
 have c5:(r != 47)=true:=by simpa using h3
 rw [c4]
 go_enter Tryz.func145,Tryz.ntmps145
 go_wp2
 go_ret
 exact ⟨rfl,rfl⟩
theorem t_decode (s:ByteArray) (w:World) (hT:Tab w) (h0:0 < s.size) :
  Calls Tryz.prog 158 #[.string s] w fun e w'=>e=.returned (.tuple #[.int .i32 (one s 0).1,.int .i64 ((max (one s 0).2 1:Nat):Int)])∧Kept [] w w':=by
 have hne:s.toList.isEmpty=false:=by
  rw [← Bool.not_eq_true,List.isEmpty_iff]
  intro h
  have:s.toList.length=s.size:=by rw [ByteArray.toList_eq];simp
  rw [h] at this
  simp at this
  omega
 have hz0:(0:Int) < (s.size:Int):=by omega
 have hs0:=at8_in h0
 by_cases ha:at8 s 0 < 128
 ·
  have hd:one s 0=((at8 s 0:Int),1):=by unfold one;simp only [];rw [if_pos (by omega)]
  rw [hd]
  have haz:(at8 s 0:Int) < 128:=by omega
  clear hT hd
  generalize at8 s 0=x0 at *
  go_enter Tryz.func158,Tryz.ntmps158
  go_wp2
  go_ret2
  exact ⟨rfl,Kept.refl _ _⟩
 ·
  have hsl:=slow_any s w hT h0 (by omega)
  unfold Slow at hsl
  rw [(decode_one s 0).1,(decode_one s 0).2] at hsl
  have haz:¬ (at8 s 0:Int) < 128:=by omega
  have HS:Hid (_):=hsl
  clear hsl hT
  generalize at8 s 0=x0 at *
  go_enter Tryz.func158,Tryz.ntmps158
  go_wp2_with fail
  refine Calls.mono HS.out ?_
  rintro e w1 ⟨rfl,hk⟩
  go_wp2_with fail
  go_ret2
  exact ⟨rfl,hk⟩
theorem one_cases (s:ByteArray) (i:Nat):((one s i).2=0∧(one s i).1=65533)∨((one s i).2=1∧(one s i).1 < 128)∨2≤(one s i).2:=by
 unfold one
 simp only []
 repeat' split
 all_goals first
  | (left;exact ⟨rfl,rfl⟩)
  | (right;left;exact ⟨rfl,by assumption⟩)
  | (right;right;simp only [];omega)
theorem is_stray (s:ByteArray) (w:World) (hT:Tab w) (h0:0 < s.size) :
  Calls Tryz.prog 146 #[.string s] w fun e w'=>e=.returned (.bool ((one s 0).2 == 0))∧Kept [] w w':=by
 have hd:=t_decode s w hT h0
 have hc:=one_cases s 0
 generalize (one s 0).1=r at *
 generalize (one s 0).2=k at *
 have HS:Hid (_):=hd
 clear hd hT
 rcases hc with ⟨rfl,rfl⟩ | ⟨rfl,h⟩ | h
 ·
  go_enter Tryz.func146,Tryz.ntmps146
  go_wp2_with fail
  refine Calls.mono HS.out ?_
  rintro e w1 ⟨rfl,hk⟩
  go_wp2_with fail
  go_ret
  exact ⟨rfl,hk⟩
 ·
  have c:(r == 65533)=false:=by simp;omega
  go_enter Tryz.func146,Tryz.ntmps146
  go_wp2_with fail
  refine Calls.mono HS.out ?_
  rintro e w1 ⟨rfl,hk⟩
  go_wp2_with fail
  go_ret
  exact ⟨rfl,hk⟩
 ·
  have e1:max k 1=k:=by omega
  rw [e1] at HS
  have c:(k == 0)=false:=by simp;omega
  have c1:((k:Int) == 1)=false:=by simp;omega
  rw [c]
  go_enter Tryz.func146,Tryz.ntmps146
  go_wp2_with fail
  refine Calls.mono HS.out ?_
  rintro e w1 ⟨rfl,hk⟩
  go_wp2_with fail
  all_goals (go_ret;exact ⟨rfl,hk⟩)
theorem ext_split (s:ByteArray) (j:Nat) (h:j≤s.size):s.extract 0 j ++ s.extract j s.size=s:=by
 rw [ByteArray.extract_append_extract,Nat.min_eq_left (by omega),Nat.max_eq_right h,ByteArray.extract_zero_size]
theorem one_from (s:ByteArray) (j:Nat) (h:j < s.size):one (s.extract j s.size) 0=one s j∧0 < (s.extract j s.size).size:=by
 have hs:(s.extract 0 j).size=j:=by rw [ByteArray.size_extract];omega
 refine ⟨?_,by rw [ByteArray.size_extract];omega⟩
 have:=one_right (s.extract 0 j) (s.extract j s.size) 0
 rw [ext_split s j (by omega),hs] at this
 exact this.symm
theorem stray_from (s:ByteArray) (j:Nat) (w:World) (hT:Tab w) (h:j < s.size) :
  Calls Tryz.prog 146 #[.string (s.extract j s.size)] w fun e w'=>e=.returned (.bool ((one s j).2 == 0))∧Kept [] w w':=by
 have:=is_stray (s.extract j s.size) w hT (one_from s j h).2
 rw [(one_from s j h).1] at this
 exact this
theorem n_check (s:ByteArray) (w:World) (hT:Tab w) :
  Calls Tryz.prog 118 #[.string s] w fun e w'=>e=.returned (.int .i64 (chk s))∧Kept [] w w':=by
 obtain ⟨z,hz⟩:∃ z,chk s=z:=⟨_,rfl⟩
 rw [hz]
 by_cases hl:12 < s.size
 ·
  have i0:(12:Int) < (s.size:Int):=by omega
  have HZ:Hid (801=z):=by show 801=z;rw [← hz];unfold chk;rw [if_pos hl]
  clear hz hT
  go_enter Tryz.func118,Tryz.ntmps118
  go_wp2_with fail
  go_ret
  exact ⟨ret_int HZ.out,Kept.refl _ _⟩
 have i0:¬ (12:Int) < (s.size:Int):=by omega
 by_cases he:s.toList=[]∨s.toList=[46]∨s.toList=[46,46]
 ·
  have HZ:Hid (800=z):=by show 800=z;rw [← hz];unfold chk;rw [if_neg hl,if_pos he]
  clear hz hT
  rcases he with he | he | he
  ·
   have t1:s.toList.isEmpty=true:=by rw [he];rfl
   go_enter Tryz.func118,Tryz.ntmps118
   go_wp2_with fail
   go_ret
   exact ⟨ret_int HZ.out,Kept.refl _ _⟩
  ·
   have t1:s.toList.isEmpty=false:=by rw [he];rfl
   have t2:(s.toList == [46])=true:=by rw [he];rfl
   go_enter Tryz.func118,Tryz.ntmps118
   go_wp2_with fail
   go_ret
   exact ⟨ret_int HZ.out,Kept.refl _ _⟩
  ·
   have t1:s.toList.isEmpty=false:=by rw [he];rfl
   have t2:(s.toList == [46])=false:=by rw [he];rfl
   have t3:(s.toList == [46,46])=true:=by rw [he];rfl
   go_enter Tryz.func118,Tryz.ntmps118
   go_wp2_with fail
   go_ret
   exact ⟨ret_int HZ.out,Kept.refl _ _⟩
 have HZ:Hid ((if (rs s 0).any badR then 800 else 0)=z):=by show _=z;rw [← hz];unfold chk;rw [if_neg hl,if_neg he]
 clear hz
 have n1:¬ s.toList=[]:=fun h=>he (Or.inl h)
 have n2:¬ s.toList=[46]:=fun h=>he (Or.inr (Or.inl h))
 have n3:¬ s.toList=[46,46]:=fun h=>he (Or.inr (Or.inr h))
 have t1:s.toList.isEmpty=false:=by rw [← Bool.not_eq_true,List.isEmpty_iff];exact n1
 have t2:(s.toList == [46])=false:=by simpa using n2
 have t3:(s.toList == [46,46])=false:=by simpa using n3
 clear he
 have HT:Hid (Tab w):=hT
 clear hT
 go_enter Tryz.func118,Tryz.ntmps118
 go_wp2_with fail
 go_loopw [] (fun wr=>∃ (j:Nat),Hid (It w wr s j)∧j≤s.size∧Hid ((rs s j).any badR=(rs s 0).any badR)) (fun wr=>s.size - wr.iterPos w.heap.size)
 case atStart=>exact ⟨0,It.begin w s,by omega,rfl⟩
 case round=>
  obtain ⟨j,HI,hj,HH⟩:=hrel
  by_cases hlt:j < s.size
  ·
   have hnx:=next_at HI.out.here hlt
   have hst:=step_le hlt
   have hj1:(0:Int)≤(j:Int):=by omega
   have hj2:(j:Int)≤(s.size:Int):=by omega
   obtain ⟨W1,hW1⟩:∃ W1,iterTo wr w.heap.size s (j+max (one s j).2 1)=W1:=⟨_,rfl⟩
   have hI1:It w W1 s (j+max (one s j).2 1):=by rw [← hW1];exact HI.out.next _
   rw [hW1] at hnx
   have HJ:Hid (It w W1 s (j+max (one s j).2 1)∧Tab W1∧wr.iterPos w.heap.size=j):=⟨hI1,HT.out.kept hI1.kept,HI.out.pos⟩
   clear hI1 hW1 HI
   go_wp2_with fail
   refine (may_stand (one s j).1 W1).mono ?_
   rintro e w1 ⟨rfl,rfl⟩
   by_cases hb:badR (one s j)=true
   ·
    have HE:Hid (800=z):=by
     show 800=z
     have h1:=bad_yes hlt hb
     rw [HH.out] at h1
     rw [← HZ.out,h1];rfl
    clear HH HZ
    by_cases hm:(decide ((one s j).1 < 32) || (one s j).1 == 127 || (one s j).1 == 47)=true
    ·
     rw [hm]
     go_wp2_with fail
     go_ret
     exact ⟨ret_int HE.out,HJ.out.1.kept⟩
    ·
     have hm2:(decide ((one s j).1 < 32) || (one s j).1 == 127 || (one s j).1 == 47)=false:=by simpa using hm
     rw [hm2]
     have hk0:((one s j).2 == 0)=true:=by
      unfold badR at hb
      simp only [Bool.or_eq_true,beq_iff_eq,decide_eq_true_eq] at hb hm ⊢
      omega
     clear hm hm2 hb
     go_wp2_with fail
     refine (stray_from s j w1 HJ.out.2.1 hlt).mono ?_
     rintro e w2 ⟨rfl,hk⟩
     rw [hk0]
     have HK:Hid (_):=HJ.out.1.kept.trans hk (by simp)
     clear hk
     go_wp2_with fail
     go_ret
     exact ⟨ret_int HE.out,HK.out⟩
   ·
    have hb2:badR (one s j)=false:=by simpa using hb
    obtain ⟨h1,h2⟩:=bad_no hlt hb2
    have e1:max (one s j).2 1=(one s j).2:=by omega
    have HN:Hid ((rs s (j+(one s j).2)).any badR=(rs s 0).any badR):=h1.trans HH.out
    clear HH h1 hb2
    rw [e1] at HJ hst
    unfold badR at hb
    simp only [Bool.or_eq_true,beq_iff_eq,decide_eq_true_eq] at hb
    have hm2:(decide ((one s j).1 < 32) || (one s j).1 == 127 || (one s j).1 == 47)=false:=by
     rw [← Bool.not_eq_true]
     simp only [Bool.or_eq_true,beq_iff_eq,decide_eq_true_eq]
     omega
    have hk0:((one s j).2 == 0)=false:=by simp;omega
    rw [hm2]
    clear hb hm2
    go_wp2_with fail
    refine (stray_from s j w1 HJ.out.2.1 hlt).mono ?_
    rintro e w2 ⟨rfl,hk⟩
    rw [hk0]
    have HK:Hid (_):=HJ.out.1.turn hk
    clear hk
    go_wp2_with fail
    go_roundw
    case rel=>exact ⟨j+(one s j).2,HK.out,hst,HN.out⟩
    case measure=>
     have m1:=HK.out.pos
     have m2:=HJ.out.2.2
     simp only [m1,m2]
     omega
  ·
   have hnx:=next_none HI.out.here hlt
   have HE:Hid (0=z):=by
    have:=HH.out
    rw [rs_end hlt] at this
    show 0=z
    rw [← HZ.out,← this];rfl
   clear HH HZ
   go_wp2_with fail
   go_ret
   exact ⟨ret_int HE.out,HI.out.kept⟩
theorem n_may (s:ByteArray) (w:World) (hT:Tab w) :
  Calls Tryz.prog 78 #[.string s] w fun e w'=>e=.returned (.bool (chk s == 0))∧Kept [] w w':=by
 have HC:Hid (_):=n_check s w hT
 clear hT
 obtain ⟨z,hz⟩:∃ z,chk s=z:=⟨_,rfl⟩
 rw [hz] at HC ⊢
 clear hz
 go_enter Tryz.func78,Tryz.ntmps78
 go_wp2_with fail
 refine Calls.mono HC.out ?_
 rintro e w1 ⟨rfl,hk⟩
 have HK:Hid (_):=hk
 clear hk
 go_wp2_with fail
 go_ret
 exact ⟨rfl,HK.out⟩
end Go.Proofs.YtffncojcnbhblaaGreatDoor
namespace Go.Proofs.YtffncojcnbhblaaGreatDoor
end Go.Proofs.YtffncojcnbhblaaGreatDoor
