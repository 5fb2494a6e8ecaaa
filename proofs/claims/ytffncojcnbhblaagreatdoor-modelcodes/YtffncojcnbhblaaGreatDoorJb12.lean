/-
  Joined of my texts In.
-/
import Derived.Test.YtffncojcnbhblaaGreatDoorJb11
import Derived.Laws.CopyRow
import Derived.Lib.Overlaps
set_option linter.unusedVariables false
set_option linter.unusedSimpArgs false
set_option maxRecDepth 100000
set_option maxHeartbeats 8000000
namespace Go.Proofs.YtffncojcnbhblaaGreatDoor
open Go.RowKit
theorem run_copy_k {P:Program} (w:World) (dT sT ty elem:TypeId) (g o dLen dCap:Nat) (a:Addr) (sLen sCap:Nat) (cur:Array Value) (t:TypeId) (cs:List Value) (k:Nat)
  (hu:P.underlying dT=some (.slice elem)) (hs:(P.info? elem).map (·.size)=some k)
  (hg:w.heap[g]?=some (.cells cur t (0,0))) (hn:cs.length=Nat.min sLen dLen*k)
  (hsrc:∀ j v,cs[j]?=some v→w.cell? (a.add j)=some v) (hfit:o+cs.length≤cur.size) (h1:∀ v∈cs,v.oneCell'=true) :
  (Builtin.copy_ #[dT,sT] ty #[.slice (some ⟨g,o,none⟩) dLen dCap,.slice (some a) sLen sCap]).run P w =
   .ok (goInt (Nat.min sLen dLen)) (w.setRow g (cur.toList.take o ++ cs ++ cur.toList.drop (o+cs.length)).toArray):=by
 have hl:=run_loadCells_list (P:=P) w a cs hsrc
 have hst:=run_storeCells_at P g o t cs 0 cur w hg (by simpa using hfit) h1
 cases hq:P.info? elem with
 | none=>simp [hq] at hs
 | some i=>
  have hi:i.size=k:=by simpa [hq] using hs
  simp [Builtin.copy_,run_underlying hu,Builtin.lenOf,Builtin.firstCells,sizeOf,typeInfo,hq,hi,← hn,hl,hst]
theorem zeroCells_size (cs:Array Value) (n:Nat):(Builtin.zeroCells cs n).size=n*cs.size:=by
 simp [Builtin.zeroCells,Nat.mul_comm]
theorem run_append_make {P:Program} (w:World) (t ti ty e:TypeId) (i:TypeInfo) (z:Value) (k bytes:Nat) (ht:P.underlying t=some (.slice e)) (hti:P.underlying ti=some (.int .i64)) (hi:P.info? e=some i) (hz:i.zero=some z)
  (hsize:i.size=k) (hby:i.bytes=bytes) (hzs:z.cells.size=k) (hk:0 < k) (H g n cap m:Nat) (xs:List Value) (hl:xs.length=n*k)
  (hx:∀ j u,xs[j]?=some u→w.cell? ⟨g,j,none⟩=some u) (hm:0 < m) (hroom:¬ n+m≤cap) (hb:(n+m)*bytes≤140737488355328) (hn:n+m≤17592186043905) (hH:H≤w.heap.size) :
  ∃ cap' zs,(Builtin.append_ #[t,ti] ty #[.slice (some ⟨g,0,none⟩) n cap,.int .i64 (m:Int)]).run P w=.ok (.slice (some ⟨w.heap.size,0,none⟩) (n+m) cap') (w.drew.alloc (.cells ((xs ++ zs).toArray ++ Builtin.zeroCells z.cells (cap' - (n+m))) e))∧zs.length=m*k∧n+m≤cap'∧cap'≤maxLen:=by
 have hw:IntKind.i64.wrap (m:Int)=(m:Int):=by rw [IntKind.wrap_i64];omega
 have n0:¬ ((m:Int) < 0):=by omega
 have hmb:(m:Int)*(bytes:Int)≤281474976710656:=by
  have h1:m*bytes≤(n+m)*bytes:=Nat.mul_le_mul_right _ (by omega)
  have h2:((m*bytes:Nat):Int)≤140737488355328:=by omega
  rw [Int.natCast_mul] at h2
  omega
 have n1:¬ ((281474976710656:Int) < (m:Int)*(bytes:Int)):=by omega
 have n2:¬ m*k=0:=by
  intro e
  rcases Nat.mul_eq_zero.1 e with e | e <;> omega
 have hge:=grownCap_ge w (n+m) cap e
 have hcm:grownCap w (n+m) cap e≤maxLen:=grownCap_le_maxLen w (n+m) cap e (by unfold maxLen;omega)
 have h48':¬ (281474976710656 < Builtin.nextslicecap (n+m) cap*bytes):=by
  have:=growslice_fits (need:=n+m) (old:=cap) (bytes:=bytes) (by omega) (by omega)
  omega
 have h63':¬ (9223372036854775807 < ((n:Int)+(m:Int))):=by omega
 have hfo:=run_firstCells_some (P:=P) w.drew k n ⟨g,0,none⟩ n cap xs (by simpa using hl) (fun j u hu=>by rw [add_lit,Nat.zero_add];exact hx j u hu)
 refine ⟨grownCap w (n+m) cap e,(Builtin.zeroCells z.cells m).toList,?_,?_,hge,hcm⟩
 ·
  simp [Builtin.append_,run_underlying ht,run_underlying hti,sizeOf,typeInfo,zeroValue,asInt,asIntOf,hi,hz,hsize,hby,hw,n0,n1,n2,hroom,h63',h48',Question.forced,hfo,newRow,grownCap]
  congr 2
  apply Array.ext'
  simp
 · rw [Array.length_toList,zeroCells_size,hzs]
theorem step_copy_run {P:Program} {ops:Array Oper} {o:Oper} {a:Act} {w:World} {K:Act→World→Prop} {Q:Exit→Act→World→Prop} {E:Prop} (hg:o.guard=none) (s x:Operand) (t1 t2:TypeId)
  (hop:o.op=Op.call { callee:=Callee.builtin Builtin.copy,args:=#[s,x],argTypes:=#[t1,t2] }) (v u:Value) (hs:a.eval s=v) (hx:a.eval x=u) (v':Value) (w':World)
  (hrun:(Builtin.copy_ #[t1,t2] o.type #[v,u]).run P w=.ok v' w') (hK:K (a.put o.dst v') w'):if Region.wanted o (yielded ops a.tmps)=true then Oper.wp P o a w K Q else E:=by
 have hw:Region.wanted o (yielded ops a.tmps)=true:=by simp [Region.wanted,hg]
 rw [if_pos hw]
 unfold Oper.wp
 simp [execOp,hop,resolve,invoke,builtin,hs,hx,hrun,Result.andThen]
 exact hK
theorem put2 {A P Y R:List Value} {p k r:Nat} (hP:A.take p=P) (hp:P.length=p) (hY:Y.length=k) (hR:R.length=r) (hl:p+k+r≤A.length) :
  ((A.take p ++ Y ++ A.drop (p+k)).take (p+k) ++ R ++ (A.take p ++ Y ++ A.drop (p+k)).drop (p+k+r)).take (p+k+r)=P ++ Y ++ R∧
  ((A.take p ++ Y ++ A.drop (p+k)).take (p+k) ++ R ++ (A.take p ++ Y ++ A.drop (p+k)).drop (p+k+r)).length=A.length∧
  (A.take p ++ Y ++ A.drop (p+k)).length=A.length:=by
 rw [hP]
 have h1:(P ++ Y).length=p+k:=by rw [List.length_append,hp,hY]
 have h2:(P ++ Y ++ A.drop (p+k)).take (p+k)=P ++ Y:=List.take_left' h1
 have h3:(P ++ Y ++ A.drop (p+k)).length=A.length:=by rw [List.length_append,h1,List.length_drop];omega
 rw [h2]
 refine ⟨List.take_left' (by rw [List.length_append,h1,hR]),?_,h3⟩
 rw [List.length_append,List.length_append,h1,hR,List.length_drop,h3]
 omega
theorem put3 {A P Y R:List Value} {p k r:Nat} (hP:A.take p=P) (hp:P.length=p) (hY:Y.length=k) (hR:R.length=r) (hl:p+k+r≤A.length) :
  ((A.take (p+k) ++ R ++ A.drop (p+k+r)).take p ++ Y ++ (A.take (p+k) ++ R ++ A.drop (p+k+r)).drop (p+k)).take (p+k+r)=P ++ Y ++ R∧
  ((A.take (p+k) ++ R ++ A.drop (p+k+r)).take p ++ Y ++ (A.take (p+k) ++ R ++ A.drop (p+k+r)).drop (p+k)).length=A.length∧
  (A.take (p+k) ++ R ++ A.drop (p+k+r)).length=A.length:=by
 have h0:(A.take (p+k)).length=p+k:=by rw [List.length_take];omega
 have h1:(A.take (p+k) ++ R ++ A.drop (p+k+r)).take p=P:=by
  rw [List.append_assoc,List.take_append_of_le_length (by rw [h0];omega),List.take_take,Nat.min_eq_left (by omega),hP]
 have h2:(A.take (p+k) ++ R ++ A.drop (p+k+r)).drop (p+k)=R ++ A.drop (p+k+r):=by
  rw [List.append_assoc]
  exact List.drop_left' h0
 have h3:(A.take (p+k) ++ R ++ A.drop (p+k+r)).length=A.length:=by rw [List.length_append,List.length_append,h0,hR,List.length_drop];omega
 rw [h1,h2,← List.append_assoc]
 refine ⟨List.take_left' (by rw [List.length_append,List.length_append,hp,hY,hR]),?_,h3⟩
 rw [List.length_append,List.length_append,List.length_append,hp,hY,hR,List.length_drop]
 omega
end Go.Proofs.YtffncojcnbhblaaGreatDoor
