/-
  Joined of my texts Fu Bs.
-/
import Derived.Test.YtffncojcnbhblaaGreatDoorJb10
import Derived.Test.YtffncojcnbhblaaGreatDoorTk
set_option linter.unusedVariables false
set_option linter.unusedSimpArgs false
set_option maxRecDepth 100000
set_option maxHeartbeats 8000000
namespace Go.Proofs.YtffncojcnbhblaaGreatDoor
open Go.RowKit
def inQ (d:Int) (t:ByteArray) (ld:Int) (lt:ByteArray) (e:En):Bool:=bkt e.1 == bkt t && !(ld == d && lt.toList == e.1.toList)
def nFull (E:List En) (d:Int) (t:ByteArray) (ld:Int) (lt:ByteArray):Nat:=E.countP (inQ d t ld lt)
theorem nFull_take {E:List En} {d ld:Int} {t lt:ByteArray} {n:Nat} (h:n < E.length):nFull (E.take (n+1)) d t ld lt=nFull (E.take n) d t ld lt+if inQ d t ld lt E[n] then 1 else 0:=by
 unfold nFull
 rw [List.take_succ_eq_append_getElem h,List.countP_append]
 congr 1
 by_cases e:inQ d t ld lt E[n]=true <;> simp [e]
theorem neq_spot (a x:Int) (b y:ByteArray) (w:World):(binOp .neq 147 (.agg #[.int .i64 a,.string b]) (.agg #[.int .i64 x,.string y])).run Tryz.prog w=.ok (.bool (!(a == x && b.toList == y.toList))) w:=by
 have u3:=Tryz.underlying3
 have a3:=Tryz.isAgg3
 have z3:=Tryz.sizeOf3
 have u9:=Tryz.underlying9
 have a9:=Tryz.isAgg9
 have z9:=Tryz.sizeOf9
 have hS:Tryz.prog.underlying 147=some (.struct (Tryz.prog.fieldsOf 147)):=by kernel_rfl
 have hp:Tryz.prog.stoodInHeld 147=false:=by kernel_rfl
 rw [run_neq_struct,show (10000:Nat)=9999+1 from rfl,run_equalIn_agg w 9999 147 _ _ hS hp]
 simp only [Program.fieldsOf,Tryz.underlying147]
 go_simp
 by_cases h1:a=x <;> by_cases h2:b.toList=y.toList <;> simp [h1,h2]
theorem s5_kept {Wz w w':World} {R Q Z:Nat} {d ld:Int} {t lt te:ByteArray} (h:Kept [] Wz w∧w.cell? ⟨R,0,none⟩=some (.int .i64 d)∧w.cell? ⟨R,1,none⟩=some (.string t)∧w.cell? ⟨Q,0,none⟩=some (.int .i64 ld)∧w.cell? ⟨Q,1,none⟩=some (.string lt)∧w.cell? ⟨Z,0,none⟩=some (.string te)) (k:Kept [] w w'):Kept [] Wz w'∧w'.cell? ⟨R,0,none⟩=some (.int .i64 d)∧w'.cell? ⟨R,1,none⟩=some (.string t)∧w'.cell? ⟨Q,0,none⟩=some (.int .i64 ld)∧w'.cell? ⟨Q,1,none⟩=some (.string lt)∧w'.cell? ⟨Z,0,none⟩=some (.string te):=
 ⟨h.1.trans k (by simp),k.cell h.2.1 (by simp),k.cell h.2.2.1 (by simp),k.cell h.2.2.2.1 (by simp),k.cell h.2.2.2.2.1 (by simp),k.cell h.2.2.2.2.2 (by simp)⟩
theorem p_full {w:World} {B:Nat} {c:Cal} {pk:Value} {p:Pl} {S:Sta} (h:Rd w B c pk p S) (d:Int) (t:ByteArray) (ld:Int) (lt:ByteArray) {k:Nat} (hat:atR S.ino d=some k) (hk:k < S.ino.length) :
  Calls Tryz.prog 130 #[.pointer (some ⟨B,0,none⟩),.agg #[.int .i64 d,.string t],.agg #[.int .i64 ld,.string lt]] w fun e w'=>e=.returned (.bool (decide (4≤nFull (S.ino[k]).ents d t ld lt)))∧Kept [] w w':=by
 obtain ⟨W1,R,HWR,HKR,r0,r1⟩:=box2 w (.int .i64 d) (.string t) 147
 obtain ⟨W2,Q,HWQ,HKQ,l0,l1⟩:=box2 W1 (.int .i64 ld) (.string lt) 147
 have HQ:Hid (Q=R+1):=by show _=_;rw [← HWQ.out.2,← HWR.out.1,← HWR.out.2];simp
 have HR:Hid (Rd W2 B c pk p S):=(h.kept HKR.out).kept HKQ.out
 have HK2:Hid (Kept [] w W2):=HKR.out.trans HKQ.out (by simp)
 have s0:=HKQ.out.cell r0 (by simp)
 have s1:=HKQ.out.cell r1 (by simp)
 obtain ⟨b,o,ae,ce,ha,-,-,q2,-,q4,-⟩:=HR.out.sv.ino k hk
 have HN:Hid ((S.ino[k]).ents.length≤lim):=h.sv.n4 _ (List.getElem_mem hk)
 obtain ⟨E,hE⟩:∃ E,(S.ino[k]).ents=E:=⟨_,rfl⟩
 rw [hE] at q2 q4 HN ⊢
 have HEn:Hid (EntA W2 ae E):=q4
 have HA:Hid (atR S.ino d=some k∧p.a1=some ⟨b,o,none⟩):=⟨hat,ha⟩
 have d8:=HR.out.c8
 rw [ha] at d8
 have HC:Hid (W2.cell? ⟨B,8,none⟩=some (.slice (some ⟨b,o,none⟩) S.ino.length p.c1)∧W2.cell? ⟨B,9,none⟩=some (.slice p.a2 S.opn.length p.c2)∧W2.cell? ⟨B,10,none⟩=some (.slice p.a3 S.made.length p.c3)∧W2.cell? ⟨R,0,none⟩=some (.int .i64 d)∧W2.cell? ⟨b,o+k*4+2,none⟩=some (.slice ae E.length ce)):=⟨d8,HR.out.c9,HR.out.c10,s0,q2⟩
 have HIn:Hid (∀ W,Sv W p S→Calls Tryz.prog 48 #[.agg #[.slice (some ⟨b,o,none⟩) S.ino.length p.c1,.slice p.a2 S.opn.length p.c2,.slice p.a3 S.made.length p.c3],.int .i64 d] W fun e w'=>e=.returned (.pointer (some ⟨b,o+k*4,none⟩))∧Kept [] W w'):=fun W hW=>by
  have:=p_inode_some hW d hat ha
  unfold sval at this
  rw [ha] at this
  exact this
 have hlim:E.length≤140737488355328:=HN.out
 obtain ⟨bt,hbt⟩:∃ bt:Nat,bkt t=(bt:Int):=⟨(bkt t).toNat,by have:=bkt_range t;omega⟩
 have HBt:Hid (_):=hbt
 clear h hat hE q2 q4 ha d8 r0 r1 hbt
 go_enter Tryz.func130,Tryz.ntmps130
 go_upto_region 2 with fail
 rw [HWR.out.1,HWR.out.2,HWQ.out.1]
 rw [HQ.out] at l0 l1
 clear HWR HWQ
 go_region_held3 (fun w'=>w'.cell? ⟨B,8,none⟩=some (.slice (some ⟨b,o,none⟩) S.ino.length p.c1)∧w'.cell? ⟨B,9,none⟩=some (.slice p.a2 S.opn.length p.c2)∧w'.cell? ⟨B,10,none⟩=some (.slice p.a3 S.made.length p.c3)∧w'.cell? ⟨R,0,none⟩=some (.int .i64 d)∧w'.cell? ⟨b,o+k*4+2,none⟩=some (.slice ae E.length ce)) (first | exact HC.out | exact z4 | go_keep)
  (first
   | (go_at_call 48;refine (HIn.out _ (HR.out.sv.kept (Kept.refl _ _).drew)).mono ?_;rintro e w4 ⟨rfl,k4⟩;have z4:=(⟨k4.cell (HC.out.1) (by simp),k4.cell (HC.out.2.1) (by simp),k4.cell (HC.out.2.2.1) (by simp),k4.cell (HC.out.2.2.2.1) (by simp),k4.cell (HC.out.2.2.2.2) (by simp)⟩:w4.cell? ⟨B,8,none⟩=some (.slice (some ⟨b,o,none⟩) S.ino.length p.c1)∧w4.cell? ⟨B,9,none⟩=some (.slice p.a2 S.opn.length p.c2)∧w4.cell? ⟨B,10,none⟩=some (.slice p.a3 S.made.length p.c3)∧w4.cell? ⟨R,0,none⟩=some (.int .i64 d)∧w4.cell? ⟨b,o+k*4+2,none⟩=some (.slice ae E.length ce));have HK4:Hid (Kept [] W2 w4):=(Kept.refl _ _).drew.trans k4 (by simp);clear k4))
 have HEn4:Hid (EntA w4 ae E):=HEn.out.kept HK4.out
 have HSp:Hid (w4.cell? ⟨R,0,none⟩=some (.int .i64 d)∧w4.cell? ⟨R,1,none⟩=some (.string t)∧w4.cell? ⟨R+1,0,none⟩=some (.int .i64 ld)∧w4.cell? ⟨R+1,1,none⟩=some (.string lt)):=⟨HK4.out.cell s0 (by simp),HK4.out.cell s1 (by simp),HK4.out.cell l0 (by simp),HK4.out.cell l1 (by simp)⟩
 have HK04:Hid (Kept [] w w4):=HK2.out.trans HK4.out (by simp)
 clear z4 HC HK4 s0 s1 l0 l1
 go_wp2_with fail
 go_loopw [21,7] (fun i u wr=>∃ n:Nat,i=.int .i64 (n:Int)∧u=.int .i64 ((nFull (E.take n) d t ld lt:Nat):Int)∧n≤E.length∧Hid (Kept [] w4 wr)) (fun i _ _=>(E.length - intOf i).toNat)
 case atStart=>exact ⟨0,rfl,rfl,by omega,Kept.refl _ _⟩
 case round=>
  obtain ⟨n,rfl,rfl,hn,HJ⟩:=hrel
  by_cases hlt:n < E.length
  ·
   have j0:(0:Int)≤(n:Int):=by omega
   have j1:(n:Int) < (E.length:Int):=by omega
   obtain ⟨b5,o5,hb5,g1,g2⟩:=(HEn4.out.kept HJ.out) n hlt
   have HA5:Hid (_):=hb5
   have HTk:Hid (_):=nFull_take (d:=d) (ld:=ld) (t:=t) (lt:=lt) hlt
   have hfl:nFull (E.take n) d t ld lt≤n:=by
    have:nFull (E.take n) d t ld lt≤(E.take n).length:=List.countP_le_length
    rw [List.length_take] at this
    omega
   have HIQ:Hid (inQ d t ld lt E[n]=(bkt (E[n]).1 == bkt t && !(ld == d && lt.toList == (E[n]).1.toList))):=rfl
   obtain ⟨q,hq⟩:∃ q,nFull (E.take n) d t ld lt=q:=⟨_,rfl⟩
   rw [hq] at hfl HTk ⊢
   obtain ⟨te,hte⟩:∃ te,(E[n]).1=te:=⟨_,rfl⟩
   rw [hte] at g1 HIQ
   generalize (E[n]).2=ze at g2
   obtain ⟨be,hbe⟩:∃ be:Nat,bkt te=(be:Int):=⟨(bkt te).toNat,by have:=bkt_range te;omega⟩
   have HBe:Hid (_):=hbe
   rw [hb5]
   clear hq hte hb5 hbe
   obtain ⟨Wz,Z,HWZ,HKZ,e0,e1⟩:=box2 ‹_› (.string te) (.int .i64 ze) 64
   have HKz:Hid (Kept [] w4 Wz):=HJ.out.trans HKZ.out (by simp)
   have HC:Hid (Kept [] Wz Wz∧Wz.cell? ⟨R,0,none⟩=some (.int .i64 d)∧Wz.cell? ⟨R,1,none⟩=some (.string t)∧Wz.cell? ⟨R+1,0,none⟩=some (.int .i64 ld)∧Wz.cell? ⟨R+1,1,none⟩=some (.string lt)∧Wz.cell? ⟨Z,0,none⟩=some (.string te)):=⟨Kept.refl _ _,HKz.out.cell HSp.out.1 (by simp),HKz.out.cell HSp.out.2.1 (by simp),HKz.out.cell HSp.out.2.2.1 (by simp),HKz.out.cell HSp.out.2.2.2 (by simp),e0⟩
   go_upto_region 5 with fail
   rw [HWZ.out.1,HWZ.out.2]
   clear HWZ g1 g2 HJ HKZ e0 e1
   by_cases hbq:be=bt
   ·
    have b1:((be:Int) == (bt:Int))=true:=by rw [hbq];simp
    have HI2:Hid (inQ d t ld lt E[n]=!(ld == d && lt.toList == te.toList)):=by
     show _=_
     rw [HIQ.out,HBe.out,HBt.out,b1]
     rfl
    have HBe2:Hid (bkt te=(bt:Int)):=by show _=_;rw [HBe.out,hbq]
    have b2:((bt:Int) == (bt:Int))=true:=by simp
    obtain ⟨r,hr⟩:∃ r,(!(ld == d && lt.toList == te.toList))=r:=⟨_,rfl⟩
    have hnq:∀ w,(binOp .neq 147 (.agg #[.int .i64 ld,.string lt]) (.agg #[.int .i64 d,.string te])).run Tryz.prog w=.ok (.bool r) w:=fun w=>by rw [neq_spot,hr]
    rw [hr] at HI2
    rw [HI2.out] at HTk
    clear HIQ HBe hbq b1 hr HI2
    cases r
    ·
     have HT2:Hid (nFull (E.take (n+1)) d t ld lt=q):=by show _=_;rw [HTk.out];simp
     clear HTk
     go_region_held3 (fun w'=>Kept [] Wz w'∧w'.cell? ⟨R,0,none⟩=some (.int .i64 d)∧w'.cell? ⟨R,1,none⟩=some (.string t)∧w'.cell? ⟨R+1,0,none⟩=some (.int .i64 ld)∧w'.cell? ⟨R+1,1,none⟩=some (.string lt)∧w'.cell? ⟨Z,0,none⟩=some (.string te)) (first | exact s5_kept HC.out (Kept.refl _ _).drew | exact z4 | go_keep)
      (first
       | (go_at_call 77;refine (bucket_as te bt HBe2.out _).mono ?_;rintro e w5 ⟨rfl,k4⟩;have z4:=s5_kept (by assumption) k4)
       | (go_at_call 77;refine (bucket_as t bt HBt.out _).mono ?_;rintro e w5 ⟨rfl,k4⟩;have z4:=s5_kept (by assumption) k4))
     have HKf:Hid (Kept [] w4 w5):=HKz.out.trans z4.1 (by simp)
     clear z4 HC
     go_wp2_with fail
     go_roundw
     case rel=>exact ⟨n+1,by go_num,by rw [HT2.out],by omega,HKf.out⟩
     case measure=>simp [intOf];omega
    ·
     have HT2:Hid (nFull (E.take (n+1)) d t ld lt=q+1):=by show _=_;rw [HTk.out];simp
     clear HTk
     go_region_held3 (fun w'=>Kept [] Wz w'∧w'.cell? ⟨R,0,none⟩=some (.int .i64 d)∧w'.cell? ⟨R,1,none⟩=some (.string t)∧w'.cell? ⟨R+1,0,none⟩=some (.int .i64 ld)∧w'.cell? ⟨R+1,1,none⟩=some (.string lt)∧w'.cell? ⟨Z,0,none⟩=some (.string te)) (first | exact s5_kept HC.out (Kept.refl _ _).drew | exact z4 | go_keep)
      (first
       | (go_at_call 77;refine (bucket_as te bt HBe2.out _).mono ?_;rintro e w5 ⟨rfl,k4⟩;have z4:=s5_kept (by assumption) k4)
       | (go_at_call 77;refine (bucket_as t bt HBt.out _).mono ?_;rintro e w5 ⟨rfl,k4⟩;have z4:=s5_kept (by assumption) k4))
     have HKf:Hid (Kept [] w4 w5):=HKz.out.trans z4.1 (by simp)
     clear z4 HC
     go_wp2_with fail
     go_roundw
     case rel=>exact ⟨n+1,by go_num,by rw [HT2.out];go_num,by omega,HKf.out⟩
     case measure=>simp [intOf];omega
   ·
    have b1:((be:Int) == (bt:Int))=false:=by simp;omega
    have HI2:Hid (inQ d t ld lt E[n]=false):=by
     show _=_
     rw [HIQ.out,HBe.out,HBt.out,b1]
     rfl
    have HT2:Hid (nFull (E.take (n+1)) d t ld lt=q):=by show _=_;rw [HTk.out,HI2.out];simp
    clear HIQ HTk HI2 hbq
    refine wp_region_held_drew (S:=fun w'=>Kept [] Wz w'∧w'.cell? ⟨R,0,none⟩=some (.int .i64 d)∧w'.cell? ⟨R,1,none⟩=some (.string t)∧w'.cell? ⟨R+1,0,none⟩=some (.int .i64 ld)∧w'.cell? ⟨R+1,1,none⟩=some (.string lt)∧w'.cell? ⟨Z,0,none⟩=some (.string te)) (by kernel_rfl) ?_ (fun hHeld=>?_)
    · exact s5_kept HC.out (Kept.refl _ _).drew
    refine tkA 0 rfl ?_
    refine tkA 1 rfl ?_
    refine tkA 3 rfl ?_
    refine tkA 4 rfl ?_
    refine wpAnyH_ready (rs:=[2]) (by kernel_rfl) (by simp) ?_
    refine AllReadyH.cons rfl (fun K hK=>?_) AllReadyH.nil
    go_simp
    refine (bucket_as te be HBe.out _).mono ?_
    rintro e w5 ⟨rfl,k4⟩
    have z4:=s5_kept hHeld k4
    clear k4
    go_wp2_with fail
    refine hK.out _ _ ?_ (fun hHeld=>?_)
    · exact z4
    clear hK K
    try simp only [Act.put,List.setIfInBounds_toArray,List.set_cons_zero,List.set_cons_succ,List.getElem_toArray,List.getElem_cons_zero,List.getElem_cons_succ]
    refine wpAnyH_ready (rs:=[5]) (by kernel_rfl) (by simp) ?_
    refine AllReadyH.cons rfl (fun K hK=>?_) AllReadyH.nil
    go_simp
    refine (bucket_as t bt HBt.out _).mono ?_
    rintro e w5 ⟨rfl,k4⟩
    have z4:=s5_kept hHeld k4
    clear k4
    go_wp2_with fail
    refine hK.out _ _ ?_ (fun hHeld=>?_)
    · exact z4
    clear hK K
    try simp only [Act.put,List.setIfInBounds_toArray,List.set_cons_zero,List.set_cons_succ,List.getElem_toArray,List.getElem_cons_zero,List.getElem_cons_succ]
    refine tkA 6 rfl ?_
    refine tkA 7 rfl ?_
    refine skA 8 rfl ?_
    refine skA 9 rfl ?_
    refine skA 10 rfl ?_
    refine skA 11 rfl ?_
    refine skA 12 rfl ?_
    refine skA 13 rfl ?_
    refine skA 14 rfl ?_
    refine tkA 15 rfl ?_
    refine wpAnyH_done (by kernel_rfl) ?_ _
    have HKf:Hid (Kept [] w4 w5):=HKz.out.trans z4.1 (by simp)
    clear z4 HC hHeld
    go_wp2_with fail
    go_roundw
    case rel=>exact ⟨n+1,by go_num,by rw [HT2.out],by omega,HKf.out⟩
    case measure=>simp [intOf];omega
  ·
   have j1:¬ (n:Int) < (E.length:Int):=by omega
   have HE:Hid (decide ((4:Int)≤((nFull (E.take n) d t ld lt:Nat):Int))=decide (4≤nFull E d t ld lt)):=by
    show _=_
    rw [List.take_of_length_le (by omega)]
    by_cases h4:4≤nFull E d t ld lt
    · rw [decide_eq_true h4,decide_eq_true (by omega)]
    · rw [decide_eq_false h4,decide_eq_false (by omega)]
   generalize nFull (E.take n) d t ld lt=q at *
   have HK:Hid (Kept [] w _):=HK04.out.trans HJ.out (by simp)
   clear HJ
   go_wp2_with fail
   go_ret
   exact ⟨ret_bool HE.out,HK.out⟩
def FoundAt (q:Nat) (e:Ending):Prop:=∃ f,e=.returned (.tuple #[.int .i64 (q:Int),.bool f])
theorem bs_ent {w:World} {a:Option Addr} {L:List En} (hL:EntA w a L) (hn:L.length≤5864062014634) (c:Nat) (t:ByteArray) (z:Int) (tt:En) (htt:tt=(t,z)) (hm:∀ i j (hi:i < L.length) (hj:j < L.length),i≤j→ltE L[j] tt=true→ltE L[i] tt=true) :
  Calls Tryz.prog 161 #[.slice a L.length c,.agg #[.string t,.int .i64 z],.func (.func 80) #[] #[]] w fun e w'=>FoundAt (L.findIdx fun y=>!(ltE y tt)) e∧Kept [] w w':=by
 have HM:Hid (_):=hm
 have HTT:Hid (_):=htt
 clear htt
 obtain ⟨W1,R,HWR,HKR,r0,r1⟩:=box2 w (.string t) (.int .i64 z) 64
 have HL:Hid (EntA W1 a L):=hL.kept HKR.out
 clear hL hm
 go_enter Tryz.func161,Tryz.ntmps161
 go_upto_region 1 with fail
 rw [HWR.out.1,HWR.out.2]
 clear HWR
 have HT:Hid (W1.cell? ⟨R,0,none⟩=some (.string t)∧W1.cell? ⟨R,1,none⟩=some (.int .i64 z)):=⟨r0,r1⟩
 clear r0 r1
 go_wp2_with fail
 go_loopw [9,10] (fun u v wr=>∃ i j:Nat,u=.int .i64 (i:Int)∧v=.int .i64 (j:Int)∧i≤j∧j≤L.length∧Hid (Kept [] W1 wr∧(∀ k (hk:k < L.length),k < i→ltE L[k] tt=true)∧∀ k (hk:k < L.length),j≤k→ltE L[k] tt=false)) (fun u v _=>(intOf v - intOf u).toNat)
 case atStart=>exact ⟨0,L.length,rfl,rfl,by omega,by omega,Kept.refl _ _,fun k _ hk=>by omega,fun k hk h=>by omega⟩
 case round=>
  obtain ⟨i,j,rfl,rfl,hij,hj,HJ⟩:=hrel
  by_cases hlt:i < j
  ·
   have i0:(i:Int) < (j:Int):=by omega
   obtain ⟨h,hh⟩:∃ h:Nat,(i+j) / 2=h:=⟨_,rfl⟩
   have hhl:h < L.length:=by omega
   have eh:((i:Int)+(j:Int)) / 2=(h:Int):=by omega
   obtain ⟨b,o,ha,p1,p2⟩:=(HL.out.kept HJ.out.1) h hhl
   subst ha
   have HC:Hid (wr.cell? ⟨b,o+h*2,none⟩=some (.string (L[h]).1)∧wr.cell? ⟨b,o+h*2+1,none⟩=some (.int .i64 (L[h]).2)∧wr.cell? ⟨R,0,none⟩=some (.string t)∧wr.cell? ⟨R,1,none⟩=some (.int .i64 z)):=⟨p1,p2,HJ.out.1.cell (HT.out.1) (by simp),HJ.out.1.cell (HT.out.2) (by simp)⟩
   have l0:(0:Int)≤(h:Int):=by omega
   have l1:(h:Int) < (L.length:Int):=by omega
   have hle:i≤h∧h < j:=by omega
   go_upto_region 5 with fail
   clear eh hh
   go_region_held3 (fun w'=>w'.cell? ⟨b,o+h*2,none⟩=some (.string (L[h]).1)∧w'.cell? ⟨b,o+h*2+1,none⟩=some (.int .i64 (L[h]).2)∧w'.cell? ⟨R,0,none⟩=some (.string t)∧w'.cell? ⟨R,1,none⟩=some (.int .i64 z)) (first | exact HC.out | exact z4 | go_keep)
    (first
     | (go_at_call 80;refine (by_name _ _ _ _).mono ?_;rintro e w4 ⟨rfl,k4⟩;have z4:=(⟨k4.cell (HC.out.1) (by simp),k4.cell (HC.out.2.1) (by simp),k4.cell (HC.out.2.2.1) (by simp),k4.cell (HC.out.2.2.2) (by simp)⟩:w4.cell? ⟨b,o+h*2,none⟩=some (.string (L[h]).1)∧w4.cell? ⟨b,o+h*2+1,none⟩=some (.int .i64 (L[h]).2)∧w4.cell? ⟨R,0,none⟩=some (.string t)∧w4.cell? ⟨R,1,none⟩=some (.int .i64 z));have HK:Hid (Kept [] W1 w4):=(HJ.out.1.drew).trans k4 (by simp);clear k4))
   clear z4 HC
   rcases he:ltE L[h] tt with _ | _
   ·
    have HE:Hid (Kept [] W1 w4∧(∀ k (hk:k < L.length),k < i→ltE L[k] tt=true)∧∀ k (hk:k < L.length),h≤k→ltE L[k] tt=false):=⟨HK.out,HJ.out.2.1,fun k hk hhk=>by
     rcases e:ltE L[k] tt with _ | _
     · rfl
     · rw [HM.out h k hhl hk hhk e] at he;cases he⟩
    rw [ltE_of,decide_eq_false_iff_not] at he
    rw [HTT.out] at he
    have hge:¬ cmpS (L[h]).1 t < 0:=he
    clear he HJ HK
    go_wp2_with fail
    go_roundw
    case rel=>exact ⟨i,h,rfl,rfl,by omega,by omega,HE.out⟩
    case measure=>simp [intOf];omega
   ·
    have HE:Hid (Kept [] W1 w4∧(∀ k (hk:k < L.length),k < h+1→ltE L[k] tt=true)∧∀ k (hk:k < L.length),j≤k→ltE L[k] tt=false):=⟨HK.out,fun k hk hkh=>HM.out k h hk hhl (by omega) he,HJ.out.2.2⟩
    rw [ltE_of,decide_eq_true_eq] at he
    rw [HTT.out] at he
    have hge:cmpS (L[h]).1 t < 0:=he
    clear he HJ HK
    go_wp2_with fail
    go_roundw
    case rel=>exact ⟨h+1,j,by go_num,rfl,by omega,by omega,HE.out⟩
    case measure=>simp [intOf];omega
  ·
   have i0:¬ (i:Int) < (j:Int):=by omega
   have HF:Hid ((L.findIdx fun y=>!(ltE y tt))=i):=by
    show _=_
    by_cases hil:i < L.length
    ·
     rw [List.findIdx_eq hil]
     refine ⟨by rw [HJ.out.2.2 i hil (by omega)];rfl,fun k hk=>by rw [HJ.out.2.1 k (by omega) hk];rfl⟩
    ·
     have e1:i=L.length:=by omega
     rw [e1,List.findIdx_eq_length]
     intro x hx
     obtain ⟨k,hk,rfl⟩:=List.getElem_of_mem hx
     rw [HJ.out.2.1 k hk (by omega)]
     rfl
   have HK:Hid (Kept [] W1 wr):=HJ.out.1
   clear HJ
   by_cases hil:i < L.length
   ·
    have l0:(0:Int)≤(i:Int):=by omega
    have l1:(i:Int) < (L.length:Int):=by omega
    obtain ⟨h,hh⟩:∃ h:Nat,i=h:=⟨_,rfl⟩
    subst hh
    obtain ⟨b,o,ha,p1,p2⟩:=(HL.out.kept HK.out) i hil
    subst ha
    have HC:Hid (wr.cell? ⟨b,o+i*2,none⟩=some (.string (L[i]).1)∧wr.cell? ⟨b,o+i*2+1,none⟩=some (.int .i64 (L[i]).2)∧wr.cell? ⟨R,0,none⟩=some (.string t)∧wr.cell? ⟨R,1,none⟩=some (.int .i64 z)):=⟨p1,p2,HK.out.cell (HT.out.1) (by simp),HK.out.cell (HT.out.2) (by simp)⟩
    go_upto_region 8 with fail
    go_region_held3 (fun w'=>w'.cell? ⟨b,o+i*2,none⟩=some (.string (L[i]).1)∧w'.cell? ⟨b,o+i*2+1,none⟩=some (.int .i64 (L[i]).2)∧w'.cell? ⟨R,0,none⟩=some (.string t)∧w'.cell? ⟨R,1,none⟩=some (.int .i64 z)) (first | exact HC.out | exact z4 | go_keep)
     (first
      | (go_at_call 80;refine (by_name _ _ _ _).mono ?_;rintro e w4 ⟨rfl,k4⟩;have z4:=(⟨k4.cell (HC.out.1) (by simp),k4.cell (HC.out.2.1) (by simp),k4.cell (HC.out.2.2.1) (by simp),k4.cell (HC.out.2.2.2) (by simp)⟩:w4.cell? ⟨b,o+i*2,none⟩=some (.string (L[i]).1)∧w4.cell? ⟨b,o+i*2+1,none⟩=some (.int .i64 (L[i]).2)∧w4.cell? ⟨R,0,none⟩=some (.string t)∧w4.cell? ⟨R,1,none⟩=some (.int .i64 z));have HK4:Hid (Kept [] w w4):=(HKR.out.trans (HK.out.drew.trans k4 (by simp)) (by simp));clear k4))
    clear z4 HC
    go_wp2_with fail
    go_ret2
    first
     | exact ⟨⟨_,by rw [HF.out];rfl⟩,HK4.out⟩
     | exact ⟨_,by rw [HF.out];rfl,HK4.out⟩
   ·
    have l1:¬ (i:Int) < (L.length:Int):=by omega
    have HK4:Hid (Kept [] w wr):=HKR.out.trans HK.out (by simp)
    go_upto_region 8 with fail
    go_quiet (fail)
    go_wp2_with fail
    go_ret2
    first
     | exact ⟨⟨_,by rw [HF.out];rfl⟩,HK4.out.drewN _⟩
     | exact ⟨_,by rw [HF.out];rfl,HK4.out.drewN _⟩
     | exact ⟨by rw [HF.out];exact ⟨_,rfl⟩,HK4.out.drewN _⟩
     | exact ⟨by rw [HF.out];rfl,HK4.out.drewN _⟩
theorem bs_des {w:World} {a:Option Addr} {L:List Ds} (hL:DesA w a L) (hn:L.length≤5864062014634) (c:Nat) (x:Ds) (tt:Ds) (htt:tt=x) (hm:∀ i j (hi:i < L.length) (hj:j < L.length),i≤j→ltD L[j] tt=true→ltD L[i] tt=true) :
  Calls Tryz.prog 153 #[.slice a L.length c,.agg #[.int .i64 x.1,.int .i64 x.2.1,.int .i64 x.2.2],.func (.func 56) #[] #[]] w fun e w'=>FoundAt (L.findIdx fun y=>!(ltD y tt)) e∧Kept [] w w':=by
 have HM:Hid (_):=hm
 have HTT:Hid (_):=htt
 clear htt
 obtain ⟨W1,R,HWR,HKR,r0,r1,r2⟩:=box3 w (.int .i64 x.1) (.int .i64 x.2.1) (.int .i64 x.2.2) 83
 have HL:Hid (DesA W1 a L):=hL.kept HKR.out
 clear hL hm
 go_enter Tryz.func153,Tryz.ntmps153
 go_upto_region 1 with fail
 rw [HWR.out.1,HWR.out.2]
 clear HWR
 have HT:Hid (W1.cell? ⟨R,0,none⟩=some (.int .i64 x.1)∧W1.cell? ⟨R,1,none⟩=some (.int .i64 x.2.1)∧W1.cell? ⟨R,2,none⟩=some (.int .i64 x.2.2)):=⟨r0,r1,r2⟩
 clear r0 r1 r2
 go_wp2_with fail
 go_loopw [9,10] (fun u v wr=>∃ i j:Nat,u=.int .i64 (i:Int)∧v=.int .i64 (j:Int)∧i≤j∧j≤L.length∧Hid (Kept [] W1 wr∧(∀ k (hk:k < L.length),k < i→ltD L[k] tt=true)∧∀ k (hk:k < L.length),j≤k→ltD L[k] tt=false)) (fun u v _=>(intOf v - intOf u).toNat)
 case atStart=>exact ⟨0,L.length,rfl,rfl,by omega,by omega,Kept.refl _ _,fun k _ hk=>by omega,fun k hk h=>by omega⟩
 case round=>
  obtain ⟨i,j,rfl,rfl,hij,hj,HJ⟩:=hrel
  by_cases hlt:i < j
  ·
   have i0:(i:Int) < (j:Int):=by omega
   obtain ⟨h,hh⟩:∃ h:Nat,(i+j) / 2=h:=⟨_,rfl⟩
   have hhl:h < L.length:=by omega
   have eh:((i:Int)+(j:Int)) / 2=(h:Int):=by omega
   obtain ⟨b,o,ha,p1,p2,p3⟩:=(HL.out.kept HJ.out.1) h hhl
   subst ha
   have HC:Hid (wr.cell? ⟨b,o+h*3,none⟩=some (.int .i64 (L[h]).1)∧wr.cell? ⟨b,o+h*3+1,none⟩=some (.int .i64 (L[h]).2.1)∧wr.cell? ⟨b,o+h*3+2,none⟩=some (.int .i64 (L[h]).2.2)∧wr.cell? ⟨R,0,none⟩=some (.int .i64 x.1)∧wr.cell? ⟨R,1,none⟩=some (.int .i64 x.2.1)∧wr.cell? ⟨R,2,none⟩=some (.int .i64 x.2.2)):=⟨p1,p2,p3,HJ.out.1.cell (HT.out.1) (by simp),HJ.out.1.cell (HT.out.2.1) (by simp),HJ.out.1.cell (HT.out.2.2) (by simp)⟩
   have l0:(0:Int)≤(h:Int):=by omega
   have l1:(h:Int) < (L.length:Int):=by omega
   have hle:i≤h∧h < j:=by omega
   go_upto_region 5 with fail
   clear eh hh
   go_region_held3 (fun w'=>w'.cell? ⟨b,o+h*3,none⟩=some (.int .i64 (L[h]).1)∧w'.cell? ⟨b,o+h*3+1,none⟩=some (.int .i64 (L[h]).2.1)∧w'.cell? ⟨b,o+h*3+2,none⟩=some (.int .i64 (L[h]).2.2)∧w'.cell? ⟨R,0,none⟩=some (.int .i64 x.1)∧w'.cell? ⟨R,1,none⟩=some (.int .i64 x.2.1)∧w'.cell? ⟨R,2,none⟩=some (.int .i64 x.2.2)) (first | exact HC.out | exact z4 | go_keep)
    (first
     | (go_at_call 56;refine (by_desc (L[h]) x).mono ?_;rintro e w4 ⟨rfl,k4⟩;have z4:=(⟨k4.cell (HC.out.1) (by simp),k4.cell (HC.out.2.1) (by simp),k4.cell (HC.out.2.2.1) (by simp),k4.cell (HC.out.2.2.2.1) (by simp),k4.cell (HC.out.2.2.2.2.1) (by simp),k4.cell (HC.out.2.2.2.2.2) (by simp)⟩:w4.cell? ⟨b,o+h*3,none⟩=some (.int .i64 (L[h]).1)∧w4.cell? ⟨b,o+h*3+1,none⟩=some (.int .i64 (L[h]).2.1)∧w4.cell? ⟨b,o+h*3+2,none⟩=some (.int .i64 (L[h]).2.2)∧w4.cell? ⟨R,0,none⟩=some (.int .i64 x.1)∧w4.cell? ⟨R,1,none⟩=some (.int .i64 x.2.1)∧w4.cell? ⟨R,2,none⟩=some (.int .i64 x.2.2));have HK:Hid (Kept [] W1 w4):=(HJ.out.1.drew).trans k4 (by simp);clear k4))
   clear z4 HC
   rcases he:ltD L[h] tt with _ | _
   ·
    have HE:Hid (Kept [] W1 w4∧(∀ k (hk:k < L.length),k < i→ltD L[k] tt=true)∧∀ k (hk:k < L.length),h≤k→ltD L[k] tt=false):=⟨HK.out,HJ.out.2.1,fun k hk hhk=>by
     rcases e:ltD L[k] tt with _ | _
     · rfl
     · rw [HM.out h k hhl hk hhk e] at he;cases he⟩
    rw [ltD_of,decide_eq_false_iff_not] at he
    rw [HTT.out] at he
    have hge:¬ cmpD (L[h]) x < 0:=he
    clear he HJ HK
    go_wp2_with fail
    go_roundw
    case rel=>exact ⟨i,h,rfl,rfl,by omega,by omega,HE.out⟩
    case measure=>simp [intOf];omega
   ·
    have HE:Hid (Kept [] W1 w4∧(∀ k (hk:k < L.length),k < h+1→ltD L[k] tt=true)∧∀ k (hk:k < L.length),j≤k→ltD L[k] tt=false):=⟨HK.out,fun k hk hkh=>HM.out k h hk hhl (by omega) he,HJ.out.2.2⟩
    rw [ltD_of,decide_eq_true_eq] at he
    rw [HTT.out] at he
    have hge:cmpD (L[h]) x < 0:=he
    clear he HJ HK
    go_wp2_with fail
    go_roundw
    case rel=>exact ⟨h+1,j,by go_num,rfl,by omega,by omega,HE.out⟩
    case measure=>simp [intOf];omega
  ·
   have i0:¬ (i:Int) < (j:Int):=by omega
   have HF:Hid ((L.findIdx fun y=>!(ltD y tt))=i):=by
    show _=_
    by_cases hil:i < L.length
    ·
     rw [List.findIdx_eq hil]
     refine ⟨by rw [HJ.out.2.2 i hil (by omega)];rfl,fun k hk=>by rw [HJ.out.2.1 k (by omega) hk];rfl⟩
    ·
     have e1:i=L.length:=by omega
     rw [e1,List.findIdx_eq_length]
     intro x hx
     obtain ⟨k,hk,rfl⟩:=List.getElem_of_mem hx
     rw [HJ.out.2.1 k hk (by omega)]
     rfl
   have HK:Hid (Kept [] W1 wr):=HJ.out.1
   clear HJ
   by_cases hil:i < L.length
   ·
    have l0:(0:Int)≤(i:Int):=by omega
    have l1:(i:Int) < (L.length:Int):=by omega
    obtain ⟨h,hh⟩:∃ h:Nat,i=h:=⟨_,rfl⟩
    subst hh
    obtain ⟨b,o,ha,p1,p2,p3⟩:=(HL.out.kept HK.out) i hil
    subst ha
    have HC:Hid (wr.cell? ⟨b,o+i*3,none⟩=some (.int .i64 (L[i]).1)∧wr.cell? ⟨b,o+i*3+1,none⟩=some (.int .i64 (L[i]).2.1)∧wr.cell? ⟨b,o+i*3+2,none⟩=some (.int .i64 (L[i]).2.2)∧wr.cell? ⟨R,0,none⟩=some (.int .i64 x.1)∧wr.cell? ⟨R,1,none⟩=some (.int .i64 x.2.1)∧wr.cell? ⟨R,2,none⟩=some (.int .i64 x.2.2)):=⟨p1,p2,p3,HK.out.cell (HT.out.1) (by simp),HK.out.cell (HT.out.2.1) (by simp),HK.out.cell (HT.out.2.2) (by simp)⟩
    go_upto_region 8 with fail
    go_region_held3 (fun w'=>w'.cell? ⟨b,o+i*3,none⟩=some (.int .i64 (L[i]).1)∧w'.cell? ⟨b,o+i*3+1,none⟩=some (.int .i64 (L[i]).2.1)∧w'.cell? ⟨b,o+i*3+2,none⟩=some (.int .i64 (L[i]).2.2)∧w'.cell? ⟨R,0,none⟩=some (.int .i64 x.1)∧w'.cell? ⟨R,1,none⟩=some (.int .i64 x.2.1)∧w'.cell? ⟨R,2,none⟩=some (.int .i64 x.2.2)) (first | exact HC.out | exact z4 | go_keep)
     (first
      | (go_at_call 56;refine (by_desc (L[i]) x).mono ?_;rintro e w4 ⟨rfl,k4⟩;have z4:=(⟨k4.cell (HC.out.1) (by simp),k4.cell (HC.out.2.1) (by simp),k4.cell (HC.out.2.2.1) (by simp),k4.cell (HC.out.2.2.2.1) (by simp),k4.cell (HC.out.2.2.2.2.1) (by simp),k4.cell (HC.out.2.2.2.2.2) (by simp)⟩:w4.cell? ⟨b,o+i*3,none⟩=some (.int .i64 (L[i]).1)∧w4.cell? ⟨b,o+i*3+1,none⟩=some (.int .i64 (L[i]).2.1)∧w4.cell? ⟨b,o+i*3+2,none⟩=some (.int .i64 (L[i]).2.2)∧w4.cell? ⟨R,0,none⟩=some (.int .i64 x.1)∧w4.cell? ⟨R,1,none⟩=some (.int .i64 x.2.1)∧w4.cell? ⟨R,2,none⟩=some (.int .i64 x.2.2));have HK4:Hid (Kept [] w w4):=(HKR.out.trans (HK.out.drew.trans k4 (by simp)) (by simp));clear k4))
    clear z4 HC
    go_wp2_with fail
    go_ret2
    first
     | exact ⟨⟨_,by rw [HF.out];rfl⟩,HK4.out⟩
     | exact ⟨_,by rw [HF.out];rfl,HK4.out⟩
   ·
    have l1:¬ (i:Int) < (L.length:Int):=by omega
    have HK4:Hid (Kept [] w wr):=HKR.out.trans HK.out (by simp)
    go_upto_region 8 with fail
    go_quiet (fail)
    go_wp2_with fail
    go_ret2
    first
     | exact ⟨⟨_,by rw [HF.out];rfl⟩,HK4.out.drewN _⟩
     | exact ⟨_,by rw [HF.out];rfl,HK4.out.drewN _⟩
     | exact ⟨by rw [HF.out];exact ⟨_,rfl⟩,HK4.out.drewN _⟩
     | exact ⟨by rw [HF.out];rfl,HK4.out.drewN _⟩
theorem bs_ino {w:World} {a:Option Addr} {L:List Ino} (hL:InoA w a L) (hn:L.length≤2513169434843) (c:Nat) (x:Ino) (ax:Option Addr) (nx cx:Nat) (tt:Ino) (htt:tt=x) (hm:∀ i j (hi:i < L.length) (hj:j < L.length),i≤j→ltI L[j] tt=true→ltI L[i] tt=true) :
  Calls Tryz.prog 149 #[.slice a L.length c,.agg #[.int .i64 x.num,.bool x.dir,.slice ax nx cx,.string x.data],.func (.func 51) #[] #[]] w fun e w'=>FoundAt (L.findIdx fun y=>!(ltI y tt)) e∧Kept [] w w':=by
 have HM:Hid (_):=hm
 have HTT:Hid (_):=htt
 clear htt
 obtain ⟨W1,R,HWR,HKR,r0,r1,r2,r3⟩:=box4 w (.int .i64 x.num) (.bool x.dir) (.slice ax nx cx) (.string x.data) 62
 have HL:Hid (InoA W1 a L):=hL.kept HKR.out
 clear hL hm
 go_enter Tryz.func149,Tryz.ntmps149
 go_upto_region 1 with fail
 rw [HWR.out.1,HWR.out.2]
 clear HWR
 have HT:Hid (W1.cell? ⟨R,0,none⟩=some (.int .i64 x.num)∧W1.cell? ⟨R,1,none⟩=some (.bool x.dir)∧W1.cell? ⟨R,2,none⟩=some (.slice ax nx cx)∧W1.cell? ⟨R,3,none⟩=some (.string x.data)):=⟨r0,r1,r2,r3⟩
 clear r0 r1 r2 r3
 go_wp2_with fail
 go_loopw [9,10] (fun u v wr=>∃ i j:Nat,u=.int .i64 (i:Int)∧v=.int .i64 (j:Int)∧i≤j∧j≤L.length∧Hid (Kept [] W1 wr∧(∀ k (hk:k < L.length),k < i→ltI L[k] tt=true)∧∀ k (hk:k < L.length),j≤k→ltI L[k] tt=false)) (fun u v _=>(intOf v - intOf u).toNat)
 case atStart=>exact ⟨0,L.length,rfl,rfl,by omega,by omega,Kept.refl _ _,fun k _ hk=>by omega,fun k hk h=>by omega⟩
 case round=>
  obtain ⟨i,j,rfl,rfl,hij,hj,HJ⟩:=hrel
  by_cases hlt:i < j
  ·
   have i0:(i:Int) < (j:Int):=by omega
   obtain ⟨h,hh⟩:∃ h:Nat,(i+j) / 2=h:=⟨_,rfl⟩
   have hhl:h < L.length:=by omega
   have eh:((i:Int)+(j:Int)) / 2=(h:Int):=by omega
   obtain ⟨b,o,ae,ce,ha,p1,p2,p3,p4,-⟩:=(HL.out.kept HJ.out.1) h hhl
   subst ha
   have HC:Hid (wr.cell? ⟨b,o+h*4,none⟩=some (.int .i64 (L[h]).num)∧wr.cell? ⟨b,o+h*4+1,none⟩=some (.bool (L[h]).dir)∧wr.cell? ⟨b,o+h*4+2,none⟩=some (.slice ae (L[h]).ents.length ce)∧wr.cell? ⟨b,o+h*4+3,none⟩=some (.string (L[h]).data)∧wr.cell? ⟨R,0,none⟩=some (.int .i64 x.num)∧wr.cell? ⟨R,1,none⟩=some (.bool x.dir)∧wr.cell? ⟨R,2,none⟩=some (.slice ax nx cx)∧wr.cell? ⟨R,3,none⟩=some (.string x.data)):=⟨p1,p2,p3,p4,HJ.out.1.cell (HT.out.1) (by simp),HJ.out.1.cell (HT.out.2.1) (by simp),HJ.out.1.cell (HT.out.2.2.1) (by simp),HJ.out.1.cell (HT.out.2.2.2) (by simp)⟩
   have l0:(0:Int)≤(h:Int):=by omega
   have l1:(h:Int) < (L.length:Int):=by omega
   have hle:i≤h∧h < j:=by omega
   go_upto_region 5 with fail
   clear eh hh
   go_region_held3 (fun w'=>w'.cell? ⟨b,o+h*4,none⟩=some (.int .i64 (L[h]).num)∧w'.cell? ⟨b,o+h*4+1,none⟩=some (.bool (L[h]).dir)∧w'.cell? ⟨b,o+h*4+2,none⟩=some (.slice ae (L[h]).ents.length ce)∧w'.cell? ⟨b,o+h*4+3,none⟩=some (.string (L[h]).data)∧w'.cell? ⟨R,0,none⟩=some (.int .i64 x.num)∧w'.cell? ⟨R,1,none⟩=some (.bool x.dir)∧w'.cell? ⟨R,2,none⟩=some (.slice ax nx cx)∧w'.cell? ⟨R,3,none⟩=some (.string x.data)) (first | exact HC.out | exact z4 | go_keep)
    (first
     | (go_at_call 51;refine (by_num _ _ _ _ _ _ _ _ ⟨_,_,_,rfl⟩ ⟨_,_,_,rfl⟩).mono ?_;rintro e w4 ⟨rfl,k4⟩;have z4:=(⟨k4.cell (HC.out.1) (by simp),k4.cell (HC.out.2.1) (by simp),k4.cell (HC.out.2.2.1) (by simp),k4.cell (HC.out.2.2.2.1) (by simp),k4.cell (HC.out.2.2.2.2.1) (by simp),k4.cell (HC.out.2.2.2.2.2.1) (by simp),k4.cell (HC.out.2.2.2.2.2.2.1) (by simp),k4.cell (HC.out.2.2.2.2.2.2.2) (by simp)⟩:w4.cell? ⟨b,o+h*4,none⟩=some (.int .i64 (L[h]).num)∧w4.cell? ⟨b,o+h*4+1,none⟩=some (.bool (L[h]).dir)∧w4.cell? ⟨b,o+h*4+2,none⟩=some (.slice ae (L[h]).ents.length ce)∧w4.cell? ⟨b,o+h*4+3,none⟩=some (.string (L[h]).data)∧w4.cell? ⟨R,0,none⟩=some (.int .i64 x.num)∧w4.cell? ⟨R,1,none⟩=some (.bool x.dir)∧w4.cell? ⟨R,2,none⟩=some (.slice ax nx cx)∧w4.cell? ⟨R,3,none⟩=some (.string x.data));have HK:Hid (Kept [] W1 w4):=(HJ.out.1.drew).trans k4 (by simp);clear k4))
   clear z4 HC
   rcases he:ltI L[h] tt with _ | _
   ·
    have HE:Hid (Kept [] W1 w4∧(∀ k (hk:k < L.length),k < i→ltI L[k] tt=true)∧∀ k (hk:k < L.length),h≤k→ltI L[k] tt=false):=⟨HK.out,HJ.out.2.1,fun k hk hhk=>by
     rcases e:ltI L[k] tt with _ | _
     · rfl
     · rw [HM.out h k hhl hk hhk e] at he;cases he⟩
    rw [ltI_of,decide_eq_false_iff_not] at he
    rw [HTT.out] at he
    have hge:¬ cmpI (L[h]).num x.num < 0:=he
    clear he HJ HK
    go_wp2_with fail
    go_roundw
    case rel=>exact ⟨i,h,rfl,rfl,by omega,by omega,HE.out⟩
    case measure=>simp [intOf];omega
   ·
    have HE:Hid (Kept [] W1 w4∧(∀ k (hk:k < L.length),k < h+1→ltI L[k] tt=true)∧∀ k (hk:k < L.length),j≤k→ltI L[k] tt=false):=⟨HK.out,fun k hk hkh=>HM.out k h hk hhl (by omega) he,HJ.out.2.2⟩
    rw [ltI_of,decide_eq_true_eq] at he
    rw [HTT.out] at he
    have hge:cmpI (L[h]).num x.num < 0:=he
    clear he HJ HK
    go_wp2_with fail
    go_roundw
    case rel=>exact ⟨h+1,j,by go_num,rfl,by omega,by omega,HE.out⟩
    case measure=>simp [intOf];omega
  ·
   have i0:¬ (i:Int) < (j:Int):=by omega
   have HF:Hid ((L.findIdx fun y=>!(ltI y tt))=i):=by
    show _=_
    by_cases hil:i < L.length
    ·
     rw [List.findIdx_eq hil]
     refine ⟨by rw [HJ.out.2.2 i hil (by omega)];rfl,fun k hk=>by rw [HJ.out.2.1 k (by omega) hk];rfl⟩
    ·
     have e1:i=L.length:=by omega
     rw [e1,List.findIdx_eq_length]
     intro x hx
     obtain ⟨k,hk,rfl⟩:=List.getElem_of_mem hx
     rw [HJ.out.2.1 k hk (by omega)]
     rfl
   have HK:Hid (Kept [] W1 wr):=HJ.out.1
   clear HJ
   by_cases hil:i < L.length
   ·
    have l0:(0:Int)≤(i:Int):=by omega
    have l1:(i:Int) < (L.length:Int):=by omega
    obtain ⟨h,hh⟩:∃ h:Nat,i=h:=⟨_,rfl⟩
    subst hh
    obtain ⟨b,o,ae,ce,ha,p1,p2,p3,p4,-⟩:=(HL.out.kept HK.out) i hil
    subst ha
    have HC:Hid (wr.cell? ⟨b,o+i*4,none⟩=some (.int .i64 (L[i]).num)∧wr.cell? ⟨b,o+i*4+1,none⟩=some (.bool (L[i]).dir)∧wr.cell? ⟨b,o+i*4+2,none⟩=some (.slice ae (L[i]).ents.length ce)∧wr.cell? ⟨b,o+i*4+3,none⟩=some (.string (L[i]).data)∧wr.cell? ⟨R,0,none⟩=some (.int .i64 x.num)∧wr.cell? ⟨R,1,none⟩=some (.bool x.dir)∧wr.cell? ⟨R,2,none⟩=some (.slice ax nx cx)∧wr.cell? ⟨R,3,none⟩=some (.string x.data)):=⟨p1,p2,p3,p4,HK.out.cell (HT.out.1) (by simp),HK.out.cell (HT.out.2.1) (by simp),HK.out.cell (HT.out.2.2.1) (by simp),HK.out.cell (HT.out.2.2.2) (by simp)⟩
    go_upto_region 8 with fail
    go_region_held3 (fun w'=>w'.cell? ⟨b,o+i*4,none⟩=some (.int .i64 (L[i]).num)∧w'.cell? ⟨b,o+i*4+1,none⟩=some (.bool (L[i]).dir)∧w'.cell? ⟨b,o+i*4+2,none⟩=some (.slice ae (L[i]).ents.length ce)∧w'.cell? ⟨b,o+i*4+3,none⟩=some (.string (L[i]).data)∧w'.cell? ⟨R,0,none⟩=some (.int .i64 x.num)∧w'.cell? ⟨R,1,none⟩=some (.bool x.dir)∧w'.cell? ⟨R,2,none⟩=some (.slice ax nx cx)∧w'.cell? ⟨R,3,none⟩=some (.string x.data)) (first | exact HC.out | exact z4 | go_keep)
     (first
      | (go_at_call 51;refine (by_num _ _ _ _ _ _ _ _ ⟨_,_,_,rfl⟩ ⟨_,_,_,rfl⟩).mono ?_;rintro e w4 ⟨rfl,k4⟩;have z4:=(⟨k4.cell (HC.out.1) (by simp),k4.cell (HC.out.2.1) (by simp),k4.cell (HC.out.2.2.1) (by simp),k4.cell (HC.out.2.2.2.1) (by simp),k4.cell (HC.out.2.2.2.2.1) (by simp),k4.cell (HC.out.2.2.2.2.2.1) (by simp),k4.cell (HC.out.2.2.2.2.2.2.1) (by simp),k4.cell (HC.out.2.2.2.2.2.2.2) (by simp)⟩:w4.cell? ⟨b,o+i*4,none⟩=some (.int .i64 (L[i]).num)∧w4.cell? ⟨b,o+i*4+1,none⟩=some (.bool (L[i]).dir)∧w4.cell? ⟨b,o+i*4+2,none⟩=some (.slice ae (L[i]).ents.length ce)∧w4.cell? ⟨b,o+i*4+3,none⟩=some (.string (L[i]).data)∧w4.cell? ⟨R,0,none⟩=some (.int .i64 x.num)∧w4.cell? ⟨R,1,none⟩=some (.bool x.dir)∧w4.cell? ⟨R,2,none⟩=some (.slice ax nx cx)∧w4.cell? ⟨R,3,none⟩=some (.string x.data));have HK4:Hid (Kept [] w w4):=(HKR.out.trans (HK.out.drew.trans k4 (by simp)) (by simp));clear k4))
    clear z4 HC
    go_wp2_with fail
    go_ret2
    first
     | exact ⟨⟨_,by rw [HF.out];rfl⟩,HK4.out⟩
     | exact ⟨_,by rw [HF.out];rfl,HK4.out⟩
   ·
    have l1:¬ (i:Int) < (L.length:Int):=by omega
    have HK4:Hid (Kept [] w wr):=HKR.out.trans HK.out (by simp)
    go_upto_region 8 with fail
    go_quiet (fail)
    go_wp2_with fail
    go_ret2
    first
     | exact ⟨⟨_,by rw [HF.out];rfl⟩,HK4.out.drewN _⟩
     | exact ⟨_,by rw [HF.out];rfl,HK4.out.drewN _⟩
     | exact ⟨by rw [HF.out];exact ⟨_,rfl⟩,HK4.out.drewN _⟩
     | exact ⟨by rw [HF.out];rfl,HK4.out.drewN _⟩
end Go.Proofs.YtffncojcnbhblaaGreatDoor
