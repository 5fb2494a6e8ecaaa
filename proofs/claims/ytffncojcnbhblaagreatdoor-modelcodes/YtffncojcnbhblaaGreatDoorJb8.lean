/-
  Joined of my texts Me Mf Os Cp.
-/
import Derived.Test.YtffncojcnbhblaaGreatDoorJb7
import Derived.Test.YtffncojcnbhblaaGreatDoorJb3
set_option linter.unusedVariables false
set_option linter.unusedSimpArgs false
set_option maxRecDepth 100000
set_option maxHeartbeats 8000000
namespace Go.Proofs.YtffncojcnbhblaaGreatDoor
open Go.RowKit
theorem p_found {w:World} {p:Pl} {S:Sta} (h:Sv w p S) (hg:Rng S) (ht:Tr S.ino) :
  Calls Tryz.prog 36 #[sval p S] w fun e w'=>e=.returned (.bool (foundB S.ino))∧Kept [] w w':=by
 have HN:Hid (_):=h.n4
 have HG:Hid (Rng S):=hg
 have HTr:Hid (Tr S.ino):=ht
 obtain ⟨W0,X,HW,HB⟩:=boxS h
 have hn1:S.ino.length≤257:=hg.few
 have hpos:0 < S.ino.length:=hg.pos
 clear h hg ht
 obtain ⟨b,o,ae0,ce0,ha,-⟩:=HB.out.sv.ino 0 hpos
 have HA:Hid (p.a1=some ⟨b,o,none⟩):=ha
 clear ha
 have x0:=HB.out.x0
 rw [HA.out] at x0
 go_enter Tryz.func36,Tryz.ntmps36
 go_upto_region 1 with fail
 rw [HW.out.1,HW.out.2]
 clear HW
 go_wp2_with fail
 clear x0
 go_loopw [3,13] (fun u i wr=>∃ n:Nat,i=.int .i64 (n:Int)∧u=.int .i64 ((dirN (S.ino.take n):Nat):Int)∧n≤S.ino.length∧Hid (Kept [] W0 wr)) (fun _ i _=>(S.ino.length - intOf i).toNat)
 case atStart=>exact ⟨0,rfl,rfl,by omega,Kept.refl _ _⟩
 case round=>
  obtain ⟨n,rfl,rfl,hn,HJ⟩:=hrel
  by_cases hlt:n < S.ino.length
  ·
   have j0:(0:Int)≤(n:Int):=by omega
   have j1:(n:Int) < (S.ino.length:Int):=by omega
   obtain ⟨b',o',ae,ce,ha',q0,q1,q2,q3,q4,q5⟩:=(HB.out.kept HJ.out).sv.ino n hlt
   rw [HA.out] at ha'
   simp only [Option.some.injEq,Addr.mk.injEq,and_true] at ha'
   obtain ⟨hb1,hb2⟩:=ha'
   subst hb1 hb2
   have hdl:=dirN_le (S.ino.take n)
   rw [List.length_take] at hdl
   have HDn:Hid (_):=dirN_take hlt
   obtain ⟨q,hq⟩:∃ q,dirN (S.ino.take n)=q:=⟨_,rfl⟩
   rw [hq] at hdl HDn ⊢
   obtain ⟨d,hd⟩:∃ d,(S.ino[n]).dir=d:=⟨_,rfl⟩
   rw [hd] at q1 HDn
   generalize (S.ino[n]).num=z0 at q0
   generalize (S.ino[n]).ents.length=el at q2
   generalize (S.ino[n]).data=s0 at q3
   clear hq hd q4 q5
   obtain ⟨W2,Y,HWY,HK2,c0,c1,c2,c3⟩:=box4 wr (.int .i64 z0) (.bool d) (.slice ae el ce) (.string s0) 62
   have HK3:Hid (Kept [] W0 W2):=HJ.out.trans HK2.out (by simp)
   go_upto_region 5 with fail
   rw [HWY.out.1,HWY.out.2]
   clear HWY q0 q1 q2 q3 HJ HK2
   cases d
   ·
    have HD2:Hid (dirN (S.ino.take (n+1))=q):=by show _=_;have:=HDn.out;simpa using this
    clear HDn
    go_wp2_with fail
    go_roundw
    case rel=>exact ⟨n+1,by go_num,by rw [HD2.out],by omega,HK3.out⟩
    case measure=>simp [intOf];omega
   ·
    have HD2:Hid (dirN (S.ino.take (n+1))=q+1):=by show _=_;have:=HDn.out;simpa using this
    clear HDn
    go_wp2_with fail
    go_roundw
    case rel=>exact ⟨n+1,by go_num,by rw [HD2.out];go_num,by omega,HK3.out⟩
    case measure=>simp [intOf];omega
  ·
   have j1:¬ (n:Int) < (S.ino.length:Int):=by omega
   have HD:Hid (dirN (S.ino.take n)=dirN S.ino):=by show _=_;rw [List.take_of_length_le (by omega)]
   obtain ⟨q,hq⟩:∃ q,dirN (S.ino.take n)=q:=⟨_,rfl⟩
   rw [hq] at HD ⊢
   clear hq
   obtain ⟨W1,B,HWB,HKB,cB⟩:=box1 wr (.int .i64 1) 3
   have HK1:Hid (Kept [] W0 W1):=HJ.out.trans HKB.out (by simp)
   have HOw:Hid (Own W1 W0.heap.size (.slice (some ⟨B,0,none⟩) 1 1) [1]):=by
    rw [← HWB.out.1,← HWB.out.2]
    exact ⟨by simp,.inr ⟨wr.heap.size,1,#[.int .i64 1],rfl,HJ.out.size,Go.heap_alloc_new wr _,by simp,by unfold maxLen;omega,by simp,by simp⟩⟩
   clear HJ HKB cB
   go_upto_region 9 with fail
   rw [HWB.out.1,HWB.out.2]
   clear HWB
   go_wp2_with fail
   go_loopw [7,6] (fun i u wr=>∃ (n:Nat) (F:List Int),i=.int .i64 (n:Int)∧Hid (Kept [] W0 wr∧Own wr W0.heap.size u F∧Jf S.ino n F∧bfs S.ino (S.ino.length+1) 0 [1]=bfs S.ino (S.ino.length+1 - n) n F)) (fun i _ _=>(S.ino.length+1 - intOf i).toNat)
   case atStart=>exact ⟨0,[1],rfl,HK1.out,HOw.out,Jf.start HTr.out,rfl⟩
   case round=>
    obtain ⟨n,F,rfl,HJ⟩:=hrel
    have hnF:=HJ.out.2.2.1.le
    have hFl:=HJ.out.2.2.1.few
    rcases HJ.out.2.1.form with ⟨-,e⟩ | ⟨g,cap,cur,hu,hg1,hg2,hg3,hg4,hg5,hg6⟩
    ·
     have:=HJ.out.2.2.1.hd
     rw [e] at this
     cases this
    subst hu
    clear hg5 hg6 hg4
    by_cases hlt:n < F.length
    ·
     have l0:(0:Int)≤(n:Int):=by omega
     have l1:(n:Int) < (F.length:Int):=by omega
     have HB1:Hid (_):=HB.out.kept HJ.out.1
     have hc:=HJ.out.2.1.lies.2.2.2 n hlt
     obtain ⟨z,hz⟩:∃ z,wordAt F n=z:=⟨_,rfl⟩
     have HZ:Hid (F[n]?=some z):=by
      show _=_
      rw [← hz]
      unfold wordAt
      rw [List.getD_eq_getElem?_getD,List.getElem?_eq_getElem hlt]
      rfl
     rw [hz] at hc
     clear hz hg2 hg3 hg1
     obtain ⟨k,hk,hat,-,-⟩:=dir_at (HJ.out.2.2.1.dr z (List.mem_of_getElem? HZ.out))
     obtain ⟨b',o',ae,ce,ha',-,-,q20,-,q4,-⟩:=HB.out.sv.ino k hk
     have q2:=HJ.out.1.cell q20 (by simp)
     clear q20
     rw [HA.out] at ha'
     simp only [Option.some.injEq,Addr.mk.injEq,and_true] at ha'
     obtain ⟨hb1,hb2⟩:=ha'
     subst hb1 hb2
     have hlim:(S.ino[k]).ents.length≤lim:=HN.out _ (List.getElem_mem hk)
     have HKid:Hid (kids S.ino z=kidsE S.ino (S.ino[k]).ents):=by show _=_;unfold kids;rw [ents_at hat hk]
     have HFd:Hid (∀ e∈(S.ino[k]).ents,e.2≠1∧(atR S.ino e.2).isSome=true):=HTr.out.ent k hk
     obtain ⟨E,hE⟩:∃ E,(S.ino[k]).ents=E:=⟨_,rfl⟩
     rw [hE] at q2 q4 hlim HKid HFd
     unfold lim at hlim
     have HEn:Hid (EntA W0 ae E):=q4
     have HAt:Hid (atR S.ino z=some k∧p.a1=some ⟨b,o,none⟩):=⟨hat,HA.out⟩
     have x0:=HB1.out.x0
     rw [HA.out] at x0
     have HC:Hid (wr.cell? ⟨X,0,none⟩=some (.slice (some ⟨b,o,none⟩) S.ino.length p.c1)∧wr.cell? ⟨X,1,none⟩=some (.slice p.a2 S.opn.length p.c2)∧wr.cell? ⟨X,2,none⟩=some (.slice p.a3 S.made.length p.c3)∧wr.cell? ⟨g,n,none⟩=some (.int .i64 z)∧wr.cell? ⟨b,o+k*4+2,none⟩=some (.slice ae E.length ce)):=⟨x0,HB1.out.x1,HB1.out.x2,hc,q2⟩
     have HIn:Hid (∀ W,Sv W p S→Calls Tryz.prog 48 #[.agg #[.slice (some ⟨b,o,none⟩) S.ino.length p.c1,.slice p.a2 S.opn.length p.c2,.slice p.a3 S.made.length p.c3],.int .i64 z] W fun e w'=>e=.returned (.pointer (some ⟨b,o+k*4,none⟩))∧Kept [] W w'):=fun W hW=>by
      have:=p_inode_some hW z HAt.out.1 HAt.out.2
      unfold sval at this
      rw [HA.out] at this
      exact this
     clear hE q4 q2 hat x0 hc
     go_upto_region 12 with fail
     go_region_held3 (fun w'=>w'.cell? ⟨X,0,none⟩=some (.slice (some ⟨b,o,none⟩) S.ino.length p.c1)∧w'.cell? ⟨X,1,none⟩=some (.slice p.a2 S.opn.length p.c2)∧w'.cell? ⟨X,2,none⟩=some (.slice p.a3 S.made.length p.c3)∧w'.cell? ⟨g,n,none⟩=some (.int .i64 z)∧w'.cell? ⟨b,o+k*4+2,none⟩=some (.slice ae E.length ce)) (first | exact HC.out | exact z4 | go_keep)
      (first
       | (go_at_call 48;refine (HIn.out _ (HB1.out.sv.kept (Kept.refl [] wr).drew)).mono ?_;rintro e w4 ⟨rfl,k4⟩;have z4:=(⟨k4.cell (HC.out.1) (by simp),k4.cell (HC.out.2.1) (by simp),k4.cell (HC.out.2.2.1) (by simp),k4.cell (HC.out.2.2.2.1) (by simp),k4.cell (HC.out.2.2.2.2) (by simp)⟩:w4.cell? ⟨X,0,none⟩=some (.slice (some ⟨b,o,none⟩) S.ino.length p.c1)∧w4.cell? ⟨X,1,none⟩=some (.slice p.a2 S.opn.length p.c2)∧w4.cell? ⟨X,2,none⟩=some (.slice p.a3 S.made.length p.c3)∧w4.cell? ⟨g,n,none⟩=some (.int .i64 z)∧w4.cell? ⟨b,o+k*4+2,none⟩=some (.slice ae E.length ce));have HK4:Hid (Kept [] wr w4):=(Kept.refl [] wr).drew.trans k4 (by simp);clear k4))
     have HJ4:Hid (Kept [] W0 w4∧Own w4 W0.heap.size (.slice (some ⟨g,0,none⟩) F.length cap) F):=⟨HJ.out.1.trans HK4.out (by simp),HJ.out.2.1.kept HK4.out⟩
     have HNx:Hid (Jf S.ino (n+1) (F ++ kidsE S.ino E)∧bfs S.ino (S.ino.length+1) 0 [1]=bfs S.ino (S.ino.length+1 - (n+1)) (n+1) (F ++ kidsE S.ino E)):=by
      have h1:=HJ.out.2.2.1.step HTr.out HZ.out
      have h2:=HJ.out.2.2.2
      have e:S.ino.length+1 - n=(S.ino.length+1 - (n+1))+1:=by omega
      rw [e,bfs_on HZ.out] at h2
      rw [HKid.out] at h1 h2
      exact ⟨h1,h2⟩
     have hFe:(F ++ kidsE S.ino E).length≤S.ino.length:=HNx.out.1.few
     clear z4 HC HJ HK4 HB1 HKid HIn
     go_wp2_with fail
     go_loopw [39,6] (fun i u wr=>∃ k2:Nat,i=.int .i64 (k2:Int)∧k2≤E.length∧Hid (Kept [] W0 wr∧Own wr W0.heap.size u (F ++ kidsE S.ino (E.take k2)))) (fun i _ _=>(E.length - intOf i).toNat)
     case atStart=>exact ⟨0,rfl,by omega,HJ4.out.1,by have:=HJ4.out.2;simpa [kidsE] using this⟩
     case round=>
      obtain ⟨k2,rfl,hk2,HI⟩:=hrel
      obtain ⟨G,hG⟩:∃ G,F ++ kidsE S.ino (E.take k2)=G:=⟨_,rfl⟩
      have HGe:Hid (_):=hG
      rw [hG] at HI
      clear hG
      rcases HI.out.2.form with ⟨-,e2⟩ | ⟨g2,cap2,cur2,hu2,-⟩
      ·
       have:=HGe.out
       rw [e2,List.append_eq_nil_iff] at this
       rw [this.1] at hlt
       simp at hlt
      subst hu2
      by_cases hlk:k2 < E.length
      ·
       have m0:(0:Int)≤(k2:Int):=by omega
       have m1:(k2:Int) < (E.length:Int):=by omega
       obtain ⟨b5,o5,hb5,g1,g2'⟩:=(HEn.out.kept HI.out.1) k2 hlk
       have HA5:Hid (_):=hb5
       have hfd:=(HFd.out _ (List.getElem_mem hlk)).2
       have HTk:Hid (_):=kidsE_take (L:=S.ino) hlk
       have hle:(F ++ kidsE S.ino (E.take (k2+1))).length≤S.ino.length:=by
        have h1:(kidsE S.ino (E.take (k2+1))).length≤(kidsE S.ino E).length:=by
         unfold kidsE
         rw [List.length_map,List.length_map]
         exact ((List.take_sublist (k2+1) E).filter _).length_le
        rw [List.length_append] at hFe ⊢
        omega
       obtain ⟨z2,hz2⟩:∃ z2,(E[k2]).2=z2:=⟨_,rfl⟩
       rw [hz2] at g2' hfd HTk
       generalize (E[k2]).1=t at g1
       rcases hat2:atR S.ino z2 with _ | k3
       · rw [hat2] at hfd;cases hfd
       obtain ⟨hk3,-⟩:=at_get hat2
       have HDo:Hid (dirOf S.ino z2=(S.ino[k3]).dir):=by show _=_;unfold dirOf;rw [hat2];simp [hk3]
       have HAt2:Hid (atR S.ino z2=some k3):=hat2
       rw [hb5]
       clear hb5 hz2 hat2 hfd
       obtain ⟨W3,Z,HWZ,HK3,e0,e1⟩:=box2 wr (.string t) (.int .i64 z2) 64
       have HKW:Hid (Kept [] W0 W3):=HI.out.1.trans HK3.out (by simp)
       have HI3:Hid (Own W3 W0.heap.size (.slice (some ⟨g2,0,none⟩) G.length cap2) G):=HI.out.2.kept HK3.out
       have HB3:Hid (_):=HB.out.kept HKW.out
       obtain ⟨b',o',ae',ce',ha',-,q1,-⟩:=HB3.out.sv.ino k3 hk3
       rw [HA.out] at ha'
       simp only [Option.some.injEq,Addr.mk.injEq,and_true] at ha'
       obtain ⟨hb1,hb2⟩:=ha'
       subst hb1 hb2
       obtain ⟨d,hd⟩:∃ d,(S.ino[k3]).dir=d:=⟨_,rfl⟩
       rw [hd] at q1 HDo
       have x0:=HB3.out.x0
       have x1:=HB3.out.x1
       have x2:=HB3.out.x2
       clear hd
       go_upto_region 15 with fail
       rw [HWZ.out.1,HWZ.out.2]
       clear HWZ g1 g2' HI HK3
       go_wp2_with fail
       refine (p_inode_some HB3.out.sv z2 HAt2.out HA.out).mono ?_
       rintro e w5 ⟨rfl,k5⟩
       have y1:=k5.cell q1 (by simp)
       have f1:=k5.cell e1 (by simp)
       have HK5:Hid (Kept [] W0 w5):=HKW.out.trans k5 (by simp)
       have HI5:Hid (Own w5 W0.heap.size (.slice (some ⟨g2,0,none⟩) G.length cap2) G):=HI3.out.kept k5
       clear k5 x0 x1 x2 e0 e1 q1 HI3 HB3 HKW
       cases d
       ·
        have HR:Hid (F ++ kidsE S.ino (E.take (k2+1))=G):=by show _=_;rw [HTk.out,HDo.out,← HGe.out];simp
        clear HTk HDo
        go_wp2_with fail
        go_roundw
        case rel=>exact ⟨k2+1,by go_num,by omega,HK5.out,by rw [HR.out];exact HI5.out⟩
        case measure=>simp [intOf];omega
       ·
        have HR:Hid (F ++ kidsE S.ino (E.take (k2+1))=G ++ [z2]):=by show _=_;rw [HTk.out,HDo.out,← HGe.out];simp
        rw [HR.out,List.length_append] at hle
        obtain ⟨v',w',hr,hk6,ho6⟩:=own_append HK5.out HI5.out z2 (by simp only [List.length_cons,List.length_nil] at hle;omega) 25
        have HAp:Hid (_):=hr
        have HO6:Hid (Kept [] W0 w'∧Own w' W0.heap.size v' (F ++ kidsE S.ino (E.take (k2+1)))):=⟨hk6,by rw [HR.out];exact ho6⟩
        clear hr hk6 ho6 HTk HDo HR
        go_wp2_with (first
         | (at_builtin;refine wpList_append_run _ rfl _ _ 25 25 rfl _ _ rfl rfl v' w' HAp.out ?_))
        go_roundw
        case rel=>exact ⟨k2+1,by go_num,by omega,HO6.out.1,HO6.out.2⟩
        case measure=>simp [intOf];omega
      ·
       have m1:¬ (k2:Int) < (E.length:Int):=by omega
       have HO7:Hid (Kept [] W0 wr∧Own wr W0.heap.size (.slice (some ⟨g2,0,none⟩) G.length cap2) (F ++ kidsE S.ino E)):=⟨HI.out.1,by have h1:=HI.out.2;have h2:=HGe.out;rw [List.take_of_length_le (l:=E) (by omega)] at h2;rw [h2];exact h1⟩
       clear HI
       go_wp2_with fail
       go_roundw
       case rel=>exact ⟨n+1,_,by go_num,HO7.out.1,HO7.out.2,HNx.out.1,HNx.out.2⟩
       case measure=>simp [intOf];omega
    ·
     have l1:¬ (n:Int) < (F.length:Int):=by omega
     have HR:Hid (decide ((F.length:Int)=(q:Int))=foundB S.ino):=by
      show _=_
      unfold foundB
      have e:S.ino.length+1 - n=(S.ino.length - n)+1:=by omega
      rw [HJ.out.2.2.2,e,bfs_end (by omega),← HD.out]
      by_cases h:F.length=q
      · simp [h]
      ·
       have h2:¬ (F.length:Int)=(q:Int):=by omega
       simp [h,h2]
     have HK:Hid (Kept [] w wr):=HB.out.k.trans HJ.out.1 (by simp)
     clear HJ
     go_wp2_with fail
     go_ret
     refine ⟨?_,HK.out⟩
     first
      | exact ret_bool HR.out
      | (refine ret_bool ?_;rw [← HR.out,Bool.eq_iff_iff];simp)
def mayB (S:Sta):Bool:=madeB S.made && numsB S.ino S.made && inosB S.ino && opensB S && heldB S && foundB S.ino
theorem made_iff {M:List Int}:madeB M=true↔1≤M.length∧M.length≤8∧∀ z∈M,0≤z∧z≤32:=by
 unfold madeB
 rw [Bool.and_eq_true,Bool.and_eq_true,List.all_eq_true]
 constructor
 ·
  rintro ⟨⟨h1,h2⟩,h3⟩
  exact ⟨by simpa using h1,by simpa using h2,fun z hz=>by have:=h3 z hz;simpa using this⟩
 ·
  rintro ⟨h1,h2,h3⟩
  exact ⟨⟨by simpa using h1,by simpa using h2⟩,fun z hz=>by have:=h3 z hz;simpa using this⟩
theorem given_le {M:List Int} (h:madeB M=true) {z:Int} (h2:2≤z) (hg:givenB M z=true):z≤257:=by
 unfold givenB at hg
 rcases hm:M[((z - 2) % 8).toNat]? with _ | m
 · rw [hm] at hg;cases hg
 ·
  rw [hm] at hg
  have h3:(z - 2) / 8 < m:=by simpa using hg
  have h4:=((made_iff.1 h).2.2 m (List.mem_of_getElem? hm)).2
  omega
theorem nums_rng {L:List Ino} {M:List Int} (hM:madeB M=true) (hN:numsB L M=true):∀ k (hk:k < L.length),(k:Int)+1≤(L[k]).num∧(L[k]).num≤257:=by
 obtain ⟨h0,h1,h2,h3,h4⟩:=nums_iff.1 hN
 intro k
 induction k with
 | zero=>intro hk;rw [h1];omega
 | succ k ih=>
  intro hk
  have h5:=ih (by omega)
  have h6:=adj_lt h3 k (k+1) (by omega) hk (by omega)
  exact ⟨by omega,given_le hM (by omega) (h4 k hk)⟩
theorem ino_ents {L:List Ino} (hI:inosB L=true) {k:Nat} (hk:k < L.length):∀ e∈(L[k]).ents,(L[k]).dir=true∧chk e.1=0∧e.2≠1∧(atR L e.2).isSome=true:=by
 intro e he
 unfold inosB at hI
 rw [List.all_eq_true] at hI
 have h1:=hI _ (List.getElem_mem hk)
 unfold inoB at h1
 by_cases hd:(L[k]).dir=true
 ·
  rw [if_pos hd,Bool.and_eq_true] at h1
  obtain ⟨j,hj,rfl⟩:=List.getElem_of_mem he
  have h2:=(ents_iff.1 h1.2).1 j hj
  unfold entB at h2
  rw [Bool.and_eq_true,Bool.and_eq_true] at h2
  exact ⟨hd,by simpa using h2.1.1,by simpa using h2.1.2,h2.2⟩
 ·
  rw [if_neg hd,Bool.and_eq_true,List.isEmpty_iff] at h1
  rw [h1.1] at he
  cases he
theorem rng_of {S:Sta} (hM:madeB S.made=true) (hN:numsB S.ino S.made=true) (hI:inosB S.ino=true):Rng S:=by
 have hr:=nums_rng hM hN
 have h0:=(nums_iff.1 hN).1
 refine ⟨fun x hx=>?_,fun x hx e he=>?_,?_,h0⟩
 ·
  obtain ⟨k,hk,rfl⟩:=List.getElem_of_mem hx
  have:=hr k hk
  omega
 ·
  obtain ⟨k,hk,rfl⟩:=List.getElem_of_mem hx
  have h1:=(ino_ents hI hk e he).2.2.2
  rcases ha:atR S.ino e.2 with _ | j
  · rw [ha] at h1;cases h1
  ·
   obtain ⟨hj,e1⟩:=at_get ha
   have:=hr j hj
   omega
 ·
  have:=hr (S.ino.length - 1) (by omega)
  omega
theorem tr_of {S:Sta} (hN:numsB S.ino S.made=true) (hI:inosB S.ino=true) (hH:heldB S=true):Tr S.ino:=by
 obtain ⟨h0,h1,h2,h3,h4⟩:=nums_iff.1 hN
 refine ⟨h3,h0,h1,h2,fun k hk e he=>⟨(ino_ents hI hk e he).2.2.1,(ino_ents hI hk e he).2.2.2⟩,fun k hk hk0 hd=>?_⟩
 obtain ⟨j,rfl⟩:∃ j,k=j+1:=⟨k - 1,by omega⟩
 have:=held_iff.1 hH j hk
 unfold helB at this
 rw [if_pos hd] at this
 simpa using this
theorem may_iff {S:Sta}:mayB S=true↔madeB S.made=true∧numsB S.ino S.made=true∧inosB S.ino=true∧opensB S=true∧heldB S=true∧foundB S.ino=true:=by
 unfold mayB
 simp only [Bool.and_eq_true,and_assoc]
theorem p_may {w:World} {p:Pl} {S:Sta} (h:Sv w p S) (hT:Tab w) (hd:∀ x∈S.ino,x.data.size≤9223372036854775807) :
  Calls Tryz.prog 19 #[sval p S] w fun e w'=>e=.returned (.bool (mayB S))∧Kept [] w w':=by
 have HD:Hid (_):=hd
 have HN3:Hid (S.made.length≤lim):=h.n3
 obtain ⟨W0,X,HW,HB⟩:=boxS h
 have HT:Hid (Tab W0):=hT.kept HB.out.k
 have x2:=HB.out.x2
 clear h hT hd
 go_enter Tryz.func19,Tryz.ntmps19
 go_upto_region 1 with fail
 rw [HW.out.1,HW.out.2]
 clear HW
 go_wp2_with fail
 refine (p_made HB.out.sv.mad HN3.out p.c3).mono ?_
 rintro e w1 ⟨rfl,k1⟩
 have HB1:Hid (_):=HB.out.kept k1
 have HT1:Hid (Tab w1):=HT.out.kept k1
 clear k1 x2 HB HT
 rcases h1:madeB S.made with _ | _
 ·
  have HR:Hid (false=mayB S):=by show _=_;unfold mayB;rw [h1];rfl
  clear h1
  go_wp2_with fail
  go_ret
  exact ⟨ret_bool HR.out,HB1.out.k⟩
 have H1:Hid (_):=h1
 clear h1
 have x0:=HB1.out.x0
 have x1:=HB1.out.x1
 have x2:=HB1.out.x2
 go_wp2_with fail
 refine (p_nums HB1.out.sv).mono ?_
 rintro e w2 ⟨rfl,k1⟩
 have HB2:Hid (_):=HB1.out.kept k1
 have HT2:Hid (Tab w2):=HT1.out.kept k1
 clear k1 x0 x1 x2
 rcases h:numsB S.ino S.made with _ | _
 ·
  have HR:Hid (false=mayB S):=by show _=_;unfold mayB;rw [H1.out,h];rfl
  clear h
  go_wp2_with fail
  go_ret
  exact ⟨ret_bool HR.out,HB2.out.k⟩
 have H2:Hid (_):=h
 clear h
 have x0:=HB2.out.x0
 have x1:=HB2.out.x1
 have x2:=HB2.out.x2
 go_wp2_with fail
 refine (p_inos HB2.out.sv HT2.out HD.out).mono ?_
 rintro e w3 ⟨rfl,k1⟩
 have HB3:Hid (_):=HB2.out.kept k1
 have HT3:Hid (Tab w3):=HT2.out.kept k1
 clear k1 x0 x1 x2
 rcases h:inosB S.ino with _ | _
 ·
  have HR:Hid (false=mayB S):=by show _=_;unfold mayB;rw [H1.out,H2.out,h];rfl
  clear h
  go_wp2_with fail
  go_ret
  exact ⟨ret_bool HR.out,HB3.out.k⟩
 have H3:Hid (_):=h
 clear h
 have x0:=HB3.out.x0
 have x1:=HB3.out.x1
 have x2:=HB3.out.x2
 go_wp2_with fail
 refine (p_opens HB3.out.sv).mono ?_
 rintro e w4 ⟨rfl,k1⟩
 have HB4:Hid (_):=HB3.out.kept k1
 have HT4:Hid (Tab w4):=HT3.out.kept k1
 clear k1 x0 x1 x2
 rcases h:opensB S with _ | _
 ·
  have HR:Hid (false=mayB S):=by show _=_;unfold mayB;rw [H1.out,H2.out,H3.out,h];rfl
  clear h
  go_wp2_with fail
  go_ret
  exact ⟨ret_bool HR.out,HB4.out.k⟩
 have H4:Hid (_):=h
 clear h
 have x0:=HB4.out.x0
 have x1:=HB4.out.x1
 have x2:=HB4.out.x2
 have HRg:Hid (_):=rng_of H1.out H2.out H3.out
 go_wp2_with fail
 refine (p_held HB4.out.sv HRg.out).mono ?_
 rintro e w5 ⟨rfl,k1⟩
 have HB5:Hid (_):=HB4.out.kept k1
 have HT5:Hid (Tab w5):=HT4.out.kept k1
 clear k1 x0 x1 x2
 rcases h:heldB S with _ | _
 ·
  have HR:Hid (false=mayB S):=by show _=_;unfold mayB;rw [H1.out,H2.out,H3.out,H4.out,h];rfl
  clear h
  go_wp2_with fail
  go_ret
  exact ⟨ret_bool HR.out,HB5.out.k⟩
 have H5:Hid (_):=h
 clear h
 have x0:=HB5.out.x0
 have x1:=HB5.out.x1
 have x2:=HB5.out.x2
 have HTr:Hid (_):=tr_of H2.out H3.out H5.out
 go_wp2_with fail
 refine (p_found HB5.out.sv HRg.out HTr.out).mono ?_
 rintro e w6 ⟨rfl,k1⟩
 have HB6:Hid (_):=HB5.out.kept k1
 have HT6:Hid (Tab w6):=HT5.out.kept k1
 clear k1 x0 x1 x2
 rcases h:foundB S.ino with _ | _
 ·
  have HR:Hid (false=mayB S):=by show _=_;unfold mayB;rw [H1.out,H2.out,H3.out,H4.out,H5.out,h];rfl
  clear h
  go_wp2_with fail
  go_ret
  exact ⟨ret_bool HR.out,HB6.out.k⟩
 have H6:Hid (_):=h
 clear h
 have HR:Hid (true=mayB S):=by show _=_;unfold mayB;rw [H1.out,H2.out,H3.out,H4.out,H5.out,H6.out];rfl
 go_wp2_with fail
 go_ret
 exact ⟨ret_bool HR.out,HB6.out.k⟩
def inoC:List Ino→List Value→List Value
 | x :: l,v :: vs=>.int .i64 x.num :: .bool x.dir :: v :: .string x.data :: inoC l vs
 | _,_=>[]
def desC:List Ds→List Value
 | []=>[]
 | d :: l=>.int .i64 d.1 :: .int .i64 d.2.1 :: .int .i64 d.2.2 :: desC l
theorem inoC_length:∀ {L:List Ino} {vs:List Value},vs.length=L.length→(inoC L vs).length=L.length*4
 | [],[],_=>rfl
 | x :: l,v :: vs,h=>by
  have:=inoC_length (L:=l) (vs:=vs) (by simpa using h)
  simp only [inoC,List.length_cons,this]
  omega
 | [],v :: vs,h=>by simp at h
 | x :: l,[],h=>by simp at h
theorem inoC_append:∀ {L L':List Ino} {vs vs':List Value},vs.length=L.length→inoC (L ++ L') (vs ++ vs')=inoC L vs ++ inoC L' vs'
 | [],L',[],vs',_=>rfl
 | x :: l,L',v :: vs,vs',h=>by
  have:=inoC_append (L:=l) (L':=L') (vs:=vs) (vs':=vs') (by simpa using h)
  simp only [inoC,List.cons_append,this]
 | [],_,v :: vs,_,h=>by simp at h
 | x :: l,_,[],_,h=>by simp at h
theorem inoC_get:∀ {L:List Ino} {vs:List Value} {i:Nat} (hi:i < L.length) (hv:i < vs.length),
  (inoC L vs)[i*4]?=some (.int .i64 (L[i]).num)∧(inoC L vs)[i*4+1]?=some (.bool (L[i]).dir)∧(inoC L vs)[i*4+2]?=some vs[i]∧(inoC L vs)[i*4+3]?=some (.string (L[i]).data)
 | x :: l,v :: vs,0,_,_=>by simp [inoC]
 | x :: l,v :: vs,i+1,hi,hv=>by
  have:=inoC_get (L:=l) (vs:=vs) (i:=i) (by simpa using hi) (by simpa using hv)
  have e:(i+1)*4=i*4+1+1+1+1:=by omega
  rw [e]
  simp only [inoC,List.getElem_cons_succ,List.getElem?_cons_succ]
  exact this
theorem desC_length:∀ {D:List Ds},(desC D).length=D.length*3
 | []=>rfl
 | d :: l=>by
  have:=desC_length (D:=l)
  simp only [desC,List.length_cons,this]
  omega
theorem desC_append:∀ {D D':List Ds},desC (D ++ D')=desC D ++ desC D'
 | [],_=>rfl
 | d :: l,D'=>by simp only [desC,List.cons_append,desC_append (D:=l)]
theorem desC_get:∀ {D:List Ds} {i:Nat} (hi:i < D.length),
  (desC D)[i*3]?=some (.int .i64 (D[i]).1)∧(desC D)[i*3+1]?=some (.int .i64 (D[i]).2.1)∧(desC D)[i*3+2]?=some (.int .i64 (D[i]).2.2)
 | d :: l,0,_=>by simp [desC]
 | d :: l,i+1,hi=>by
  have:=desC_get (D:=l) (i:=i) (by simpa using hi)
  have e:(i+1)*3=i*3+1+1+1:=by omega
  rw [e]
  simp only [desC,List.getElem_cons_succ,List.getElem?_cons_succ]
  exact this
theorem desC_one:∀ {D:List Ds},∀ u∈desC D,u.oneCell'=true
 | [],u,h=>by cases h
 | d :: l,u,h=>by
  simp only [desC,List.mem_cons] at h
  rcases h with rfl | rfl | rfl | h
  · rfl
  · rfl
  · rfl
  · exact desC_one u h
theorem inoC_one:∀ {L:List Ino} {vs:List Value},(∀ v∈vs,v.oneCell'=true)→∀ u∈inoC L vs,u.oneCell'=true
 | [],_,_,u,h=>by simp [inoC] at h
 | _ :: _,[],_,u,h=>by simp [inoC] at h
 | x :: l,v :: vs,hv,u,h=>by
  simp only [inoC,List.mem_cons] at h
  rcases h with rfl | rfl | rfl | rfl | h
  · rfl
  · rfl
  · exact hv _ (List.mem_cons_self ..)
  · rfl
  · exact inoC_one (fun v hv'=>hv v (List.mem_cons_of_mem _ hv')) u h
theorem row_keep {w w':World} {H:Nat} {T:TypeId} {k:Nat} {v:Value} {n:Nat} {xs:List Value} {F:List Nat} (h:w.ownsRow H T k v n xs) (kk:Kept F w w') (hF:∀ x∈F,v.ownBlock≠some x):w'.ownsRow H T k v n xs:=by
 refine ⟨h.1,?_⟩
 rcases h.2 with hn | ⟨g,cap,cur,rfl,hb,hgg,rest⟩
 · exact .inl hn
 · exact .inr ⟨g,cap,cur,rfl,hb,(kk.block g (lt_of_heap hgg) (fun hm=>hF g hm rfl)).trans hgg,rest⟩
theorem row_form {w:World} {H:Nat} {T:TypeId} {k:Nat} {v:Value} {n:Nat} {xs:List Value} (h:w.ownsRow H T k v n xs):∃ a c,v=.slice a n c∧n≤c∧(∀ x,a=some x→∃ g,x=⟨g,0,none⟩∧H≤g)∧
  ∀ j u,xs[j]?=some u→∃ g,a=some ⟨g,0,none⟩∧w.cell? ⟨g,j,none⟩=some u:=by
 rcases h.2 with ⟨rfl,rfl⟩ | ⟨g,cap,cur,rfl,hb,hgg,h4,h5,h6,h7⟩
 ·
  refine ⟨none,0,rfl,Nat.le_refl _,fun x hx=>(by cases hx),fun j u hj=>?_⟩
  have h0:=h.1
  have:xs=[]:=List.eq_nil_of_length_eq_zero (by omega)
  rw [this] at hj
  cases hj
 ·
  refine ⟨_,cap,rfl,h4,fun x hx=>⟨g,(Option.some.inj hx).symm,hb⟩,fun j u hj=>⟨g,rfl,?_⟩⟩
  rw [cellB hgg]
  have hl:j < xs.length:=by
   rcases Nat.lt_or_ge j xs.length with h | h
   · exact h
   · rw [List.getElem?_eq_none h] at hj;cases hj
  rw [← h7,List.getElem?_take_of_lt (by rw [← h.1];exact hl)] at hj
  simpa using hj
theorem row_one {w:World} {H:Nat} {T:TypeId} {k:Nat} {v:Value} {n:Nat} {xs:List Value} (h:w.ownsRow H T k v n xs):v.oneCell'=true:=by
 obtain ⟨a,c,rfl,-⟩:=row_form h
 rfl
theorem row_less {w:World} {H H':Nat} {T:TypeId} {k:Nat} {v:Value} {n:Nat} {xs:List Value} (h:w.ownsRow H T k v n xs) (hH:H'≤H):w.ownsRow H' T k v n xs:=by
 refine ⟨h.1,?_⟩
 rcases h.2 with hn | ⟨g,cap,cur,rfl,hb,rest⟩
 · exact .inl hn
 · exact .inr ⟨g,cap,cur,rfl,by omega,rest⟩
def Ap (a b:Value):Prop:=∀ k,a.ownBlock=some k→b.ownBlock≠some k
theorem Ap.symm {a b:Value} (h:Ap a b):Ap b a:=fun k hb ha=>h k ha hb
structure Os (w:World) (H:Nat) (v1 v2 v3:Value) (ev:List Value) (S:Sta):Prop where
 ino:w.ownsRow H 62 4 v1 S.ino.length (inoC S.ino ev)
 evl:ev.length=S.ino.length
 ent:∀ i (hi:i < S.ino.length) (hv:i < ev.length),w.ownsRow H 64 2 ev[i] (S.ino[i]).ents.length (flat (S.ino[i]).ents)
 opn:w.ownsRow H 83 3 v2 S.opn.length (desC S.opn)
 mad:w.ownsRow H 3 1 v3 S.made.length (S.made.map (Value.int .i64))
 a12:Ap v1 v2
 a13:Ap v1 v3
 a23:Ap v2 v3
 ae:∀ v∈ev,Ap v1 v∧Ap v2 v∧Ap v3 v
 aee:ev.Pairwise Ap
def Off (F:List Nat) (v1 v2 v3:Value) (ev:List Value):Prop:=∀ x∈F,v1.ownBlock≠some x∧v2.ownBlock≠some x∧v3.ownBlock≠some x∧∀ v∈ev,v.ownBlock≠some x
theorem Os.keep {w w':World} {H:Nat} {v1 v2 v3:Value} {ev:List Value} {S:Sta} {F:List Nat} (h:Os w H v1 v2 v3 ev S) (k:Kept F w w') (hF:Off F v1 v2 v3 ev):Os w' H v1 v2 v3 ev S:=
 ⟨row_keep h.ino k fun x hx=>(hF x hx).1,h.evl,fun i hi hv=>row_keep (h.ent i hi hv) k fun x hx=>(hF x hx).2.2.2 _ (List.getElem_mem hv),row_keep h.opn k fun x hx=>(hF x hx).2.1,
  row_keep h.mad k fun x hx=>(hF x hx).2.2.1,h.a12,h.a13,h.a23,h.ae,h.aee⟩
theorem Off.nil {v1 v2 v3:Value} {ev:List Value}:Off [] v1 v2 v3 ev:=fun x hx=>by cases hx
theorem Os.kept {w w':World} {H:Nat} {v1 v2 v3:Value} {ev:List Value} {S:Sta} (h:Os w H v1 v2 v3 ev S) (k:Kept [] w w'):Os w' H v1 v2 v3 ev S:=h.keep k Off.nil
structure Bd (S:Sta):Prop where
 n1:S.ino.length≤2513169434843
 n2:S.opn.length≤5864062014634
 n3:S.made.length≤17592186043904
 n4:∀ x∈S.ino,x.ents.length≤5864062014634
 w1:∀ x∈S.ino,x.num≤9223372036854775807
 d1:∀ x∈S.ino,x.data.size≤140737488351232
 e1:∀ x∈S.ino,∀ e∈x.ents,e.1.size≤140737488351232
theorem Os.sv {w:World} {H:Nat} {v1 v2 v3:Value} {ev:List Value} {S:Sta} (h:Os w H v1 v2 v3 ev S) (hb:Bd S):∃ p,v1=.slice p.a1 S.ino.length p.c1∧v2=.slice p.a2 S.opn.length p.c2∧v3=.slice p.a3 S.made.length p.c3∧Sv w p S∧
  (∀ x,p.a1=some x→∃ g,x=⟨g,0,none⟩)∧(∀ x,p.a2=some x→∃ g,x=⟨g,0,none⟩)∧(∀ x,p.a3=some x→∃ g,x=⟨g,0,none⟩):=by
 obtain ⟨a1,c1,e1,l1,g1,r1⟩:=row_form h.ino
 obtain ⟨a2,c2,e2,l2,g2,r2⟩:=row_form h.opn
 obtain ⟨a3,c3,e3,l3,g3,r3⟩:=row_form h.mad
 have hlim:17592186043904≤lim:=by unfold lim;omega
 refine ⟨⟨a1,c1,a2,c2,a3,c3⟩,e1,e2,e3,⟨fun i hi=>?_,fun i hi=>?_,fun i hi=>?_,(by have:=hb.n1;show S.ino.length≤lim;omega),(by have:=hb.n2;show S.opn.length≤lim;omega),(by have:=hb.n3;show S.made.length≤lim;omega),fun x hx=>(by have:=hb.n4 x hx;omega),hb.w1,l1,l2,l3,trivial,trivial⟩,
  fun x hx=>by obtain ⟨g,e,-⟩:=g1 x hx;exact ⟨g,e⟩,fun x hx=>by obtain ⟨g,e,-⟩:=g2 x hx;exact ⟨g,e⟩,fun x hx=>by obtain ⟨g,e,-⟩:=g3 x hx;exact ⟨g,e⟩⟩
 ·
  have hv:i < ev.length:=by rw [h.evl];exact hi
  obtain ⟨q0,q1,q2,q3⟩:=inoC_get hi hv
  obtain ⟨g,hg,p0⟩:=r1 _ _ q0
  obtain ⟨g',hg',p1⟩:=r1 _ _ q1
  obtain ⟨g'',hg'',p2⟩:=r1 _ _ q2
  obtain ⟨g3',hg3,p3⟩:=r1 _ _ q3
  rw [hg] at hg' hg'' hg3
  simp only [Option.some.injEq,Addr.mk.injEq,and_true] at hg' hg'' hg3
  subst hg' hg'' hg3
  obtain ⟨ae,ce,ee,le,fe,re⟩:=row_form (h.ent i hi hv)
  rw [ee] at p2
  refine ⟨g,0,ae,ce,hg,by rw [Nat.zero_add];exact p0,by rw [Nat.zero_add];exact p1,by rw [Nat.zero_add];exact p2,by rw [Nat.zero_add];exact p3,fun j hj=>?_,le,trivial⟩
  obtain ⟨f0,f1⟩:=flat_get (S.ino[i]).ents j _ (List.getElem?_eq_getElem hj)
  obtain ⟨ge,hge,t0⟩:=re _ _ f0
  obtain ⟨ge',hge',t1⟩:=re _ _ f1
  rw [hge] at hge'
  simp only [Option.some.injEq,Addr.mk.injEq,and_true] at hge'
  subst hge'
  exact ⟨ge,0,hge,by rw [Nat.zero_add];exact t0,by rw [Nat.zero_add];exact t1⟩
 ·
  obtain ⟨q0,q1,q2⟩:=desC_get hi
  obtain ⟨g,hg,p0⟩:=r2 _ _ q0
  obtain ⟨g',hg',p1⟩:=r2 _ _ q1
  obtain ⟨g'',hg'',p2⟩:=r2 _ _ q2
  rw [hg] at hg' hg''
  simp only [Option.some.injEq,Addr.mk.injEq,and_true] at hg' hg''
  subst hg' hg''
  exact ⟨g,0,hg,by rw [Nat.zero_add];exact p0,by rw [Nat.zero_add];exact p1,by rw [Nat.zero_add];exact p2⟩
 ·
  obtain ⟨g,hg,p0⟩:=r3 i (.int .i64 S.made[i]) (by simp [hi])
  exact ⟨g,0,hg,by rw [Nat.zero_add];exact p0⟩
theorem info_Desc:(Tryz.prog.info? 83).map (fun i=>(i.zero,i.size,i.bytes))=some (some (.agg #[.int .i64 0,.int .i64 0,.int .i64 0]),3,24):=by kernel_rfl
theorem info_int:(Tryz.prog.info? 3).map (fun i=>(i.zero,i.size,i.bytes))=some (some (.int .i64 0),1,8):=by kernel_rfl
theorem info_Entry:(Tryz.prog.info? 64).map (fun i=>(i.zero,i.size,i.bytes))=some (some (.agg #[.string ⟨#[]⟩,.int .i64 0]),2,24):=by kernel_rfl
theorem info_Inode:(Tryz.prog.info? 62).map (fun i=>(i.zero,i.size,i.bytes))=some (some (.agg #[.int .i64 0,.bool false,.slice none 0 0,.string ⟨#[]⟩]),4,56):=by kernel_rfl
theorem clone_Desc {w:World} (a:Option Addr) (n c:Nat) (news:List Value) (hl:news.length=n*3) (hn:n≤5864062014634) (ha:True)
  (hc:∀ j u,news[j]?=some u→∃ b o,a=some ⟨b,o,none⟩∧w.cell? ⟨b,o+j,none⟩=some u) (h1:∀ u∈news,u.oneCell'=true) :
  Calls Tryz.prog 42 #[.slice a n c] w fun e w'=>∃ v',e=.returned v'∧w'.ownsRow w.heap.size 83 3 v' n news∧Kept [] w w':=by
 rcases a with _ | x
 ·
  have hn0:n=0:=by
   rcases Nat.eq_zero_or_pos n with e | e
   · exact e
   ·
    obtain ⟨b,o,e1,-⟩:=hc 0 news[0] (List.getElem?_eq_getElem (by omega))
    cases e1
  have HR:Hid (w.ownsRow w.heap.size 83 3 (.slice none 0 0) n news):=⟨hl,.inl ⟨rfl,hn0⟩⟩
  have q22:∀ (w:World) (n c n' c':Nat),(binOp .eql 24 (.slice none n c) (.slice none n' c')).run Tryz.prog w=.ok (.bool true) w:=fun w n c n' c'=>Lib.run_eql_slice_nil w _ _ none n c n' c' Tryz.underlying24
  clear hn0 hc hl h1 ha
  go_enter Tryz.func42,Tryz.ntmps42
  go_wp2_with fail
  go_ret
  exact ⟨_,rfl,HR.out,Kept.refl _ _⟩
 ·
  have q22:∀ (w:World) (x:Addr) (n c n' c':Nat),(binOp .eql 24 (.slice (some x) n c) (.slice none n' c')).run Tryz.prog w=.ok (.bool false) w:=fun w x n c n' c'=>Lib.run_eql_slice_nil w _ _ (some x) n c n' c' Tryz.underlying24
  obtain ⟨i0,hi,hz0,hz1,hz2⟩:=info_parts info_Desc
  have HC:Hid (∀ j u,news[j]?=some u→∃ b o,x=⟨b,o,none⟩∧w.cell? ⟨b,o+j,none⟩=some u):=fun j u hj=>by
   obtain ⟨b',o',e1,e2⟩:=hc j u hj
   exact ⟨b',o',Option.some.inj e1,e2⟩
  have H1:Hid (_):=h1
  have HL:Hid (_):=hl
  clear hc h1 ha
  go_enter Tryz.func42,Tryz.ntmps42
  go_wp2_with (at_builtin;refine wpList_append_own _ rfl _ _ 24 rfl w.heap.size 83 i0 _ 3 24 Tryz.underlying24 hi hz0 hz1 hz2 rfl (by omega) _ _ _ rfl (World.ownsRow_made w #[] 0 (Nat.le_refl _) (Nat.zero_le _) (by simp)) x n c news rfl ?qc1 ?qc2 ?qc3 ?qc4 ?qc5 ?qc6 ?_)
  case qc1=>exact HL.out
  case qc2=>
   intro j u hj
   obtain ⟨b',o',e1,e2⟩:=HC.out j u hj
   rw [e1,add_lit]
   exact ((Kept.refl [] w).alloc _).cell e2 (by simp)
  case qc3=>exact H1.out
  case qc4=>rw [Nat.zero_add];unfold maxLen;omega
  case qc5=>omega
  case qc6=>simp
  intro v' w1 hown hgrow hnil
  have HO:Hid (w1.ownsRow w.heap.size 83 3 v' n news∧Kept [] w w1):=⟨by simpa using hown,((Kept.refl [] w).alloc _).grown hgrow (fun g hg=>by simp [Value.ownBlock] at hg;omega)⟩
  clear hown hgrow hnil
  go_wp2_with fail
  go_ret
  exact ⟨v',rfl,HO.out.1,HO.out.2⟩
theorem clone_int {w:World} (a:Option Addr) (n c:Nat) (news:List Value) (hl:news.length=n*1) (hn:n≤17592186043904) (ha:True)
  (hc:∀ j u,news[j]?=some u→∃ b o,a=some ⟨b,o,none⟩∧w.cell? ⟨b,o+j,none⟩=some u) (h1:∀ u∈news,u.oneCell'=true) :
  Calls Tryz.prog 43 #[.slice a n c] w fun e w'=>∃ v',e=.returned v'∧w'.ownsRow w.heap.size 3 1 v' n news∧Kept [] w w':=by
 rcases a with _ | x
 ·
  have hn0:n=0:=by
   rcases Nat.eq_zero_or_pos n with e | e
   · exact e
   ·
    obtain ⟨b,o,e1,-⟩:=hc 0 news[0] (List.getElem?_eq_getElem (by omega))
    cases e1
  have HR:Hid (w.ownsRow w.heap.size 3 1 (.slice none 0 0) n news):=⟨hl,.inl ⟨rfl,hn0⟩⟩
  have q22:∀ (w:World) (n c n' c':Nat),(binOp .eql 25 (.slice none n c) (.slice none n' c')).run Tryz.prog w=.ok (.bool true) w:=fun w n c n' c'=>Lib.run_eql_slice_nil w _ _ none n c n' c' Tryz.underlying25
  clear hn0 hc hl h1 ha
  go_enter Tryz.func43,Tryz.ntmps43
  go_wp2_with fail
  go_ret
  exact ⟨_,rfl,HR.out,Kept.refl _ _⟩
 ·
  have q22:∀ (w:World) (x:Addr) (n c n' c':Nat),(binOp .eql 25 (.slice (some x) n c) (.slice none n' c')).run Tryz.prog w=.ok (.bool false) w:=fun w x n c n' c'=>Lib.run_eql_slice_nil w _ _ (some x) n c n' c' Tryz.underlying25
  obtain ⟨i0,hi,hz0,hz1,hz2⟩:=info_parts info_int
  have HC:Hid (∀ j u,news[j]?=some u→∃ b o,x=⟨b,o,none⟩∧w.cell? ⟨b,o+j,none⟩=some u):=fun j u hj=>by
   obtain ⟨b',o',e1,e2⟩:=hc j u hj
   exact ⟨b',o',Option.some.inj e1,e2⟩
  have H1:Hid (_):=h1
  have HL:Hid (_):=hl
  clear hc h1 ha
  go_enter Tryz.func43,Tryz.ntmps43
  go_wp2_with (at_builtin;refine wpList_append_own _ rfl _ _ 25 rfl w.heap.size 3 i0 _ 1 8 Tryz.underlying25 hi hz0 hz1 hz2 rfl (by omega) _ _ _ rfl (World.ownsRow_made w #[] 0 (Nat.le_refl _) (Nat.zero_le _) (by simp)) x n c news rfl ?qc1 ?qc2 ?qc3 ?qc4 ?qc5 ?qc6 ?_)
  case qc1=>exact HL.out
  case qc2=>
   intro j u hj
   obtain ⟨b',o',e1,e2⟩:=HC.out j u hj
   rw [e1,add_lit]
   exact ((Kept.refl [] w).alloc _).cell e2 (by simp)
  case qc3=>exact H1.out
  case qc4=>rw [Nat.zero_add];unfold maxLen;omega
  case qc5=>omega
  case qc6=>simp
  intro v' w1 hown hgrow hnil
  have HO:Hid (w1.ownsRow w.heap.size 3 1 v' n news∧Kept [] w w1):=⟨by simpa using hown,((Kept.refl [] w).alloc _).grown hgrow (fun g hg=>by simp [Value.ownBlock] at hg;omega)⟩
  clear hown hgrow hnil
  go_wp2_with fail
  go_ret
  exact ⟨v',rfl,HO.out.1,HO.out.2⟩
theorem clone_Entry {w:World} (a:Option Addr) (n c:Nat) (news:List Value) (hl:news.length=n*2) (hn:n≤5864062014634) (ha:True)
  (hc:∀ j u,news[j]?=some u→∃ b o,a=some ⟨b,o,none⟩∧w.cell? ⟨b,o+j,none⟩=some u) (h1:∀ u∈news,u.oneCell'=true) :
  Calls Tryz.prog 44 #[.slice a n c] w fun e w'=>∃ v',e=.returned v'∧w'.ownsRow w.heap.size 64 2 v' n news∧Kept [] w w':=by
 rcases a with _ | x
 ·
  have hn0:n=0:=by
   rcases Nat.eq_zero_or_pos n with e | e
   · exact e
   ·
    obtain ⟨b,o,e1,-⟩:=hc 0 news[0] (List.getElem?_eq_getElem (by omega))
    cases e1
  have HR:Hid (w.ownsRow w.heap.size 64 2 (.slice none 0 0) n news):=⟨hl,.inl ⟨rfl,hn0⟩⟩
  have q22:∀ (w:World) (n c n' c':Nat),(binOp .eql 60 (.slice none n c) (.slice none n' c')).run Tryz.prog w=.ok (.bool true) w:=fun w n c n' c'=>Lib.run_eql_slice_nil w _ _ none n c n' c' Tryz.underlying60
  clear hn0 hc hl h1 ha
  go_enter Tryz.func44,Tryz.ntmps44
  go_wp2_with fail
  go_ret
  exact ⟨_,rfl,HR.out,Kept.refl _ _⟩
 ·
  have q22:∀ (w:World) (x:Addr) (n c n' c':Nat),(binOp .eql 60 (.slice (some x) n c) (.slice none n' c')).run Tryz.prog w=.ok (.bool false) w:=fun w x n c n' c'=>Lib.run_eql_slice_nil w _ _ (some x) n c n' c' Tryz.underlying60
  obtain ⟨i0,hi,hz0,hz1,hz2⟩:=info_parts info_Entry
  have HC:Hid (∀ j u,news[j]?=some u→∃ b o,x=⟨b,o,none⟩∧w.cell? ⟨b,o+j,none⟩=some u):=fun j u hj=>by
   obtain ⟨b',o',e1,e2⟩:=hc j u hj
   exact ⟨b',o',Option.some.inj e1,e2⟩
  have H1:Hid (_):=h1
  have HL:Hid (_):=hl
  clear hc h1 ha
  go_enter Tryz.func44,Tryz.ntmps44
  go_wp2_with (at_builtin;refine wpList_append_own _ rfl _ _ 60 rfl w.heap.size 64 i0 _ 2 24 Tryz.underlying60 hi hz0 hz1 hz2 rfl (by omega) _ _ _ rfl (World.ownsRow_made w #[] 0 (Nat.le_refl _) (Nat.zero_le _) (by simp)) x n c news rfl ?qc1 ?qc2 ?qc3 ?qc4 ?qc5 ?qc6 ?_)
  case qc1=>exact HL.out
  case qc2=>
   intro j u hj
   obtain ⟨b',o',e1,e2⟩:=HC.out j u hj
   rw [e1,add_lit]
   exact ((Kept.refl [] w).alloc _).cell e2 (by simp)
  case qc3=>exact H1.out
  case qc4=>rw [Nat.zero_add];unfold maxLen;omega
  case qc5=>omega
  case qc6=>simp
  intro v' w1 hown hgrow hnil
  have HO:Hid (w1.ownsRow w.heap.size 64 2 v' n news∧Kept [] w w1):=⟨by simpa using hown,((Kept.refl [] w).alloc _).grown hgrow (fun g hg=>by simp [Value.ownBlock] at hg;omega)⟩
  clear hown hgrow hnil
  go_wp2_with fail
  go_ret
  exact ⟨v',rfl,HO.out.1,HO.out.2⟩
end Go.Proofs.YtffncojcnbhblaaGreatDoor
