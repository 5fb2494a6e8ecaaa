/-
  Joined of my texts Ys.
-/
import Derived.Test.YtffncojcnbhblaaGreatDoorJb39
import Derived.Test.YtffncojcnbhblaaGreatDoorJb36
import Derived.Test.YtffncojcnbhblaaGreatDoorJb35
import Derived.Test.YtffncojcnbhblaaGreatDoorTk
set_option linter.unusedVariables false
set_option linter.unusedSimpArgs false
set_option maxRecDepth 100000
set_option maxHeartbeats 8000000
namespace Go.Proofs.YtffncojcnbhblaaGreatDoor
open Go.RowKit
theorem r_Do {w:World} {p:Pl} {S S':Sta} (c:Cal) (n:Int)
  (hdo:∀ W,Kept [] w W→Calls Tryz.prog 37 #[.agg #[.slice p.a1 S.ino.length p.c1,.slice p.a2 S.opn.length p.c2,.slice p.a3 S.made.length p.c3],.agg #[.int .i64 c.kind,.int .i64 c.core,.int .i64 c.fd,.int .i64 c.off,.int .i64 c.num,.string c.path,.string c.path2,.string c.data],.int .i64 (-1)] W fun e w'=>∃ v1 v2 v3 ev,e=.returned (.tuple #[.agg #[v1,v2,v3],.agg #[.int .i64 0,.int .i64 0,.int .i64 n,.bool false,.string ⟨#[]⟩,.slice none 0 0],.bool true])∧Os w' W.heap.size v1 v2 v3 ev S'∧Kept [] W w') :
  Calls Tryz.prog 21 #[.agg #[.slice p.a1 S.ino.length p.c1,.slice p.a2 S.opn.length p.c2,.slice p.a3 S.made.length p.c3],.agg #[.int .i64 c.kind,.int .i64 c.core,.int .i64 c.fd,.int .i64 c.off,.int .i64 c.num,.string c.path,.string c.path2,.string c.data]] w fun e w'=>∃ v1 v2 v3 ev,e=.returned (.tuple #[.agg #[v1,v2,v3],.agg #[.int .i64 0,.int .i64 0,.int .i64 n,.bool false,.string ⟨#[]⟩,.slice none 0 0]])∧Os w' w.heap.size v1 v2 v3 ev S'∧Kept [] w w':=by
 obtain ⟨Wa,Z,HWa,HKa,HZa⟩:=twoY w #[.slice p.a1 S.ino.length p.c1,.slice p.a2 S.opn.length p.c2,.slice p.a3 S.made.length p.c3] #[.int .i64 c.kind,.int .i64 c.core,.int .i64 c.fd,.int .i64 c.off,.int .i64 c.num,.string c.path,.string c.path2,.string c.data] 27 35
 obtain ⟨W1,Z2,HWb,HKb,HZb⟩:=twoY Wa #[.slice none 0 0,.slice none 0 0,.slice none 0 0] #[.int .i64 0,.int .i64 0,.int .i64 0,.bool false,.string ⟨#[]⟩,.slice none 0 0] 27 31
 have hZ2:Z2=Z+1+1:=by rw [← HWb.out.2];exact HZa.out.2.2
 subst hZ2
 have HK1:Hid (Kept [] w W1):=HKa.out.trans HKb.out (by simp)
 have HBx:Hid (W1.heap[Z]?=some (.cells #[.slice p.a1 S.ino.length p.c1,.slice p.a2 S.opn.length p.c2,.slice p.a3 S.made.length p.c3] 27 (0,0))∧W1.heap[Z+1]?=some (.cells #[.int .i64 c.kind,.int .i64 c.core,.int .i64 c.fd,.int .i64 c.off,.int .i64 c.num,.string c.path,.string c.path2,.string c.data] 35 (0,0))∧W1.heap[Z+1+1]?=some (.cells #[.slice none 0 0,.slice none 0 0,.slice none 0 0] 27 (0,0))∧W1.heap[Z+1+1+1]?=some (.cells #[.int .i64 0,.int .i64 0,.int .i64 0,.bool false,.string ⟨#[]⟩,.slice none 0 0] 31 (0,0))∧W1.heap.size=Z+1+1+1+1∧w.heap.size=Z):=
  ⟨(HKb.out.block _ (lt_of_heap HZa.out.1) (by simp)).trans HZa.out.1,(HKb.out.block _ (lt_of_heap HZa.out.2.1) (by simp)).trans HZa.out.2.1,HZb.out.1,HZb.out.2.1,HZb.out.2.2,HWa.out.2⟩
 obtain ⟨x0,x1,x2⟩:=cz3 HBx.out.1
 obtain ⟨y0,y1,y2,y3,y4,y5,y6,y7⟩:=ys8 HBx.out.2.1
 clear HZa HZb HKa HKb
 go_enter Tryz.func21,Tryz.ntmps21
 go_upto_region 1 with fail
 rw [HWa.out.1,HWb.out.1,HWa.out.2]
 clear HWa HWb
 go_wp2_with fail
 refine (hdo W1 HK1.out).mono ?_
 rintro e w5 ⟨u1,u2,u3,eu,rfl,o5,k5⟩
 obtain ⟨b1,d1,hu1,-⟩:=row_form o5.ino
 obtain ⟨b2,d2,hu2,-⟩:=row_form o5.opn
 obtain ⟨b3,d3,hu3,-⟩:=row_form o5.mad
 subst hu1 hu2 hu3
 obtain ⟨W6,X,HX,HKX,HXb⟩:=twoY w5 #[(.slice b1 S'.ino.length d1),(.slice b2 S'.opn.length d2),(.slice b3 S'.made.length d3)] #[.int .i64 0,.int .i64 0,.int .i64 n,.bool false,.string ⟨#[]⟩,.slice none 0 0] 27 31
 have HO6:Hid (Os W6 W1.heap.size (.slice b1 S'.ino.length d1) (.slice b2 S'.opn.length d2) (.slice b3 S'.made.length d3) eu S'):=o5.kept HKX.out
 have hk16:Kept [] W1 W6:=k5.trans HKX.out (by simp)
 have HK6:Hid (_):=hk16
 have hb2:W6.heap[Z+1+1]?=some (.cells #[.slice none 0 0,.slice none 0 0,.slice none 0 0] 27 (0,0)):=(hk16.block _ (lt_of_heap HBx.out.2.2.1) (by simp)).trans HBx.out.2.2.1
 have hb3:W6.heap[Z+1+1+1]?=some (.cells #[.int .i64 0,.int .i64 0,.int .i64 0,.bool false,.string ⟨#[]⟩,.slice none 0 0] 31 (0,0)):=(hk16.block _ (lt_of_heap HBx.out.2.2.2.1) (by simp)).trans HBx.out.2.2.2.1
 have HB2:Hid (_):=hb2
 have HB3:Hid (_):=hb3
 have hZX:Z+1+1+1 < X:=by have h1:=HBx.out.2.2.2.2.1;have h2:=k5.size;have h3:=HX.out.2;omega
 have HS6:Hid (W6.cell? ⟨X,0,none⟩=some (.slice b1 S'.ino.length d1)∧W6.cell? ⟨X,1,none⟩=some (.slice b2 S'.opn.length d2)∧W6.cell? ⟨X,2,none⟩=some (.slice b3 S'.made.length d3)∧W6.cell? ⟨X+1,0,none⟩=some (.int .i64 0)∧W6.cell? ⟨X+1,1,none⟩=some (.int .i64 0)∧W6.cell? ⟨X+1,2,none⟩=some (.int .i64 n)∧W6.cell? ⟨X+1,3,none⟩=some (.bool false)∧W6.cell? ⟨X+1,4,none⟩=some (.string ⟨#[]⟩)∧W6.cell? ⟨X+1,5,none⟩=some (.slice none 0 0)):=⟨cellB HXb.out.1,cellB HXb.out.1,cellB HXb.out.1,cellB HXb.out.2.1,cellB HXb.out.2.1,cellB HXb.out.2.1,cellB HXb.out.2.1,cellB HXb.out.2.1,cellB HXb.out.2.1⟩
 have HZX:Hid (_):=hZX
 obtain ⟨g0,g1,g2,s0,s1,s2⟩:=zs3 hb2
 obtain ⟨r0,r1,r2,r3,r4,r5,q0,q1,q2,q3,q4,q5⟩:=rs6 hb3
 clear o5 k5 hb2 hb3 hk16 hZX x0 x1 x2 y0 y1 y2 y3 y4 y5 y6 y7
 go_upto_region 2 with fail
 rw [HX.out.1,HX.out.2]
 refine wp_region_held_drew (S:=fun w'=>w'.cell? ⟨X,0,none⟩=some (.slice b1 S'.ino.length d1)∧w'.cell? ⟨X,1,none⟩=some (.slice b2 S'.opn.length d2)∧w'.cell? ⟨X,2,none⟩=some (.slice b3 S'.made.length d3)∧w'.cell? ⟨X+1,0,none⟩=some (.int .i64 0)∧w'.cell? ⟨X+1,1,none⟩=some (.int .i64 0)∧w'.cell? ⟨X+1,2,none⟩=some (.int .i64 n)∧w'.cell? ⟨X+1,3,none⟩=some (.bool false)∧w'.cell? ⟨X+1,4,none⟩=some (.string ⟨#[]⟩)∧w'.cell? ⟨X+1,5,none⟩=some (.slice none 0 0)) (by kernel_rfl) ?_ (fun hHeld=>?_)
 · exact HS6.out
 refine tkA 0 rfl ?_
 refine tkA 1 rfl ?_
 refine wpAnyH_ready (rs:=[2]) (by kernel_rfl) (by simp) ?_
 refine AllReadyH.cons rfl (fun K hK=>?_) AllReadyH.nil
 go_simp
 refine hK.out _ _ ?_ (fun hHeld=>?_)
 · exact kpZ HZX.out HS6.out
 clear hK K
 try simp only [Act.put,List.setIfInBounds_toArray,List.set_cons_zero,List.set_cons_succ,List.getElem_toArray,List.getElem_cons_zero,List.getElem_cons_succ]
 refine wpAnyH_ready (rs:=[3]) (by kernel_rfl) (by simp) ?_
 refine AllReadyH.cons rfl (fun K hK=>?_) AllReadyH.nil
 go_simp
 refine hK.out _ _ ?_ (fun hHeld=>?_)
 · exact kpY HZX.out hHeld
 clear hK K
 try simp only [Act.put,List.setIfInBounds_toArray,List.set_cons_zero,List.set_cons_succ,List.getElem_toArray,List.getElem_cons_zero,List.getElem_cons_succ]
 refine wpAnyH_done (by kernel_rfl) ?_ _
 obtain ⟨W8,hW8⟩:∃ W8,(laidY (laidZ W6 (Z+1+1) (.slice b1 S'.ino.length d1) (.slice b2 S'.opn.length d2) (.slice b3 S'.made.length d3)) (Z+1+1+1) (.int .i64 0) (.int .i64 0) (.int .i64 n) (.bool false) (.string ⟨#[]⟩) (.slice none 0 0)).drew=W8:=⟨_,rfl⟩
 have HBS:Hid (W8.heap[Z+1+1]?=some (.cells #[(.slice b1 S'.ino.length d1),(.slice b2 S'.opn.length d2),(.slice b3 S'.made.length d3)] 27 (0,0))):=by
  show _=_
  rw [← hW8,drew_heap,otherY (by omega)];exact blockZ HB2.out _ _ _
 have HBR:Hid (W8.heap[Z+1+1+1]?=some (.cells #[.int .i64 0,.int .i64 0,.int .i64 n,.bool false,.string ⟨#[]⟩,.slice none 0 0] 31 (0,0))):=by
  show _=_
  rw [← hW8,drew_heap];exact blockY ((otherZ (by omega)).trans HB3.out) _ _ _ _ _ _
 have HE:Hid (Os W8 w.heap.size (.slice b1 S'.ino.length d1) (.slice b2 S'.opn.length d2) (.slice b3 S'.made.length d3) eu S'∧Kept [] w W8):=by
  have hz:=HBx.out.2.2.2.2.2
  have hz1:=HBx.out.2.2.2.2.1
  rw [← hW8]
  refine ⟨Os.less (((HO6.out.laidZ (by omega) _ _ _).laidY (by omega) _ _ _ _ _ _).kept (Kept.refl _ _).drew) (by omega),(keptY (keptZ (HK1.out.trans HK6.out (by simp)) (by omega) _ _ _) (by omega) _ _ _ _ _ _).drew⟩
 clear hHeld g0 g1 g2 s0 s1 s2 r0 r1 r2 r3 r4 r5 q0 q1 q2 q3 q4 q5 HS6
 rw [hW8]
 clear hW8
 go_wp2_with fail
 (try simp only [Exit.inBlock,Exit.then])
 refine bodyPost_ret (results_ccY rfl _ _ (Z+1+1) (Z+1+1+1) 27 31 #[(.slice b1 S'.ino.length d1),(.slice b2 S'.opn.length d2),(.slice b3 S'.made.length d3)] #[.int .i64 0,.int .i64 0,.int .i64 n,.bool false,.string ⟨#[]⟩,.slice none 0 0] (0,0) _ _ rfl rfl HBS.out HBR.out Tryz.underlying27 rfl (by kernel_rfl) Tryz.underlying31 rfl (by kernel_rfl)) rfl ?_
 exact ⟨_,_,_,eu,rfl,HE.out.1,HE.out.2⟩
theorem inn_names {S S':Sta} (c:Cal) (hl:Inn 99 [.agg #[.int .i64 8,.int .i64 c.core,.int .i64 c.fd,.int .i64 c.off,.int .i64 c.num,.string c.path,.string c.path2,.string c.data]] (.agg #[.int .i64 0,.int .i64 0,.int .i64 0,.bool false,.string ⟨#[]⟩,.slice none 0 0]) S S'):Inn 64 [.agg #[.int .i64 8,.int .i64 c.core,.int .i64 c.fd,.int .i64 c.off,.int .i64 c.num,.string c.path,.string c.path2,.string c.data]] (.agg #[.int .i64 0,.int .i64 0,.int .i64 0,.bool false,.string ⟨#[]⟩,.slice none 0 0]) S S':=by
 intro w0 w X v1 v2 v3 ev h
 obtain ⟨W1,Z,HW,HKW,HZb⟩:=twoY w #[.int .i64 8,.int .i64 c.core,.int .i64 c.fd,.int .i64 c.off,.int .i64 c.num,.string c.path,.string c.path2,.string c.data] #[.int .i64 0,.int .i64 0,.int .i64 0,.bool false,.string ⟨#[]⟩,.slice none 0 0] 35 31
 have HH:Hid (_):=h.kept HKW.out
 have HL:Hid (_):=hl
 have HXZ:Hid (X < Z∧w.heap.size=Z∧w0.heap.size≤Z+1):=by
  have h1:=lt_of_heap h.box
  have h2:=HW.out.2
  have h3:=h.k.size
  exact ⟨by omega,h2,by omega⟩
 obtain ⟨y0,y1,y2,y3,y4,y5,y6,y7⟩:=ys8 HZb.out.1
 clear h hl
 show Calls Tryz.prog 64 #[.pointer (some ⟨X,0,none⟩),.agg #[.int .i64 8,.int .i64 c.core,.int .i64 c.fd,.int .i64 c.off,.int .i64 c.num,.string c.path,.string c.path2,.string c.data]] w _
 go_enter Tryz.func64,Tryz.ntmps64
 go_upto_region 1 with fail
 rw [HW.out.1,HW.out.2]
 clear HW
 go_wp2_with fail
 refine (HL.out _ _ _ _ _ _ _ HH.out).mono ?_
 rintro e w5 ⟨rfl,u1,u2,u3,eu,F,h5,kF,hF⟩
 have hres:w5.heap[Z+1]?=some (.cells #[.int .i64 0,.int .i64 0,.int .i64 0,.bool false,.string ⟨#[]⟩,.slice none 0 0] 31 (0,0)):=(kF.block _ (lt_of_heap HZb.out.2.1) (fun hm=>by
  rcases hF _ hm with h | h
  · have:=HXZ.out.1;omega
  · exact h (off_type HH.out.os HZb.out.2.1 (by decide)))).trans HZb.out.2.1
 have h6:=h5.laidY (Z:=Z+1) HXZ.out.2.2 (by have:=HXZ.out.1;omega) (off_type h5.os hres (by decide)) (.int .i64 0) (.int .i64 0) (.int .i64 0) (.bool false) (.string ⟨#[]⟩) (.slice none 0 0)
 have h9:=blockY hres (.int .i64 0) (.int .i64 0) (.int .i64 0) (.bool false) (.string ⟨#[]⟩) (.slice none 0 0)
 have hkk:Kept F w (laidY w5 (Z+1) (.int .i64 0) (.int .i64 0) (.int .i64 0) (.bool false) (.string ⟨#[]⟩) (.slice none 0 0)):=
  keptY ((HKW.out.mono (by simp)).trans kF (fun x hx=>Or.inl hx)) (by have:=HXZ.out.2.1;omega) _ _ _ _ _ _
 obtain ⟨t0,t1,t2,t3,t4,t5,f0,f1,f2,f3,f4,f5⟩:=rs6 hres
 obtain ⟨W9,hW9⟩:∃ W9,laidY w5 (Z+1) (.int .i64 0) (.int .i64 0) (.int .i64 0) (.bool false) (.string ⟨#[]⟩) (.slice none 0 0)=W9:=⟨_,rfl⟩
 rw [hW9] at h6 h9 hkk
 have HF:Hid (_∧_∧_):=⟨h6,hkk,hF⟩
 have HW9:Hid (_):=hW9
 clear hW9 hres h6 hkk hF h5 kF y0 y1 y2 y3 y4 y5 y6 y7
 go_wp2_with fail
 (try simp only [Exit.inBlock,Exit.then])
 unfold Go.Proofs.YtffncojcnbhblaaGreatDoor.laidY at HW9
 rw [HW9.out]
 refine bodyPost_ret (results_cell_row rfl _ _ (Z+1) 31 #[.int .i64 0,.int .i64 0,.int .i64 0,.bool false,.string ⟨#[]⟩,.slice none 0 0] (0,0) _ rfl h9 Tryz.underlying31 rfl (by kernel_rfl)) rfl ?_
 exact ⟨rfl,_,_,_,_,_,HF.out.1,HF.out.2.1,HF.out.2.2⟩
end Go.Proofs.YtffncojcnbhblaaGreatDoor
