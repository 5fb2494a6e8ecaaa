/-
  Joined of my texts Dr Ta.
-/
import Derived.Test.YtffncojcnbhblaaGreatDoorJb16
import Derived.Test.YtffncojcnbhblaaGreatDoorTk
set_option linter.unusedVariables false
set_option linter.unusedSimpArgs false
set_option maxRecDepth 100000
set_option maxHeartbeats 8000000
namespace Go.Proofs.YtffncojcnbhblaaGreatDoor
open List renaming setIfInBounds_toArray → lz0, set_cons_zero → lz1, set_cons_succ → lz2, getElem_toArray → lz3, getElem_cons_zero → lz4, getElem_cons_succ → lz5
open Go.RowKit
@[reducible] def dropS (S:Sta) (k:Nat):Sta:=⟨S.ino.eraseIdx k,S.opn,S.made⟩
def sweepS (S:Sta) (num:Int):Sta:=if linksR S.ino num=0∧(opP S.opn num).isSome=false then (match atR S.ino num with
 | none=>S
 | some k=>dropS S k) else S
theorem Os.drop {w w':World} {H:Nat} {v1 v2 v3:Value} {ev:List Value} {S:Sta} (h:Os w H v1 v2 v3 ev S) {k:Nat} (hk:k < S.ino.length) {g cap:Nat} (hv1:v1=.slice (some ⟨g,0,none⟩) S.ino.length cap)
  (r:w'.ownsRow H 62 4 (.slice (some ⟨g,0,none⟩) (S.ino.length - 1) cap) (S.ino.length - 1) (inoC (S.ino.eraseIdx k) (ev.eraseIdx k))) (kk:Kept [g] w w') :
  Os w' H (.slice (some ⟨g,0,none⟩) (S.ino.length - 1) cap) v2 v3 (ev.eraseIdx k) (dropS S k):=by
 have hg:v1.ownBlock=some g:=by rw [hv1];rfl
 have hg':∀ b,(Value.slice (some ⟨g,0,none⟩) (S.ino.length - 1) cap).ownBlock=some b→v1.ownBlock=some b:=fun b hb=>by rw [hg];exact hb
 have no:∀ {u:Value},Ap v1 u→∀ y∈[g],u.ownBlock≠some y:=fun hu y hy e=>by
  rw [List.mem_singleton] at hy
  subst hy
  exact hu y hg e
 have hlen:(S.ino.eraseIdx k).length=S.ino.length - 1:=by rw [List.length_eraseIdx,if_pos hk]
 have hke:k < ev.length:=by rw [h.evl];exact hk
 have hlev:(ev.eraseIdx k).length=S.ino.length - 1:=by rw [List.length_eraseIdx,if_pos hke,h.evl]
 refine ⟨by rw [hlen];exact r,by rw [hlen,hlev],?_,row_keep h.opn kk (no h.a12),row_keep h.mad kk (no h.a13),fun b hb=>h.a12 b (hg' b hb),fun b hb=>h.a13 b (hg' b hb),h.a23,fun v hv=>?_,h.aee.sublist (List.eraseIdx_sublist ..)⟩
 ·
  intro i hi hv
  have get:∃ j,∃ hj:j < S.ino.length,∃ hj2:j < ev.length,(S.ino.eraseIdx k)[i]'hi=S.ino[j]∧(ev.eraseIdx k)[i]'hv=ev[j]:=by
   rw [List.getElem_eraseIdx,List.getElem_eraseIdx]
   have hi2:i < S.ino.length - 1:=by rw [← hlen];exact hi
   by_cases c:i < k
   · exact ⟨i,by omega,by omega,by rw [dif_pos c],by rw [dif_pos c]⟩
   · exact ⟨i+1,by omega,by rw [h.evl];omega,by rw [dif_neg c],by rw [dif_neg c]⟩
  obtain ⟨j,hj,hj2,e1,e2⟩:=get
  show World.ownsRow _ H 64 2 ((ev.eraseIdx k)[i]'hv) ((S.ino.eraseIdx k)[i]'hi).ents.length (flat ((S.ino.eraseIdx k)[i]'hi).ents)
  rw [e1,e2]
  exact row_keep (h.ent j hj hj2) kk (no (h.ae _ (List.getElem_mem hj2)).1)
 ·
  have hm:=List.mem_of_mem_eraseIdx hv
  obtain ⟨x1,x2,x3⟩:=h.ae v hm
  exact ⟨fun b hb=>x1 b (hg' b hb),x2,x3⟩
theorem Bd.drop {S:Sta} (h:Bd S) (k:Nat):Bd (dropS S k):=by
 have mem:∀ y∈S.ino.eraseIdx k,y∈S.ino:=fun y hy=>List.mem_of_mem_eraseIdx hy
 refine ⟨Nat.le_trans (List.eraseIdx_sublist S.ino k).length_le h.n1,h.n2,h.n3,fun y hy=>h.n4 y (mem y hy),fun y hy=>h.w1 y (mem y hy),fun y hy=>h.d1 y (mem y hy),fun y hy=>h.e1 y (mem y hy)⟩
theorem s4d_kept {w w':World} {B X:Nat} {num:Int} {p:Pl} {S:Sta} (h:w.cell? ⟨B,8,none⟩=some (.slice p.a1 S.ino.length p.c1)∧w.cell? ⟨B,9,none⟩=some (.slice p.a2 S.opn.length p.c2)∧w.cell? ⟨B,10,none⟩=some (.slice p.a3 S.made.length p.c3)∧w.cell? ⟨X,0,none⟩=some (.int .i64 num)) (k:Kept [] w w'):w'.cell? ⟨B,8,none⟩=some (.slice p.a1 S.ino.length p.c1)∧w'.cell? ⟨B,9,none⟩=some (.slice p.a2 S.opn.length p.c2)∧w'.cell? ⟨B,10,none⟩=some (.slice p.a3 S.made.length p.c3)∧w'.cell? ⟨X,0,none⟩=some (.int .i64 num):=⟨k.cell (h.1) (by simp),k.cell (h.2.1) (by simp),k.cell (h.2.2.1) (by simp),k.cell (h.2.2.2) (by simp)⟩
theorem p_drop_linked {w:World} {B:Nat} {c:Cal} {pk:Value} {p:Pl} {S:Sta} (h:Rd w B c pk p S) (num:Int) (hh:linksR S.ino num≠0) (hs:S.ino.length≤60000) :
  Calls Tryz.prog 139 #[.pointer (some ⟨B,0,none⟩),.int .i64 num] w fun e w'=>e=.returned (.tuple #[])∧Kept [] w w':=by
 obtain ⟨W1,X,HWX,HKX,x0⟩:=box1 w (.int .i64 num) 3
 have HR1:Hid (Rd W1 B c pk p S):=h.kept HKX.out
 have HS:Hid (W1.cell? ⟨B,8,none⟩=some (.slice p.a1 S.ino.length p.c1)∧W1.cell? ⟨B,9,none⟩=some (.slice p.a2 S.opn.length p.c2)∧W1.cell? ⟨B,10,none⟩=some (.slice p.a3 S.made.length p.c3)∧W1.cell? ⟨X,0,none⟩=some (.int .i64 num)):=⟨HR1.out.c8,HR1.out.c9,HR1.out.c10,x0⟩
 have HN:Hid (_):=hs
 obtain ⟨ln,hln⟩:∃ ln,linksR S.ino num=ln:=⟨_,rfl⟩
 have HL:Hid (linksR S.ino num=ln):=hln
 have t1:((ln:Int) == 0)=false:=by rw [hln] at hh;simp;omega
 have t2:¬ (ln:Int)=0:=by rw [hln] at hh;omega
 clear h x0 hs hh hln
 go_enter Tryz.func139,Tryz.ntmps139
 go_upto_region 1 with fail
 rw [HWX.out.1,HWX.out.2]
 clear HWX
 refine wp_region_held_drew (S:=fun w'=>w'.cell? ⟨B,8,none⟩=some (.slice p.a1 S.ino.length p.c1)∧w'.cell? ⟨B,9,none⟩=some (.slice p.a2 S.opn.length p.c2)∧w'.cell? ⟨B,10,none⟩=some (.slice p.a3 S.made.length p.c3)∧w'.cell? ⟨X,0,none⟩=some (.int .i64 num)) (by kernel_rfl) ?_ (fun hHeld=>?_)
 · exact HS.out
 refine tkA 0 rfl ?_
 refine tkA 1 rfl ?_
 refine tkA 2 rfl ?_
 refine tkA 3 rfl ?_
 refine tkA 4 rfl ?_
 refine wpAnyH_ready (rs:=[5]) (by kernel_rfl) (by simp) ?_
 refine AllReadyH.cons rfl (fun K hK=>?_) AllReadyH.nil
 go_simp
 refine (p_links (HR1.out.sv.kept (Kept.refl _ _).drew) num HN.out).mono ?_
 rintro e w4 ⟨rfl,k4⟩
 rw [HL.out]
 have z4:=s4d_kept hHeld k4
 have HK4:Hid (Kept [] W1 w4):=(Kept.refl _ _).drew.trans k4 (by simp)
 clear k4
 go_wp2_with fail
 refine hK.out _ _ ?_ (fun hHeld=>?_)
 · exact z4
 clear hK K
 try simp only [Act.put,lz0,lz1,lz2,lz3,lz4,lz5]
 refine tkA 6 rfl ?_
 refine tkA 7 rfl ?_
 refine skA 8 rfl ?_
 refine skA 9 rfl ?_
 refine skA 10 rfl ?_
 refine skA 11 rfl ?_
 refine skA 12 rfl ?_
 refine skA 13 rfl ?_
 refine skA 14 rfl ?_
 refine tkA 15 rfl ?_
 refine wpAnyH_done (by kernel_rfl) ?_ _
 have HK:Hid (Kept [] w w4):=HKX.out.trans HK4.out (by simp)
 clear z4
 go_wp2_with fail
 go_end0
 exact ⟨rfl,HK.out⟩
theorem p_drop_open {w:World} {B:Nat} {c:Cal} {pk:Value} {p:Pl} {S:Sta} (h:Rd w B c pk p S) (num:Int) (hl:linksR S.ino num=0) (hh:(opP S.opn num).isSome=true) (hs:S.ino.length≤60000) :
  Calls Tryz.prog 139 #[.pointer (some ⟨B,0,none⟩),.int .i64 num] w fun e w'=>e=.returned (.tuple #[])∧Kept [] w w':=by
 obtain ⟨W1,X,HWX,HKX,x0⟩:=box1 w (.int .i64 num) 3
 have HR1:Hid (Rd W1 B c pk p S):=h.kept HKX.out
 have HS:Hid (W1.cell? ⟨B,8,none⟩=some (.slice p.a1 S.ino.length p.c1)∧W1.cell? ⟨B,9,none⟩=some (.slice p.a2 S.opn.length p.c2)∧W1.cell? ⟨B,10,none⟩=some (.slice p.a3 S.made.length p.c3)∧W1.cell? ⟨X,0,none⟩=some (.int .i64 num)):=⟨HR1.out.c8,HR1.out.c9,HR1.out.c10,x0⟩
 have HN:Hid (_):=hs
 have HL:Hid (_):=hl
 have HOp:Hid (_):=hh
 clear h x0 hs hh hl
 go_enter Tryz.func139,Tryz.ntmps139
 go_upto_region 1 with fail
 rw [HWX.out.1,HWX.out.2]
 clear HWX
 refine wp_region_held_drew (S:=fun w'=>w'.cell? ⟨B,8,none⟩=some (.slice p.a1 S.ino.length p.c1)∧w'.cell? ⟨B,9,none⟩=some (.slice p.a2 S.opn.length p.c2)∧w'.cell? ⟨B,10,none⟩=some (.slice p.a3 S.made.length p.c3)∧w'.cell? ⟨X,0,none⟩=some (.int .i64 num)) (by kernel_rfl) ?_ (fun hHeld=>?_)
 · exact HS.out
 refine tkA 0 rfl ?_
 refine tkA 1 rfl ?_
 refine tkA 2 rfl ?_
 refine tkA 3 rfl ?_
 refine tkA 4 rfl ?_
 refine wpAnyH_ready (rs:=[5]) (by kernel_rfl) (by simp) ?_
 refine AllReadyH.cons rfl (fun K hK=>?_) AllReadyH.nil
 go_simp
 refine (p_links (HR1.out.sv.kept (Kept.refl _ _).drew) num HN.out).mono ?_
 rintro e w4 ⟨rfl,k4⟩
 rw [HL.out]
 have z4:=s4d_kept hHeld k4
 have HK4:Hid (Kept [] W1 w4):=(Kept.refl _ _).drew.trans k4 (by simp)
 clear k4
 go_wp2_with fail
 refine hK.out _ _ ?_ (fun hHeld=>?_)
 · exact z4
 clear hK K
 try simp only [Act.put,lz0,lz1,lz2,lz3,lz4,lz5]
 refine tkA 6 rfl ?_
 refine tkA 7 rfl ?_
 refine tkA 8 rfl ?_
 refine tkA 9 rfl ?_
 refine tkA 10 rfl ?_
 refine tkA 11 rfl ?_
 refine tkA 12 rfl ?_
 refine wpAnyH_ready (rs:=[13]) (by kernel_rfl) (by simp) ?_
 refine AllReadyH.cons rfl (fun K hK=>?_) AllReadyH.nil
 go_simp
 refine (p_isopen (HR1.out.sv.kept HK4.out) num).mono ?_
 rintro e w5 ⟨rfl,k5⟩
 rw [HOp.out]
 have z5:=s4d_kept z4 k5
 have HK5:Hid (Kept [] W1 w5):=HK4.out.trans k5 (by simp)
 clear k5
 go_wp2_with fail
 refine hK.out _ _ ?_ (fun hHeld=>?_)
 · exact z5
 clear hK K
 try simp only [Act.put,lz0,lz1,lz2,lz3,lz4,lz5]
 refine tkA 14 rfl ?_
 refine tkA 15 rfl ?_
 refine wpAnyH_done (by kernel_rfl) ?_ _
 have HK:Hid (Kept [] w w5):=HKX.out.trans HK5.out (by simp)
 clear z4 z5
 go_wp2_with fail
 go_end0
 exact ⟨rfl,HK.out⟩
theorem p_drop_none {w0 w:World} {B:Nat} {c:Cal} {pk v1 v2 v3:Value} {ev:List Value} {S:Sta} (h:Cb w0 w B c pk v1 v2 v3 ev S) (num:Int) (hl:linksR S.ino num=0) (hh:(opP S.opn num).isSome=false) (hs:S.ino.length≤60000) {k:Nat} (hat:atR S.ino num=some k) (hu:∀ j (hj:j < S.ino.length),j≠k→(S.ino[j]).num≠num) :
  Calls Tryz.prog 139 #[.pointer (some ⟨B,0,none⟩),.int .i64 num] w fun e w'=>e=.returned (.tuple #[])∧∃ u1 eu,Cb w0 w' B c pk u1 v2 v3 eu (dropS S k)∧FrB B w w' v1 v2 v3 ev u1 v2 v3 eu:=by
 obtain ⟨W1,X,HWX,HKX,x0⟩:=box1 w (.int .i64 num) 3
 have HC1:Hid (Cb w0 W1 B c pk v1 v2 v3 ev S):=h.kept HKX.out
 obtain ⟨p,e1,e2,e3,hrd,f1,f3⟩:=HC1.out.rd
 have HR1:Hid (Rd W1 B c pk p S):=hrd
 obtain ⟨hk,-⟩:=at_get hat
 obtain ⟨b1,o1,ae,ce,ha,-⟩:=hrd.sv.ino k hk
 have ho1:o1=0:=by
  obtain ⟨g,hg⟩:=f1 _ ha
  simp only [Addr.mk.injEq,and_true] at hg
  exact hg.2
 subst ho1
 have HV1:Hid (v1=.slice (some ⟨b1,0,none⟩) S.ino.length p.c1):=by show _=_;rw [e1,ha]
 have HA:Hid (p.a1=some ⟨b1,0,none⟩):=ha
 have HS:Hid (W1.cell? ⟨B,8,none⟩=some (.slice p.a1 S.ino.length p.c1)∧W1.cell? ⟨B,9,none⟩=some (.slice p.a2 S.opn.length p.c2)∧W1.cell? ⟨B,10,none⟩=some (.slice p.a3 S.made.length p.c3)∧W1.cell? ⟨X,0,none⟩=some (.int .i64 num)):=⟨HR1.out.c8,HR1.out.c9,HR1.out.c10,x0⟩
 have HN:Hid (_):=hs
 have HL:Hid (_):=hl
 have HOp:Hid (_):=hh
 have HAt:Hid (atR S.ino num=some k∧(∀ j (hj:j < S.ino.length),j≠k→(S.ino[j]).num≠num)∧k < S.ino.length):=⟨hat,hu,hk⟩
 have HXg:Hid (X≠b1∧w.heap.size≤X):=by
  have h1:=(h.os.ino.lt b1 (by rw [HV1.out];rfl)).2
  have h2:=HWX.out.2
  exact ⟨by omega,by omega⟩
 have hmf:=makeF
 clear h x0 hs hh hl hat hu hk ha e1 e2 e3 f1 f3 hrd
 go_enter Tryz.func139,Tryz.ntmps139
 go_upto_region 1 with fail
 rw [HWX.out.1,HWX.out.2]
 clear HWX
 refine wp_region_held_drew (S:=fun w'=>w'.cell? ⟨B,8,none⟩=some (.slice p.a1 S.ino.length p.c1)∧w'.cell? ⟨B,9,none⟩=some (.slice p.a2 S.opn.length p.c2)∧w'.cell? ⟨B,10,none⟩=some (.slice p.a3 S.made.length p.c3)∧w'.cell? ⟨X,0,none⟩=some (.int .i64 num)) (by kernel_rfl) ?_ (fun hHeld=>?_)
 · exact HS.out
 refine tkA 0 rfl ?_
 refine tkA 1 rfl ?_
 refine tkA 2 rfl ?_
 refine tkA 3 rfl ?_
 refine tkA 4 rfl ?_
 refine wpAnyH_ready (rs:=[5]) (by kernel_rfl) (by simp) ?_
 refine AllReadyH.cons rfl (fun K hK=>?_) AllReadyH.nil
 go_simp
 refine (p_links (HR1.out.sv.kept (Kept.refl _ _).drew) num HN.out).mono ?_
 rintro e w4 ⟨rfl,k4⟩
 rw [HL.out]
 have z4:=s4d_kept hHeld k4
 have HK4:Hid (Kept [] W1 w4):=(Kept.refl _ _).drew.trans k4 (by simp)
 clear k4
 go_wp2_with fail
 refine hK.out _ _ ?_ (fun hHeld=>?_)
 · exact z4
 clear hK K
 try simp only [Act.put,lz0,lz1,lz2,lz3,lz4,lz5]
 refine tkA 6 rfl ?_
 refine tkA 7 rfl ?_
 refine tkA 8 rfl ?_
 refine tkA 9 rfl ?_
 refine tkA 10 rfl ?_
 refine tkA 11 rfl ?_
 refine tkA 12 rfl ?_
 refine wpAnyH_ready (rs:=[13]) (by kernel_rfl) (by simp) ?_
 refine AllReadyH.cons rfl (fun K hK=>?_) AllReadyH.nil
 go_simp
 refine (p_isopen (HR1.out.sv.kept HK4.out) num).mono ?_
 rintro e w5 ⟨rfl,k5⟩
 rw [HOp.out]
 have z5:=s4d_kept z4 k5
 have HK5:Hid (Kept [] W1 w5):=HK4.out.trans k5 (by simp)
 clear k5
 go_wp2_with fail
 refine hK.out _ _ ?_ (fun hHeld=>?_)
 · exact z5
 clear hK K
 try simp only [Act.put,lz0,lz1,lz2,lz3,lz4,lz5]
 refine tkA 14 rfl ?_
 refine tkA 15 rfl ?_
 refine wpAnyH_done (by kernel_rfl) ?_ _
 have HK:Hid (Kept [] w w5):=HKX.out.trans HK5.out (by simp)
 have HC5:Hid (_):=HC1.out.kept HK5.out
 have d8:=z5.1
 rw [HA.out] at d8
 have HX5:Hid (_):=z5.2.2.2
 have HDf:Hid (Calls Tryz.prog 155 #[.slice (some ⟨b1,0,none⟩) S.ino.length p.c1,.func (.func 156) #[] #[.pointer (some ⟨X,0,none⟩)]] w5 fun e w'=>e=.returned (.slice (some ⟨b1,0,none⟩) (S.ino.length - 1) p.c1)∧w'.ownsRow w0.heap.size 62 4 (.slice (some ⟨b1,0,none⟩) (S.ino.length - 1) p.c1) (S.ino.length - 1) (inoC (S.ino.eraseIdx k) (ev.eraseIdx k))∧Kept [b1] w5 w'):=by
  have hi:=HC5.out.os.ino
  rw [HV1.out] at hi
  exact delf HC5.out.os.evl (fun i hi hv=>row_ents (HC5.out.os.ent i hi hv)) hi HC5.out.bd.n1 num X HX5.out HXg.out.1 HAt.out.1 HAt.out.2.1
 clear z4 z5 hHeld HC1 HS
 go_wp2_with fail
 refine HDf.out.mono ?_
 rintro e w6 ⟨rfl,r6,k6⟩
 have hBg:B≠b1:=fun e=>(HC5.out.off B (by simp)).1 (by rw [HV1.out,e];rfl)
 have hbx:w6.heap[B]?=_:=(k6.block B (lt_of_heap HC5.out.box) (by simpa using hBg)).trans HC5.out.box
 have d6:w6.cell? ⟨B,8,none⟩=some (.slice (some ⟨b1,0,none⟩) S.ino.length p.c1):=by rw [← HV1.out];exact cellB hbx
 have f6:=frozen_of hbx 8
 have ho6:=HC5.out.os.drop HAt.out.2.2 HV1.out r6 k6
 have hoff:Off [B] (.slice (some ⟨b1,0,none⟩) (S.ino.length - 1) p.c1) v2 v3 (ev.eraseIdx k):=by
  have hB:=HC5.out.off B (by simp)
  exact off_of ⟨fun e=>hB.1 (by rw [HV1.out];exact e),hB.2.1,hB.2.2.1,fun v hv=>hB.2.2.2 v (List.mem_of_mem_eraseIdx hv)⟩
 have HE:Hid (Cb w0 (w6.setCell ⟨B,8,none⟩ (.slice (some ⟨b1,0,none⟩) (S.ino.length - 1) p.c1)) B c pk (.slice (some ⟨b1,0,none⟩) (S.ino.length - 1) p.c1) v2 v3 (ev.eraseIdx k) (dropS S k)∧FrB B w (w6.setCell ⟨B,8,none⟩ (.slice (some ⟨b1,0,none⟩) (S.ino.length - 1) p.c1)) v1 v2 v3 ev (.slice (some ⟨b1,0,none⟩) (S.ino.length - 1) p.c1) v2 v3 (ev.eraseIdx k)):=by
  have hg0:=(HC5.out.os.ino.lt b1 (by rw [HV1.out];rfl)).1
  refine ⟨⟨(HC5.out.k.trans k6 (fun x hx=>by rw [List.mem_singleton] at hx;rw [hx];exact Or.inr hg0)).setCell (Or.inr HC5.out.lo) _,?_,ho6.keep kept_set hoff,hoff,HC5.out.lo,HC5.out.tab,HC5.out.bd.drop k⟩,?_⟩
  ·
   rw [block_set hbx]
   rfl
  ·
   refine ⟨Nat.le_trans (Nat.le_trans HK.out.size k6.size) (kept_set (w:=w6) (B:=B) (i:=8)).size,fun Z hZ hB ho=>?_⟩
   have hz:=ho Z (by simp)
   have hZg:Z≠b1:=fun e=>hz.1 (by rw [HV1.out,e];rfl)
   refine ⟨?_,off_of ⟨fun e=>hz.1 (by rw [HV1.out];exact e),hz.2.1,hz.2.2.1,fun v hv=>hz.2.2.2 v (List.mem_of_mem_eraseIdx hv)⟩⟩
   rw [block_other hB,k6.block Z (Nat.lt_of_lt_of_le hZ HK.out.size) (by simpa using hZg),HK.out.block Z hZ (by simp)]
 clear r6 k6 ho6 hoff hbx hBg d8
 go_wp2_with fail
 go_end0
 exact ⟨rfl,_,_,HE.out.1,HE.out.2⟩
theorem p_drop {w0 w:World} {B:Nat} {c:Cal} {pk v1 v2 v3:Value} {ev:List Value} {S:Sta} (h:Cb w0 w B c pk v1 v2 v3 ev S) (num:Int) (hs:S.ino.length≤60000) (hr:adj ltI S.ino=true) (hat:(atR S.ino num).isSome=true) :
  Calls Tryz.prog 139 #[.pointer (some ⟨B,0,none⟩),.int .i64 num] w fun e w'=>e=.returned (.tuple #[])∧∃ u1 eu,Cb w0 w' B c pk u1 v2 v3 eu (sweepS S num)∧FrB B w w' v1 v2 v3 ev u1 v2 v3 eu:=by
 obtain ⟨p,-,-,-,hrd,-,-⟩:=h.rd
 by_cases h1:linksR S.ino num=0
 ·
  rcases h2:(opP S.opn num).isSome with _ | _
  ·
   rcases h3:atR S.ino num with _ | k
   · rw [h3] at hat;cases hat
   ·
    have e:sweepS S num=dropS S k:=by unfold sweepS;rw [if_pos ⟨h1,h2⟩,h3]
    rw [e]
    obtain ⟨hk,hn⟩:=at_get h3
    refine p_drop_none h num h1 h2 hs h3 fun j hj hne e=>?_
    rcases Nat.lt_or_gt_of_ne hne with c | c
    · have:=adj_lt hr j k hj hk c;omega
    · have:=adj_lt hr k j hk hj c;omega
  ·
   have e:sweepS S num=S:=by unfold sweepS;rw [if_neg (by simp [h2])]
   rw [e]
   refine (p_drop_open hrd num h1 h2 hs).mono ?_
   rintro e w' ⟨rfl,k⟩
   exact ⟨rfl,_,_,h.kept k,FrB.kept k⟩
 ·
  have e:sweepS S num=S:=by unfold sweepS;rw [if_neg (fun x=>h1 x.1)]
  rw [e]
  refine (p_drop_linked hrd num h1 hs).mono ?_
  rintro e w' ⟨rfl,k⟩
  exact ⟨rfl,_,_,h.kept k,FrB.kept k⟩
theorem flat_erase (E:List En) (i:Nat):(flat E).take (i*2) ++ (flat E).drop ((i+1)*2)=flat (E.eraseIdx i):=by
 rw [flat_take,flat_drop,← flat_append,List.eraseIdx_eq_take_drop_succ]
theorem Cb.setEnt {w0 w w':World} {B:Nat} {c:Cal} {pk v1 v2 v3:Value} {ev:List Value} {S:Sta} (h:Cb w0 w B c pk v1 v2 v3 ev S) {k:Nat} (hk:k < S.ino.length) (hv:k < ev.length) {g c1:Nat} (hv1:v1=.slice (some ⟨g,0,none⟩) S.ino.length c1) {ve:Value} {E:List En}
  (kk:Kept (ev[k]).ownBlock.toList w w') (r:w'.ownsRow w0.heap.size 64 2 ve E.length (flat E)) (hb:∀ b,ve.ownBlock=some b→(ev[k]).ownBlock=some b∨w.heap.size≤b) (hbd:Bd (setE S k hk E)) :
  Cb w0 (w'.setCell ⟨g,k*4+2,none⟩ ve) B c pk v1 v2 v3 (ev.set k ve) (setE S k hk E)∧FrB B w (w'.setCell ⟨g,k*4+2,none⟩ ve) v1 v2 v3 ev v1 v2 v3 (ev.set k ve):=by
 have hg:v1.ownBlock=some g:=by rw [hv1];rfl
 have hB:=h.off B (by simp)
 have hBg:B≠g:=fun e=>hB.1 (by rw [hg,e])
 have hBe:B ∉ (ev[k]).ownBlock.toList:=fun hm=>by
  rw [Option.mem_toList] at hm
  exact hB.2.2.2 _ (List.getElem_mem hv) hm
 have hBl:=lt_of_heap h.box
 have offs:∀ Z,Z < w.heap.size→Off [Z] v1 v2 v3 ev→Off [Z] v1 v2 v3 (ev.set k ve):=fun Z hZ ho=>by
  have hz:=ho Z (by simp)
  refine off_of ⟨hz.1,hz.2.1,hz.2.2.1,fun v hm e=>?_⟩
  rcases List.mem_or_eq_of_mem_set hm with h1 | h1
  · exact hz.2.2.2 v h1 e
  ·
   subst h1
   rcases hb Z e with h2 | h2
   · exact hz.2.2.2 _ (List.getElem_mem hv) h2
   · omega
 have kw0:Kept [] w0 w':=h.k.trans kk fun x hx=>by
  rw [Option.mem_toList] at hx
  exact Or.inr ((h.os.ent k hk hv).lt x hx).1
 refine ⟨⟨kw0.setCell (Or.inr (h.os.ino.lt g hg).1) _,?_,h.os.setEnt hk hv hv1 kk r hb,offs B hBl h.off,h.lo,h.tab,hbd⟩,Nat.le_trans kk.size (kept_set (w:=w') (B:=g) (i:=k*4+2) (v:=ve)).size,fun Z hZ _ ho=>⟨?_,offs Z hZ ho⟩⟩
 · rw [block_other hBg,kk.block B hBl hBe];exact h.box
 ·
  have hz:=ho Z (by simp)
  rw [block_other (fun e=>hz.1 (by rw [hg,e])),kk.block Z hZ (fun hm=>by
   rw [Option.mem_toList] at hm
   exact hz.2.2.2 _ (List.getElem_mem hv) hm)]
theorem at_setE {S:Sta} {k:Nat} (hk:k < S.ino.length) (E:List En) (z:Int):atR (setE S k hk E).ino z=atR S.ino z:=by
 have key:∀ (L:List Ino) (k:Nat) (hk:k < L.length),(L.set k (withE L[k] E)).findIdx? (fun x=>x.num == z)=L.findIdx? (fun x=>x.num == z):=by
  intro L
  induction L with
  | nil=>intro k hk;simp at hk
  | cons x l ih=>
   intro k hk
   cases k with
   | zero=>simp [List.findIdx?_cons]
   | succ k=>simp only [List.set_cons_succ,List.getElem_cons_succ,List.findIdx?_cons];rw [ih k (by simpa using hk)]
 exact key S.ino k hk
theorem adj_setE {S:Sta} {k:Nat} (hk:k < S.ino.length) (E:List En) (h:adj ltI S.ino=true):adj ltI (setE S k hk E).ino=true:=by
 rw [adj_iff] at h ⊢
 intro j hj
 have hj':j+1 < S.ino.length:=by simpa using hj
 have num:∀ i (hi:i < S.ino.length),((setE S k hk E).ino[i]'(by simpa using hi)).num=(S.ino[i]).num:=fun i hi=>by
  show ((S.ino.set k (withE (S.ino[k]) E))[i]'(by simpa using hi)).num=_
  by_cases e:i=k
  · subst e;simp
  · rw [List.getElem_set_ne (by omega)]
 have:=h j hj'
 unfold ltI at this ⊢
 rw [num j (by omega),num (j+1) hj']
 exact this
theorem Bd.setEnt {S:Sta} (h:Bd S) {k:Nat} (hk:k < S.ino.length) {E:List En} (hl:E.length≤5864062014634) (he:∀ e∈E,e.1.size≤140737488351232):Bd (setE S k hk E):=by
 have mem:∀ y∈S.ino.set k (withE (S.ino[k]) E),(∃ x∈S.ino,y.num=x.num∧y.data=x.data)∧(y∈S.ino∨y.ents=E):=fun y hy=>by
  rcases List.mem_or_eq_of_mem_set hy with h1 | h1
  · exact ⟨⟨y,h1,rfl,rfl⟩,Or.inl h1⟩
  ·
   subst h1
   exact ⟨⟨_,List.getElem_mem hk,rfl,rfl⟩,Or.inr rfl⟩
 refine ⟨by simpa using h.n1,h.n2,h.n3,fun y hy=>?_,fun y hy=>?_,fun y hy=>?_,fun y hy=>?_⟩
 ·
  rcases (mem y hy).2 with h1 | h1
  · exact h.n4 y h1
  · rw [h1];exact hl
 ·
  obtain ⟨⟨x,hx,e,-⟩,-⟩:=mem y hy
  rw [e];exact h.w1 x hx
 ·
  obtain ⟨⟨x,hx,-,e⟩,-⟩:=mem y hy
  rw [e];exact h.d1 x hx
 ·
  rcases (mem y hy).2 with h1 | h1
  · exact h.e1 y h1
  · rw [h1];exact he
theorem p_take {w0 w:World} {B:Nat} {c:Cal} {pk v1 v2 v3:Value} {ev:List Value} {S:Sta} (h:Cb w0 w B c pk v1 v2 v3 ev S) (d:Int) (t:ByteArray) {k i:Nat} (hat:atR S.ino d=some k) (hk:k < S.ino.length) (hp:plR (S.ino[k]).ents t=some i) (hi:i < (S.ino[k]).ents.length) (hr:adj ltI S.ino=true) (hcl:(atR S.ino ((S.ino[k]).ents[i]).2).isSome=true) (hs:S.ino.length≤60000) :
  Calls Tryz.prog 143 #[.pointer (some ⟨B,0,none⟩),.agg #[.int .i64 d,.string t]] w fun e w'=>e=.returned (.tuple #[])∧∃ u1 eu,Cb w0 w' B c pk u1 v2 v3 eu (sweepS (setE S k hk ((S.ino[k]).ents.eraseIdx i)) ((S.ino[k]).ents[i]).2)∧FrB B w w' v1 v2 v3 ev u1 v2 v3 eu:=by
 have hkv:k < ev.length:=by rw [h.os.evl];exact hk
 obtain ⟨W1,R,HWR,HKR,r0,r1⟩:=box2 w (.int .i64 d) (.string t) 147
 have HC1:Hid (Cb w0 W1 B c pk v1 v2 v3 ev S):=h.kept HKR.out
 obtain ⟨p,e1,e2,e3,hrd,f1,f3⟩:=HC1.out.rd
 have HR1:Hid (Rd W1 B c pk p S):=hrd
 obtain ⟨b,o,ae,ce0,ha,-⟩:=hrd.sv.ino k hk
 obtain ⟨g,hg⟩:=f1 _ ha
 simp only [Addr.mk.injEq,and_true] at hg
 obtain ⟨hb0,ho0⟩:=hg
 subst hb0 ho0
 have HV1:Hid (v1=.slice (some ⟨b,0,none⟩) S.ino.length p.c1):=by show _=_;rw [e1,ha]
 have HIn:Hid (∀ W,Kept [] W1 W→Calls Tryz.prog 48 #[.agg #[.slice (some ⟨b,0,none⟩) S.ino.length p.c1,.slice p.a2 S.opn.length p.c2,.slice p.a3 S.made.length p.c3],.int .i64 d] W fun e w'=>e=.returned (.pointer (some ⟨b,k*4,none⟩))∧Kept [] W w'):=fun W hW=>by
  have:=p_inode_some (hrd.sv.kept hW) d hat ha
  unfold sval at this
  rw [ha,Nat.zero_add] at this
  exact this
 have d8:=hrd.c8
 rw [ha] at d8
 have HC:Hid (W1.cell? ⟨B,8,none⟩=some (.slice (some ⟨b,0,none⟩) S.ino.length p.c1)∧W1.cell? ⟨B,9,none⟩=some (.slice p.a2 S.opn.length p.c2)∧W1.cell? ⟨B,10,none⟩=some (.slice p.a3 S.made.length p.c3)∧W1.cell? ⟨R,0,none⟩=some (.int .i64 d)):=⟨d8,hrd.c9,hrd.c10,r0⟩
 obtain ⟨E,hEE⟩:∃ E,(S.ino[k]).ents=E:=⟨_,rfl⟩
 -- the entries' row
 obtain ⟨aE,ce,hE,-,hfE,-⟩:=row_form (HC1.out.os.ent k hk hkv)
 have hrow:=HC1.out.os.ent k hk hkv
 obtain ⟨ge,hge⟩:∃ ge,aE=some ⟨ge,0,none⟩:=by
  rcases hrow.2 with ⟨-,h2⟩ | ⟨g',cap',cur',h2,-⟩
  · omega
  ·
   rw [hE] at h2
   simp only [Value.slice.injEq] at h2
   exact ⟨g',h2.1⟩
 subst hge
 rw [hEE] at hE
 have HEv:Hid (ev[k]=.slice (some ⟨ge,0,none⟩) E.length ce):=hE
 have HEE:Hid (_):=hEE
 have HN:Hid (E.length≤5864062014634):=by rw [← hEE];exact h.bd.n4 _ (List.getElem_mem hk)
 have HP:Hid (plR E t=some i):=by rw [← hEE];exact hp
 have hi2:i < E.length:=by rw [← hEE];exact hi
 obtain ⟨num,hnum⟩:∃ num,(E[i]).2=num:=⟨_,rfl⟩
 have HNum:Hid (((S.ino[k]).ents[i]).2=num):=by
  show _=_
  rw [← hnum]
  congr 1
  exact List.getElem_of_eq hEE hi
 have HCl:Hid (adj ltI S.ino=true∧(atR S.ino num).isSome=true∧S.ino.length≤60000):=⟨hr,by rw [HNum.out] at hcl;exact hcl,hs⟩
 have HNe:Hid ((E[i]).2=num):=hnum
 have HEnt:Hid (∀ W,Cb w0 W B c pk v1 v2 v3 ev S→W.ownsRow w0.heap.size 64 2 (.slice (some ⟨ge,0,none⟩) E.length ce) E.length (flat E)∧EntA W (some ⟨ge,0,none⟩) E∧W.cell? ⟨b,k*4+2,none⟩=some (.slice (some ⟨ge,0,none⟩) E.length ce)∧W.frozen? ⟨b,k*4+2,none⟩=false):=fun W hW=>by
  have h1:=hW.os.ent k hk hkv
  rw [HEv.out,HEE.out] at h1
  obtain ⟨a9,c9,e9,hA9,-⟩:=row_ents h1
  simp only [Value.slice.injEq] at e9
  have h2:=hW.os.ino
  rw [HV1.out] at h2
  refine ⟨h1,by rw [e9.1];exact hA9,?_,h2.frozenAt _⟩
  rw [h2.cellAt (k*4+2) (by have:=hk;omega),(inoC_get hk hkv).2.2.1,HEv.out]
 have HRb:Hid (R≠b∧R≠ge):=by
  have h1:=(h.os.ino.lt b (by rw [HV1.out];rfl)).2
  have h2:=((h.os.ent k hk hkv).lt ge (by rw [HEv.out];rfl)).2
  have h3:=HWR.out.2
  exact ⟨by omega,by omega⟩
 clear h hat hp hr hcl hs d8 r0 e1 e2 e3 f1 f3 ha hrd hE hEE hrow hfE hnum
 go_enter Tryz.func143,Tryz.ntmps143
 go_upto_region 1 with fail
 rw [HWR.out.1,HWR.out.2]
 clear HWR
 go_region_held3 (fun w'=>w'.cell? ⟨B,8,none⟩=some (.slice (some ⟨b,0,none⟩) S.ino.length p.c1)∧w'.cell? ⟨B,9,none⟩=some (.slice p.a2 S.opn.length p.c2)∧w'.cell? ⟨B,10,none⟩=some (.slice p.a3 S.made.length p.c3)∧w'.cell? ⟨R,0,none⟩=some (.int .i64 d)) (first | exact HC.out | exact z4 | go_keep)
  (first
   | (go_at_call 48;refine (HIn.out _ (Kept.refl _ _).drew).mono ?_;rintro e w4 ⟨rfl,k4⟩;have z4:=(⟨k4.cell (HC.out.1) (by simp),k4.cell (HC.out.2.1) (by simp),k4.cell (HC.out.2.2.1) (by simp),k4.cell (HC.out.2.2.2) (by simp)⟩:w4.cell? ⟨B,8,none⟩=some (.slice (some ⟨b,0,none⟩) S.ino.length p.c1)∧w4.cell? ⟨B,9,none⟩=some (.slice p.a2 S.opn.length p.c2)∧w4.cell? ⟨B,10,none⟩=some (.slice p.a3 S.made.length p.c3)∧w4.cell? ⟨R,0,none⟩=some (.int .i64 d));have HK4:Hid (Kept [] W1 w4):=(Kept.refl _ _).drew.trans k4 (by simp);clear k4))
 have HC4:Hid (Cb w0 w4 B c pk v1 v2 v3 ev S):=HC1.out.kept HK4.out
 have r4:w4.cell? ⟨R,1,none⟩=some (.string t):=HK4.out.cell r1 (by simp)
 have HS2:Hid (w4.cell? ⟨b,k*4+2,none⟩=some (.slice (some ⟨ge,0,none⟩) E.length ce)∧w4.cell? ⟨R,1,none⟩=some (.string t)):=⟨(HEnt.out w4 HC4.out).2.2.1,r4⟩
 have HKw:Hid (Kept [] w w4):=HKR.out.trans HK4.out (by simp)
 clear z4 HC HK4 r1 HIn HC1 r4
 go_upto_region 2 with fail
 go_region_held3 (fun w'=>w'.cell? ⟨b,k*4+2,none⟩=some (.slice (some ⟨ge,0,none⟩) E.length ce)∧w'.cell? ⟨R,1,none⟩=some (.string t)) (first | exact HS2.out | exact z5 | go_keep)
  (first
   | (go_at_call 49;refine (p_place ((HEnt.out _ (HC4.out.kept (Kept.refl _ _).drew)).2.1) (by unfold lim;have:=HN.out;omega) ce t).mono ?_;rintro e w5 ⟨rfl,k5⟩;have z5:=(⟨k5.cell (HS2.out.1) (by simp),k5.cell (HS2.out.2) (by simp)⟩:w5.cell? ⟨b,k*4+2,none⟩=some (.slice (some ⟨ge,0,none⟩) E.length ce)∧w5.cell? ⟨R,1,none⟩=some (.string t));have HK5:Hid (Kept [] w4 w5):=(Kept.refl _ _).drew.trans k5 (by simp);clear k5))
 rw [HP.out]
 unfold ixI
 have HC5:Hid (Cb w0 w5 B c pk v1 v2 v3 ev S):=HC4.out.kept HK5.out
 have HKw5:Hid (Kept [] w w5):=HKw.out.trans HK5.out (by simp)
 obtain ⟨hrow,hEA,hcell,hfrz⟩:=HEnt.out w5 HC5.out
 have HRow:Hid (_):=hrow
 obtain ⟨b9,o9,hb9,-,hnc⟩:=hEA i hi2
 simp only [Option.some.injEq,Addr.mk.injEq,and_true] at hb9
 obtain ⟨hb8,ho8⟩:=hb9
 subst hb8 ho8
 rw [HNe.out,Nat.zero_add] at hnc
 have i0:(0:Int)≤(i:Int):=by omega
 have i1:(i:Int) < (E.length:Int):=by omega
 have i2:¬ (i:Int) < 0:=by omega
 have iw:wrap64 ((i:Int)+1)=(i:Int)+1:=by have:=HN.out;unfold wrap64;omega
 clear z5 HS2 HC4 HK5 HKw hrow hEA
 go_wp2_with fail
 refine (del_Entry HRow.out (flat_one E) i hi2 HN.out).mono ?_
 rintro e w6 ⟨rfl,r6,k6⟩
 have hgeb:ge≠b:=fun e=>(HC5.out.os.ae _ (List.getElem_mem hkv)).1 b (by rw [HV1.out];rfl) (by rw [HEv.out,e];rfl)
 have c6:w6.cell? ⟨b,k*4+2,none⟩=some (.slice (some ⟨ge,0,none⟩) E.length ce):=k6.cell hcell (by simpa using Ne.symm hgeb)
 have f6:w6.frozen? ⟨b,k*4+2,none⟩=false:=by
  have h2:=row_keep HC5.out.os.ino k6 (fun x hx e=>by
   rw [List.mem_singleton] at hx
   rw [HV1.out,hx] at e
   simp [Value.ownBlock] at e
   exact hgeb e.symm)
  rw [HV1.out] at h2
  exact h2.frozenAt _
 have hlen:(E.eraseIdx i).length=E.length - 1:=by rw [List.length_eraseIdx,if_pos hi2]
 have hset:=HC5.out.setEnt (w':=w6) hk hkv HV1.out (ve:=.slice (some ⟨ge,0,none⟩) (E.length - 1) ce) (E:=E.eraseIdx i) (by rw [HEv.out];simpa [Value.ownBlock] using k6) (by rw [hlen,← flat_erase];exact r6) (fun q hq=>Or.inl (by rw [HEv.out];exact hq)) (HC5.out.bd.setEnt hk (by have:=HN.out;omega) (fun e he=>HC5.out.bd.e1 _ (List.getElem_mem hk) e (by rw [HEE.out];exact List.mem_of_mem_eraseIdx he)))
 have HC7:Hid (_):=hset.1
 have HF7:Hid (FrB B w (w6.setCell ⟨b,k*4+2,none⟩ (.slice (some ⟨ge,0,none⟩) (E.length - 1) ce)) v1 v2 v3 ev v1 v2 v3 (ev.set k (.slice (some ⟨ge,0,none⟩) (E.length - 1) ce))):=(FrB.kept HKw5.out).trans hset.2
 clear r6 k6 hgeb hlen hset HC5 hnc hcell hfrz
 go_upto_region 5 with fail
 obtain ⟨W7,hW7⟩:∃ W7,w6.setCell ⟨b,k*4+2,none⟩ (.slice (some ⟨ge,0,none⟩) (E.length - 1) ce)=W7:=⟨_,rfl⟩
 rw [hW7] at HC7 HF7 ⊢
 clear hW7 c6 f6
 go_wp2_with fail
 refine (p_drop HC7.out num (by simpa using HCl.out.2.2) (adj_setE hk _ HCl.out.1) (by rw [at_setE];exact HCl.out.2.1)).mono ?_
 rintro e w8 ⟨rfl,u1,eu,hcb,hfr⟩
 have HE:Hid (∃ u1 eu,Cb w0 w8 B c pk u1 v2 v3 eu (sweepS (setE S k hk ((S.ino[k]).ents.eraseIdx i)) ((S.ino[k]).ents[i]).2)∧FrB B w w8 v1 v2 v3 ev u1 v2 v3 eu):=⟨u1,eu,by rw [HNum.out,HEE.out];exact hcb,HF7.out.trans hfr⟩
 clear hcb hfr
 go_wp2_with fail
 go_end0
 exact ⟨rfl,HE.out⟩
end Go.Proofs.YtffncojcnbhblaaGreatDoor
