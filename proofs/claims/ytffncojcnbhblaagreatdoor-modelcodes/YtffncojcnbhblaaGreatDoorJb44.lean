/-
  Joined of my texts Cz Laid.
-/
import Derived.Test.YtffncojcnbhblaaGreatDoorJb43
import Derived.Test.YtffncojcnbhblaaGreatDoorJb2
import Derived.ProofKit
import Derived.LaidMore
import Derived.OpenShut
import Derived.Lay
import Derived.Stop.Joined
import Derived.Test.YtffncojcnbhblaaGreatDoorTk
set_option linter.unusedVariables false
set_option linter.unusedSimpArgs false
set_option maxRecDepth 100000
set_option maxHeartbeats 8000000
namespace Go.Proofs.YtffncojcnbhblaaGreatDoor
open List renaming setIfInBounds_toArray → lz0, set_cons_zero → lz1, set_cons_succ → lz2, getElem_toArray → lz3, getElem_cons_zero → lz4, getElem_cons_succ → lz5
open Go.RowKit
def kV:Nat→Int
 | 0=>0
 | 1=>1
 | 2=>2
 | 3=>8
 | 4=>9
 | 5=>10
 | 6=>11
 | 7=>12
 | 8=>13
 | _=>14
def pV:Nat→ByteArray
 | 0=>⟨#[]⟩
 | 1=>⟨#[97]⟩
 | 2=>⟨#[47,97,47,47,98]⟩
 | 3=>⟨#[47,97,98,99,100,101,102,103,104,105,106,107,108,109]⟩
 | 4=>⟨#[47,97,47,98,47,99,47,100,47,101]⟩
 | 5=>⟨#[47,46,46]⟩
 | 6=>⟨#[47,102,47]⟩
 | _=>⟨#[47,1]⟩
def wV:Nat→Int
 | 0=>9
 | 1=>9
 | 2=>9
 | 3=>6
 | 4=>6
 | 5=>9
 | 6=>9
 | _=>9
def bV:Nat→Int
 | 0=>3
 | 1=>4
 | 2=>5
 | 3=>6
 | 4=>7
 | _=>15
theorem dz1a:((List.range 10).all fun i=>(List.range 8).all fun k=>(playR (mS1 7) ⟨kV i,0,0,0,0,pV k,⟨#[47,110]⟩,⟨#[]⟩⟩ headI).2.code == wV k)=true:=by kernel_rfl
theorem dz1 {i k:Nat} (hi:i < 10) (hk:k < 8):(playR (mS1 7) ⟨kV i,0,0,0,0,pV k,⟨#[47,110]⟩,⟨#[]⟩⟩ headI).2.code=wV k:=by
 have h:=List.all_eq_true.1 dz1a i (List.mem_range.2 hi)
 have h2:=List.all_eq_true.1 h k (List.mem_range.2 hk)
 exact eq_of_beq h2
theorem dz2a:((List.range 8).all fun k=>(playR (mS1 7) ⟨8,0,0,0,0,⟨#[47,102]⟩,pV k,⟨#[]⟩⟩ headI).2.code == wV k)=true:=by kernel_rfl
theorem dz2 {k:Nat} (hk:k < 8):(playR (mS1 7) ⟨8,0,0,0,0,⟨#[47,102]⟩,pV k,⟨#[]⟩⟩ headI).2.code=wV k:=by
 have h2:=List.all_eq_true.1 dz2a k (List.mem_range.2 hk)
 exact eq_of_beq h2
theorem dz3a:((List.range 6).all fun j=>(List.range 11).all fun t=>((playR (mS1 7) ⟨bV j,0,((t:Int) - 5),0,0,⟨#[]⟩,⟨#[]⟩,⟨#[]⟩⟩ headI).2.code == 4) == (((t:Int) - 5) != 0))=true:=by kernel_rfl
theorem dz3 {j:Nat} {fv:Int} (hj:j < 6) (h0:-5≤fv) (h5:fv≤5):((playR (mS1 7) ⟨bV j,0,fv,0,0,⟨#[]⟩,⟨#[]⟩,⟨#[]⟩⟩ headI).2.code == 4)=(fv != 0):=by
 obtain ⟨t,ht,rfl⟩:∃ t:Nat,t < 11∧fv=(t:Int) - 5:=⟨(fv+5).toNat,by omega,by omega⟩
 have h:=List.all_eq_true.1 dz3a j (List.mem_range.2 hj)
 exact eq_of_beq (List.all_eq_true.1 h t (List.mem_range.2 ht))
theorem dz4a:((List.range 4).all fun t=>(playR (mS1 7) ⟨17+(t:Int),0,0,0,0,⟨#[]⟩,⟨#[]⟩,⟨#[]⟩⟩ headI).2.code == 9)=true:=by kernel_rfl
theorem dz4 {q:Int} (h0:0≤q) (h3:q≤3):(playR (mS1 7) ⟨17+q,0,0,0,0,⟨#[]⟩,⟨#[]⟩,⟨#[]⟩⟩ headI).2.code=9:=by
 obtain ⟨t,ht,rfl⟩:∃ t:Nat,t < 4∧q=(t:Int):=⟨q.toNat,by omega,by omega⟩
 exact eq_of_beq (List.all_eq_true.1 dz4a t (List.mem_range.2 ht))
theorem dz5:(playR (mS1 7) ⟨16,1,0,0,0,⟨#[]⟩,⟨#[]⟩,⟨#[]⟩⟩ headI).2.code=9:=by kernel_rfl
theorem at8s {w:World} {b k:Nat} (h:w.heap[b]?=some (.cells #[.string ⟨#[]⟩,.string ⟨#[97]⟩,.string ⟨#[47,97,47,47,98]⟩,.string ⟨#[47,97,98,99,100,101,102,103,104,105,106,107,108,109]⟩,.string ⟨#[47,97,47,98,47,99,47,100,47,101]⟩,.string ⟨#[47,46,46]⟩,.string ⟨#[47,102,47]⟩,.string ⟨#[47,1]⟩] 9 (0,0))) (hk:k < 8):w.cell? ⟨b,k,none⟩=some (.string (pV k)):=by
 rcases (show k=0∨k=1∨k=2∨k=3∨k=4∨k=5∨k=6∨k=7 by omega) with rfl | rfl | rfl | rfl | rfl | rfl | rfl | rfl <;> exact cellB h
theorem at8w {w:World} {b k:Nat} (h:w.heap[b]?=some (.cells #[.int .i64 9,.int .i64 9,.int .i64 9,.int .i64 6,.int .i64 6,.int .i64 9,.int .i64 9,.int .i64 9] 3 (0,0))) (hk:k < 8):w.cell? ⟨b,k,none⟩=some (.int .i64 (wV k)):=by
 rcases (show k=0∨k=1∨k=2∨k=3∨k=4∨k=5∨k=6∨k=7 by omega) with rfl | rfl | rfl | rfl | rfl | rfl | rfl | rfl <;> exact cellB h
theorem at10 {w:World} {b k:Nat} (h:w.heap[b]?=some (.cells #[.int .i64 0,.int .i64 1,.int .i64 2,.int .i64 8,.int .i64 9,.int .i64 10,.int .i64 11,.int .i64 12,.int .i64 13,.int .i64 14] 3 (0,0))) (hk:k < 10):w.cell? ⟨b,k,none⟩=some (.int .i64 (kV k)):=by
 rcases (show k=0∨k=1∨k=2∨k=3∨k=4∨k=5∨k=6∨k=7∨k=8∨k=9 by omega) with rfl | rfl | rfl | rfl | rfl | rfl | rfl | rfl | rfl | rfl <;> exact cellB h
theorem at6 {w:World} {b k:Nat} (h:w.heap[b]?=some (.cells #[.int .i64 3,.int .i64 4,.int .i64 5,.int .i64 6,.int .i64 7,.int .i64 15] 3 (0,0))) (hk:k < 6):w.cell? ⟨b,k,none⟩=some (.int .i64 (bV k)):=by
 rcases (show k=0∨k=1∨k=2∨k=3∨k=4∨k=5 by omega) with rfl | rfl | rfl | rfl | rfl | rfl <;> exact cellB h
theorem czk6 {w w':World} {b0 o0 b1 o1 b2 o2 b3 o3 b4 o4 b5 o5:Nat} {v0 v1 v2 v3 v4 v5:Value} (h:w.cell? ⟨b0,o0,none⟩=some v0∧w.cell? ⟨b1,o1,none⟩=some v1∧w.cell? ⟨b2,o2,none⟩=some v2∧w.cell? ⟨b3,o3,none⟩=some v3∧w.cell? ⟨b4,o4,none⟩=some v4∧w.cell? ⟨b5,o5,none⟩=some v5) (k:Kept [] w w'):w'.cell? ⟨b0,o0,none⟩=some v0∧w'.cell? ⟨b1,o1,none⟩=some v1∧w'.cell? ⟨b2,o2,none⟩=some v2∧w'.cell? ⟨b3,o3,none⟩=some v3∧w'.cell? ⟨b4,o4,none⟩=some v4∧w'.cell? ⟨b5,o5,none⟩=some v5:=
 ⟨k.cell (h.1) (by simp),k.cell (h.2.1) (by simp),k.cell (h.2.2.1) (by simp),k.cell (h.2.2.2.1) (by simp),k.cell (h.2.2.2.2.1) (by simp),k.cell (h.2.2.2.2.2) (by simp)⟩
theorem czk5 {w w':World} {b0 o0 b1 o1 b2 o2 b3 o3 b4 o4:Nat} {v0 v1 v2 v3 v4:Value} (h:w.cell? ⟨b0,o0,none⟩=some v0∧w.cell? ⟨b1,o1,none⟩=some v1∧w.cell? ⟨b2,o2,none⟩=some v2∧w.cell? ⟨b3,o3,none⟩=some v3∧w.cell? ⟨b4,o4,none⟩=some v4) (k:Kept [] w w'):w'.cell? ⟨b0,o0,none⟩=some v0∧w'.cell? ⟨b1,o1,none⟩=some v1∧w'.cell? ⟨b2,o2,none⟩=some v2∧w'.cell? ⟨b3,o3,none⟩=some v3∧w'.cell? ⟨b4,o4,none⟩=some v4:=
 ⟨k.cell (h.1) (by simp),k.cell (h.2.1) (by simp),k.cell (h.2.2.1) (by simp),k.cell (h.2.2.2.1) (by simp),k.cell (h.2.2.2.2) (by simp)⟩
theorem czk4 {w w':World} {b0 o0 b1 o1 b2 o2 b3 o3:Nat} {v0 v1 v2 v3:Value} (h:w.cell? ⟨b0,o0,none⟩=some v0∧w.cell? ⟨b1,o1,none⟩=some v1∧w.cell? ⟨b2,o2,none⟩=some v2∧w.cell? ⟨b3,o3,none⟩=some v3) (k:Kept [] w w'):w'.cell? ⟨b0,o0,none⟩=some v0∧w'.cell? ⟨b1,o1,none⟩=some v1∧w'.cell? ⟨b2,o2,none⟩=some v2∧w'.cell? ⟨b3,o3,none⟩=some v3:=
 ⟨k.cell (h.1) (by simp),k.cell (h.2.1) (by simp),k.cell (h.2.2.1) (by simp),k.cell (h.2.2.2) (by simp)⟩
theorem codes_w {w:World} (hT0:Tab w) {x y z:Int} {i k j:Nat} {fv q:Int} (hi:i < 10) (hk:k < 8) (hj:j < 6) (hf0:-5≤fv) (hf5:fv≤5) (hq0:0≤q) (hq3:q≤3) (hy:wrap64 ((IntKind.u64.wrap y).tmod 8)=(k:Int)) (hxi:(IntKind.u64.wrap x).tmod 10=(i:Int)) (hxj:(IntKind.u64.wrap x).tmod 6=(j:Int)) (hz:z.tmod 6=fv) (hxq:bits .and .i64 x 3=q) :
  Calls Tryz.prog 5 #[.int .i64 x,.int .i64 y,.int .i64 z] w fun e w'=>e=.returned (.bool true)∧Kept [] w w':=by
 have HY:Hid ((i < 10∧k < 8∧j < 6∧-5≤fv∧fv≤5∧0≤q∧q≤3)∧wrap64 ((IntKind.u64.wrap y).tmod 8)=(k:Int)∧(IntKind.u64.wrap x).tmod 10=(i:Int)∧(IntKind.u64.wrap x).tmod 6=(j:Int)∧z.tmod 6=fv∧bits .and .i64 x 3=q):=⟨⟨hi,hk,hj,hf0,hf5,hq0,hq3⟩,hy,hxi,hxj,hz,hxq⟩
 clear hi hk hj hf0 hf5 hq0 hq3 hy hxi hxj hz hxq
 have hT:Hid (Tab w):=hT0
 clear hT0
 go_enter Tryz.func5,Tryz.ntmps5
 go_wp2_with fail
 refine (awake_k hT.out).mono ?_
 rintro e U1 ⟨rfl,kk1⟩
 have HK_2:Hid (Kept [] w U1):=kk1
 clear kk1
 go_wp2_with fail
 refine (l_made1).mono ?_
 rintro e U3 ⟨a3,b3,d3,eu3,rfl,ho3,kk3⟩
 obtain ⟨p3,m3,q3,n3,r3,t3,rfl,rfl,rfl⟩:=formsL ho3 5 1 1 rfl rfl rfl
 have HOs_3:Hid (_):=ho3.less HK_2.out.size
 have HK_4:Hid (_):=kt HK_2.out kk3
 clear HK_2
 clear ho3 kk3
 obtain ⟨V5,X5,HX5,HXk5,HXb5⟩:=boxR U3 #[.slice p3 5 m3,.slice q3 1 n3,.slice r3 1 t3] 27
 go_upto_region 4 with fail
 rw [HX5.out.1,HX5.out.2]
 have HOs_6:Hid (_):=HOs_3.out.kept HXk5.out
 have HK_6:Hid (_):=kt HK_4.out HXk5.out
 clear HOs_3 HK_4
 clear HX5 HXk5
 obtain ⟨V7,X7,HX7,HXk7,HXb7⟩:=boxR V5 #[.string ⟨#[]⟩,.string ⟨#[97]⟩,.string ⟨#[47,97,47,47,98]⟩,.string ⟨#[47,97,98,99,100,101,102,103,104,105,106,107,108,109]⟩,.string ⟨#[47,97,47,98,47,99,47,100,47,101]⟩,.string ⟨#[47,46,46]⟩,.string ⟨#[47,102,47]⟩,.string ⟨#[47,1]⟩] 9
 go_upto_region 5 with fail
 rw [HX7.out.1,HX7.out.2]
 have HBX5_8:Hid (_):=kb HXk7.out HXb5.out
 have HOs_8:Hid (_):=HOs_6.out.kept HXk7.out
 have HK_8:Hid (_):=kt HK_6.out HXk7.out
 clear HXb5 HOs_6 HK_6
 clear HX7 HXk7
 obtain ⟨V9,X9,HX9,HXk9,HXb9⟩:=boxR V7 #[.int .i64 9,.int .i64 9,.int .i64 9,.int .i64 6,.int .i64 6,.int .i64 9,.int .i64 9,.int .i64 9] 3
 go_upto_region 6 with fail
 rw [HX9.out.1,HX9.out.2]
 have HBX5_10:Hid (_):=kb HXk9.out HBX5_8.out
 have HBX7_10:Hid (_):=kb HXk9.out HXb7.out
 have HOs_10:Hid (_):=HOs_8.out.kept HXk9.out
 have HK_10:Hid (_):=kt HK_8.out HXk9.out
 clear HBX5_8 HXb7 HOs_8 HK_8
 clear HX9 HXk9
 obtain ⟨V11,X11,HX11,HXk11,HXb11⟩:=boxR V9 #[.int .i64 0,.int .i64 1,.int .i64 2,.int .i64 8,.int .i64 9,.int .i64 10,.int .i64 11,.int .i64 12,.int .i64 13,.int .i64 14] 3
 go_upto_region 7 with fail
 rw [HX11.out.1,HX11.out.2]
 have HBX5_12:Hid (_):=kb HXk11.out HBX5_10.out
 have HBX7_12:Hid (_):=kb HXk11.out HBX7_10.out
 have HBX9_12:Hid (_):=kb HXk11.out HXb9.out
 have HOs_12:Hid (_):=HOs_10.out.kept HXk11.out
 have HK_12:Hid (_):=kt HK_10.out HXk11.out
 clear HBX5_10 HBX7_10 HXb9 HOs_10 HK_10
 clear HX11 HXk11
 go_upto_region 8 with fail
 rw [HY.out.2.1]
 have HC1:Hid (∀ W,Kept [] V11 W→Calls Tryz.prog 12 #[.agg #[.slice p3 5 m3,.slice q3 1 n3,.slice r3 1 t3],.agg #[.int .i64 (kV i),.int .i64 (0),.int .i64 (0),.int .i64 (0),.int .i64 (0),.string (pV k),.string (⟨#[47,110]⟩),.string (⟨#[]⟩)]] W fun e w'=>e=.returned (.int .i64 (wV k))∧Kept [] W w'):=fun W kW=>by
  have h9:=l_code (HOs_12.out.kept kW) md1_7 ((hT.out.kept HK_12.out).kept kW) ⟨kV i,0,0,0,0,pV k,⟨#[47,110]⟩,⟨#[]⟩⟩ (Nat.zero_le _) rfl
  rw [dz1 HY.out.1.1 HY.out.1.2.1] at h9
  exact h9
 have HS8:Hid (V11.cell? ⟨X5,0,none⟩=some (.slice p3 5 m3)∧V11.cell? ⟨X5,1,none⟩=some (.slice q3 1 n3)∧V11.cell? ⟨X5,2,none⟩=some (.slice r3 1 t3)∧V11.cell? ⟨X11,i,none⟩=some (.int .i64 (kV i))∧V11.cell? ⟨X7,k,none⟩=some (.string (pV k))∧V11.cell? ⟨X9,k,none⟩=some (.int .i64 (wV k))):=⟨cellB HBX5_12.out,cellB HBX5_12.out,cellB HBX5_12.out,at10 HXb11.out HY.out.1.1,at8s HBX7_12.out HY.out.1.2.1,at8w HBX9_12.out HY.out.1.2.1⟩
 have k0:(0:Int)≤(k:Int):=by omega
 have k1:(k:Int) < 8:=by have:=HY.out.1.2.1;omega
 have i0:(0:Int)≤(i:Int):=by omega
 have i1:(i:Int) < 10:=by have:=HY.out.1.1;omega
 have j0:(0:Int)≤(j:Int):=by omega
 have j1:(j:Int) < 6:=by have:=HY.out.1.2.2.1;omega
 have hxi:=HY.out.2.2.1
 have hxj:=HY.out.2.2.2.1
 refine wp_region_held_drew (S:=fun w'=>w'.cell? ⟨X5,0,none⟩=some (.slice p3 5 m3)∧w'.cell? ⟨X5,1,none⟩=some (.slice q3 1 n3)∧w'.cell? ⟨X5,2,none⟩=some (.slice r3 1 t3)∧w'.cell? ⟨X11,i,none⟩=some (.int .i64 (kV i))∧w'.cell? ⟨X7,k,none⟩=some (.string (pV k))∧w'.cell? ⟨X9,k,none⟩=some (.int .i64 (wV k))) (by kernel_rfl) ?_ (fun hHeld=>?_)
 · exact HS8.out
 obtain ⟨ua,hua⟩:∃ ua,V11.drew=ua:=⟨_,rfl⟩
 have HUa:Hid (Kept [] V11 ua):=by rw [← hua];exact (Kept.refl [] V11).drew
 rw [hua] at hHeld ⊢
 clear hua
 refine tkA 0 rfl ?_
 refine tkA 1 rfl ?_
 refine tkA 2 rfl ?_
 refine tkA 3 rfl ?_
 refine tkA 4 rfl ?_
 refine tkA 5 rfl ?_
 refine tkA 6 rfl ?_
 refine tkA 7 rfl ?_
 refine tkA 8 rfl ?_
 refine tkA 9 rfl ?_
 refine tkA 10 rfl ?_
 refine tkA 11 rfl ?_
 refine tkA 13 rfl ?_
 refine tkA 14 rfl ?_
 refine tkA 15 rfl ?_
 refine tkA 16 rfl ?_
 refine wpAnyH_ready (rs:=[12]) (by kernel_rfl) (by simp) ?_
 refine AllReadyH.cons rfl (fun K hK=>?_) AllReadyH.nil
 go_simp
 refine (HC1.out _ HUa.out).mono ?_
 rintro e U80 ⟨rfl,k80⟩
 have HK80:Hid (_):=HUa.out.trans k80 (by simp)
 have HS80:Hid (_):=czk6 hHeld k80
 clear k80
 go_wp2_with fail
 refine hK.out _ _ ?_ (fun hHeld=>?_)
 · exact HS80.out
 clear hK K
 try simp only [Act.put,lz0,lz1,lz2,lz3,lz4,lz5]
 refine tkA 17 rfl ?_
 refine wpAnyH_done (by kernel_rfl) ?_ _
 have HBX5_13:Hid (_):=kb HK80.out HBX5_12.out
 have HBX7_13:Hid (_):=kb HK80.out HBX7_12.out
 have HBX9_13:Hid (_):=kb HK80.out HBX9_12.out
 have HBX11_13:Hid (_):=kb HK80.out HXb11.out
 have HOs_13:Hid (_):=HOs_12.out.kept HK80.out
 have HK_13:Hid (_):=kt HK_12.out HK80.out
 clear HBX5_12 HBX7_12 HBX9_12 HXb11 HOs_12 HK_12
 clear HK80 HS80 HS8 HC1 HUa
 have e8:((wV k) != (wV k))=false:=by simp
 go_upto_region 10 with fail
 have HC2:Hid (∀ W,Kept [] U80 W→Calls Tryz.prog 12 #[.agg #[.slice p3 5 m3,.slice q3 1 n3,.slice r3 1 t3],.agg #[.int .i64 (8),.int .i64 (0),.int .i64 (0),.int .i64 (0),.int .i64 (0),.string (⟨#[47,102]⟩),.string (pV k),.string (⟨#[]⟩)]] W fun e w'=>e=.returned (.int .i64 (wV k))∧Kept [] W w'):=fun W kW=>by
  have h9:=l_code (HOs_13.out.kept kW) md1_7 ((hT.out.kept HK_13.out).kept kW) ⟨8,0,0,0,0,⟨#[47,102]⟩,pV k,⟨#[]⟩⟩ (Nat.zero_le _) rfl
  rw [dz2 HY.out.1.2.1] at h9
  exact h9
 have HS10:Hid (U80.cell? ⟨X5,0,none⟩=some (.slice p3 5 m3)∧U80.cell? ⟨X5,1,none⟩=some (.slice q3 1 n3)∧U80.cell? ⟨X5,2,none⟩=some (.slice r3 1 t3)∧U80.cell? ⟨X7,k,none⟩=some (.string (pV k))∧U80.cell? ⟨X9,k,none⟩=some (.int .i64 (wV k))):=⟨cellB HBX5_13.out,cellB HBX5_13.out,cellB HBX5_13.out,at8s HBX7_13.out HY.out.1.2.1,at8w HBX9_13.out HY.out.1.2.1⟩
 refine wp_region_held_drew (S:=fun w'=>w'.cell? ⟨X5,0,none⟩=some (.slice p3 5 m3)∧w'.cell? ⟨X5,1,none⟩=some (.slice q3 1 n3)∧w'.cell? ⟨X5,2,none⟩=some (.slice r3 1 t3)∧w'.cell? ⟨X7,k,none⟩=some (.string (pV k))∧w'.cell? ⟨X9,k,none⟩=some (.int .i64 (wV k))) (by kernel_rfl) ?_ (fun hHeld=>?_)
 · exact HS10.out
 obtain ⟨ub,hub⟩:∃ ub,U80.drew=ub:=⟨_,rfl⟩
 have HUb:Hid (Kept [] U80 ub):=by rw [← hub];exact (Kept.refl [] U80).drew
 rw [hub] at hHeld ⊢
 clear hub
 refine tkA 0 rfl ?_
 refine tkA 1 rfl ?_
 refine tkA 2 rfl ?_
 refine tkA 3 rfl ?_
 refine tkA 4 rfl ?_
 refine tkA 5 rfl ?_
 refine tkA 7 rfl ?_
 refine tkA 8 rfl ?_
 refine tkA 9 rfl ?_
 refine tkA 10 rfl ?_
 refine wpAnyH_ready (rs:=[6]) (by kernel_rfl) (by simp) ?_
 refine AllReadyH.cons rfl (fun K hK=>?_) AllReadyH.nil
 go_simp
 refine (HC2.out _ HUb.out).mono ?_
 rintro e U90 ⟨rfl,k90⟩
 have HK90:Hid (_):=HUb.out.trans k90 (by simp)
 have HS90:Hid (_):=czk5 hHeld k90
 clear k90
 go_wp2_with fail
 refine hK.out _ _ ?_ (fun hHeld=>?_)
 · exact HS90.out
 clear hK K
 try simp only [Act.put,lz0,lz1,lz2,lz3,lz4,lz5]
 refine tkA 11 rfl ?_
 refine wpAnyH_done (by kernel_rfl) ?_ _
 have HBX5_14:Hid (_):=kb HK90.out HBX5_13.out
 have HBX7_14:Hid (_):=kb HK90.out HBX7_13.out
 have HBX9_14:Hid (_):=kb HK90.out HBX9_13.out
 have HBX11_14:Hid (_):=kb HK90.out HBX11_13.out
 have HOs_14:Hid (_):=HOs_13.out.kept HK90.out
 have HK_14:Hid (_):=kt HK_13.out HK90.out
 clear HBX5_13 HBX7_13 HBX9_13 HBX11_13 HOs_13 HK_13
 clear HK90 HS90 HS10 HC2 HUb
 obtain ⟨V15,X15,HX15,HXk15,HXb15⟩:=boxR U90 #[.int .i64 3,.int .i64 4,.int .i64 5,.int .i64 6,.int .i64 7,.int .i64 15] 3
 go_upto_region 13 with fail
 rw [HX15.out.1,HX15.out.2]
 have HBX5_16:Hid (_):=kb HXk15.out HBX5_14.out
 have HBX7_16:Hid (_):=kb HXk15.out HBX7_14.out
 have HBX9_16:Hid (_):=kb HXk15.out HBX9_14.out
 have HBX11_16:Hid (_):=kb HXk15.out HBX11_14.out
 have HOs_16:Hid (_):=HOs_14.out.kept HXk15.out
 have HK_16:Hid (_):=kt HK_14.out HXk15.out
 clear HBX5_14 HBX7_14 HBX9_14 HBX11_14 HOs_14 HK_14
 clear HX15 HXk15
 go_upto_region 14 with fail
 rw [HY.out.2.2.2.2.1]
 obtain ⟨cb,hcb⟩:∃ cb,(playR (mS1 7) ⟨bV j,0,fv,0,0,⟨#[]⟩,⟨#[]⟩,⟨#[]⟩⟩ headI).2.code=cb:=⟨_,rfl⟩
 have e3:=dz3 (fv:=fv) HY.out.1.2.2.1 HY.out.1.2.2.2.1 HY.out.1.2.2.2.2.1
 rw [hcb] at e3
 have HE3:Hid (_):=e3
 clear e3
 have HC3:Hid (∀ W,Kept [] V15 W→Calls Tryz.prog 12 #[.agg #[.slice p3 5 m3,.slice q3 1 n3,.slice r3 1 t3],.agg #[.int .i64 (bV j),.int .i64 (0),.int .i64 (fv),.int .i64 (0),.int .i64 (0),.string (⟨#[]⟩),.string (⟨#[]⟩),.string (⟨#[]⟩)]] W fun e w'=>e=.returned (.int .i64 cb)∧Kept [] W w'):=fun W kW=>by
  have h9:=l_code (HOs_16.out.kept kW) md1_7 ((hT.out.kept HK_16.out).kept kW) ⟨bV j,0,fv,0,0,⟨#[]⟩,⟨#[]⟩,⟨#[]⟩⟩ (Nat.zero_le _) rfl
  rw [hcb] at h9
  exact h9
 clear hcb
 have HS14:Hid (V15.cell? ⟨X5,0,none⟩=some (.slice p3 5 m3)∧V15.cell? ⟨X5,1,none⟩=some (.slice q3 1 n3)∧V15.cell? ⟨X5,2,none⟩=some (.slice r3 1 t3)∧V15.cell? ⟨X15,j,none⟩=some (.int .i64 (bV j))):=⟨cellB HBX5_16.out,cellB HBX5_16.out,cellB HBX5_16.out,at6 HXb15.out HY.out.1.2.2.1⟩
 refine wp_region_held_drew (S:=fun w'=>w'.cell? ⟨X5,0,none⟩=some (.slice p3 5 m3)∧w'.cell? ⟨X5,1,none⟩=some (.slice q3 1 n3)∧w'.cell? ⟨X5,2,none⟩=some (.slice r3 1 t3)∧w'.cell? ⟨X15,j,none⟩=some (.int .i64 (bV j))) (by kernel_rfl) ?_ (fun hHeld=>?_)
 · exact HS14.out
 obtain ⟨uc,huc⟩:∃ uc,V15.drew=uc:=⟨_,rfl⟩
 have HUc:Hid (Kept [] V15 uc):=by rw [← huc];exact (Kept.refl [] V15).drew
 rw [huc] at hHeld ⊢
 clear huc
 refine tkA 0 rfl ?_
 refine tkA 1 rfl ?_
 refine tkA 2 rfl ?_
 refine tkA 3 rfl ?_
 refine tkA 4 rfl ?_
 refine tkA 5 rfl ?_
 refine tkA 6 rfl ?_
 refine tkA 7 rfl ?_
 refine tkA 8 rfl ?_
 refine wpAnyH_ready (rs:=[9]) (by kernel_rfl) (by simp) ?_
 refine AllReadyH.cons rfl (fun K hK=>?_) AllReadyH.nil
 go_simp
 refine (HC3.out _ HUc.out).mono ?_
 rintro e U100 ⟨rfl,k100⟩
 have HK100:Hid (_):=HUc.out.trans k100 (by simp)
 have HS100:Hid (_):=czk4 hHeld k100
 clear k100
 go_wp2_with fail
 refine hK.out _ _ ?_ (fun hHeld=>?_)
 · exact HS100.out
 clear hK K
 try simp only [Act.put,lz0,lz1,lz2,lz3,lz4,lz5]
 refine tkA 10 rfl ?_
 refine wpAnyH_done (by kernel_rfl) ?_ _
 have HBX5_17:Hid (_):=kb HK100.out HBX5_16.out
 have HBX7_17:Hid (_):=kb HK100.out HBX7_16.out
 have HBX9_17:Hid (_):=kb HK100.out HBX9_16.out
 have HBX11_17:Hid (_):=kb HK100.out HBX11_16.out
 have HBX15_17:Hid (_):=kb HK100.out HXb15.out
 have HOs_17:Hid (_):=HOs_16.out.kept HK100.out
 have HK_17:Hid (_):=kt HK_16.out HK100.out
 clear HBX5_16 HBX7_16 HBX9_16 HBX11_16 HXb15 HOs_16 HK_16
 clear HK100 HS100 HS14 HC3 HUc
 have HC4:Hid (∀ W,Kept [] U100 W→Calls Tryz.prog 12 #[.agg #[.slice p3 5 m3,.slice q3 1 n3,.slice r3 1 t3],.agg #[.int .i64 (17+q),.int .i64 (0),.int .i64 (0),.int .i64 (0),.int .i64 (0),.string (⟨#[]⟩),.string (⟨#[]⟩),.string (⟨#[]⟩)]] W fun e w'=>e=.returned (.int .i64 9)∧Kept [] W w'):=fun W kW=>by
  have h9:=l_code (HOs_17.out.kept kW) md1_7 ((hT.out.kept HK_17.out).kept kW) ⟨17+q,0,0,0,0,⟨#[]⟩,⟨#[]⟩,⟨#[]⟩⟩ (Nat.zero_le _) rfl
  rw [dz4 HY.out.1.2.2.2.2.2.1 HY.out.1.2.2.2.2.2.2] at h9
  exact h9
 have HC5:Hid (∀ W,Kept [] U100 W→Calls Tryz.prog 12 #[.agg #[.slice p3 5 m3,.slice q3 1 n3,.slice r3 1 t3],.agg #[.int .i64 (16),.int .i64 (1),.int .i64 (0),.int .i64 (0),.int .i64 (0),.string (⟨#[]⟩),.string (⟨#[]⟩),.string (⟨#[]⟩)]] W fun e w'=>e=.returned (.int .i64 9)∧Kept [] W w'):=fun W kW=>by
  have h9:=l_code (HOs_17.out.kept kW) md1_7 ((hT.out.kept HK_17.out).kept kW) ⟨16,1,0,0,0,⟨#[]⟩,⟨#[]⟩,⟨#[]⟩⟩ (Nat.zero_le _) rfl
  rw [dz5] at h9
  exact h9
 obtain ⟨cX5_0,cX5_1,cX5_2,-⟩:=zs3 HBX5_17.out
 have q0:=HY.out.1.2.2.2.2.2.1
 have q3:=HY.out.1.2.2.2.2.2.2
 have hxq:=HY.out.2.2.2.2.2
 have HL:Hid (∀ {b1 b2:Bool},True):=fun {_ _}=>trivial
 clear HL
 by_cases hfv:fv=0
 ·
  skip
  have b1:(fv != 0)=false:=by simp [hfv]
  have b2:(cb == 4)=false:=by rw [HE3.out];exact b1
  clear hfv
  go_wp2_with fail
  refine (HC4.out _ (Kept.refl _ _)).mono ?_
  rintro e U110 ⟨rfl,k110⟩
  have HK110:Hid (_):=k110
  have y0:=k110.cell cX5_0 (by simp)
  have y1:=k110.cell cX5_1 (by simp)
  have y2:=k110.cell cX5_2 (by simp)
  clear k110
  go_wp2_with fail
  refine (HC5.out _ HK110.out).mono ?_
  rintro e U111 ⟨rfl,k111⟩
  have HK111:Hid (_):=kt (kt HK_17.out HK110.out) k111
  clear k111
  go_wp2_with fail
  go_ret
  exact ⟨rfl,HK111.out⟩
 ·
  skip
  have b1:(fv != 0)=true:=by simp [hfv]
  have b2:(cb == 4)=true:=by rw [HE3.out];exact b1
  clear hfv
  go_wp2_with fail
  refine (HC4.out _ (Kept.refl _ _)).mono ?_
  rintro e U110 ⟨rfl,k110⟩
  have HK110:Hid (_):=k110
  have y0:=k110.cell cX5_0 (by simp)
  have y1:=k110.cell cX5_1 (by simp)
  have y2:=k110.cell cX5_2 (by simp)
  clear k110
  go_wp2_with fail
  refine (HC5.out _ HK110.out).mono ?_
  rintro e U111 ⟨rfl,k111⟩
  have HK111:Hid (_):=kt (kt HK_17.out HK110.out) k111
  clear k111
  go_wp2_with fail
  go_ret
  exact ⟨rfl,HK111.out⟩
theorem umod (x m:Int) (hm:0 < m):∃ k:Nat,(k:Int) < m∧(IntKind.u64.wrap x).tmod m=(k:Int):=by
 have h0:0≤IntKind.u64.wrap x:=by simp only [IntKind.wrap,IntKind.signed,IntKind.bits];simp;omega
 have h1:=Int.tmod_nonneg m h0
 have h2:=Int.tmod_lt_of_pos (IntKind.u64.wrap x) hm
 exact ⟨((IntKind.u64.wrap x).tmod m).toNat,by omega,by omega⟩
theorem and3_in (n:Int):0≤bits .and .i64 n 3∧bits .and .i64 n 3≤3:=by
 have h1:(BitVec.ofInt 64 3).toNat=2 ^ 2 - 1:=by decide
 have key:(BitVec.ofInt 64 n &&& BitVec.ofInt 64 3).toNat=(n % ((2 ^ 64:Nat):Int)).toNat % 2 ^ 2:=by
  rw [BitVec.toNat_and,BitVec.toNat_ofInt,h1,Nat.and_two_pow_sub_one_eq_mod]
 have e:bits .and .i64 n 3=IntKind.i64.wrap ((BitVec.ofInt 64 n &&& BitVec.ofInt 64 3).toNat:Nat):=rfl
 rw [e,key,IntKind.wrap_i64]
 omega
theorem codes_any {w:World} (hT:Tab w) (x y z:Int):Calls Tryz.prog 5 #[.int .i64 x,.int .i64 y,.int .i64 z] w fun e w'=>e=.returned (.bool true)∧Kept [] w w':=by
 obtain ⟨i,hi,ei⟩:=umod x 10 (by omega)
 obtain ⟨j,hj,ej⟩:=umod x 6 (by omega)
 obtain ⟨k,hk,ek⟩:=mod_lt y 8 (by omega) (by omega)
 have h1:=Int.tmod_lt_of_pos z (show (0:Int) < 6 by omega)
 have h2:=Int.lt_tmod_of_pos z (show (0:Int) < 6 by omega)
 have h3:=and3_in x
 exact codes_w hT (by omega) (by omega) (by omega) (by omega) (by omega) h3.1 h3.2 ek ei ej rfl rfl
end Go.Proofs.YtffncojcnbhblaaGreatDoor
namespace Go.Proofs.YtffncojcnbhblaaGreatDoor
open List renaming setIfInBounds_toArray → lz0, set_cons_zero → lz1, set_cons_succ → lz2, getElem_toArray → lz3, getElem_cons_zero → lz4, getElem_cons_succ → lz5
open Go.ChangeShapes Go.WideShapes Go.ChangeAt Go.WideMaps Go.WideElems Go.RowKit Go.Lib
def laid2 : List (String × DataW Unit) := [("unicode/utf8.acceptRanges", Rows.laid_unicode_utf8_acceptRanges), ("unicode/utf8.first", Rows.laid_unicode_utf8_first)]
theorem own:ownKnob Tryz.prog.godebug=none:=by kernel_rfl
theorem gFirst : Tryz.prog.globalNamed "unicode/utf8.first" = some 0 := by kernel_rfl
theorem tFirst:(Tryz.prog.globals[0]?).map (·.type)=some 180:=by kernel_rfl
theorem gAcc : Tryz.prog.globalNamed "unicode/utf8.acceptRanges" = some 1 := by kernel_rfl
theorem tAcc:(Tryz.prog.globals[1]?).map (·.type)=some 183:=by kernel_rfl
theorem first_listed:Rows.laid_unicode_utf8_first=.agg ((List.range 256).map fun i=>.lit (.int .u8 (firstT i))):=by kernel_rfl
theorem acc_listed:(Rows.laid_unicode_utf8_acceptRanges:DataW Unit)=.agg ((List.range 16).map fun i=>.agg [.lit (.int .u8 (accLo i)),.lit (.int .u8 (accHi i))]):=by kernel_rfl
theorem met_laid (os:Go.Os) (args:Array Value):laidMetH Tryz.prog laid2 ((World.laidAll Tryz.prog os laid2).forCall (fun _ _=>0) ⟨#[],args,[]⟩).memory:=by
 rw [MakeChecks.laidMetH_plain _ _ _ (by kernel_rfl)]
 exact laidMet_laidAll _ (by kernel_rfl) (by kernel_rfl)
theorem head_of_take {cs:List Value} {i:Nat} {v:Value} (h:(cs.drop i).take 1=[v]):cs[i]?=some v:=by
 have:=congrArg List.head? h
 simpa [List.head?_take] using this
theorem of_laid {W:World} (h:laidMetH Tryz.prog laid2 W):Tab W:=by
 rw [MakeChecks.laidMetH_plain _ _ _ (by kernel_rfl)] at h
 obtain ⟨ps,⟨g0,t0,cs0,f0,p0,q0,hg0,ht0,hv0,hd0,⟨g1,t1,cs1,f1,p1,q1,hg1,ht1,hv1,hd1,_,_⟩,_⟩,_,_⟩:=h
 obtain rfl:=Option.some.inj (gAcc.symm.trans hg0)
 obtain rfl:=Option.some.inj (tAcc.symm.trans ht0)
 obtain rfl:=Option.some.inj (gFirst.symm.trans hg1)
 obtain rfl:=Option.some.inj (tFirst.symm.trans ht1)
 have c5:Tryz.prog.cellsOf 5=1:=by kernel_rfl
 have c43:Tryz.prog.cellsOf 182=2:=by kernel_rfl
 refine ⟨fun i hi=>?_,fun i hi=>?_⟩
 ·
  obtain ⟨xs,m1,rfl,hx1,hlen,hn3,hel⟩:=DataW.trod_array Tryz.underlying180 hd1
  have hc:=World.var?_cell hg1 hv1 i
  have h0:=hel i (by omega)
  have hix:i < xs.length:=by omega
  rw [List.getElem?_eq_getElem hix] at h0
  obtain ⟨k,e1,e2,_⟩:=DataW.trod_int Tryz.underlying5 h0
  rw [c5,Nat.mul_one] at e1
  have hcs:=head_of_take e1
  have hL:=congrArg (fun x=>x.1) hx1
  simp only [first_listed,DataW.agg.injEq] at hL
  have hLi:=congrArg (fun l=>l[i]?) hL
  simp only [List.getElem?_map,List.getElem?_range hi,Option.map_some,List.getElem?_eq_getElem hix,e2] at hLi
  have hk:(firstT i:Int)=k:=by simpa using hLi
  rw [hc,← Array.getElem?_toList,hcs,hk]
 ·
  obtain ⟨xs,m1,rfl,hx1,hlen,hn3,hel⟩:=DataW.trod_array Tryz.underlying183 hd0
  have hca:=World.var?_cell hg0 hv0 (2*i)
  have hcb:=World.var?_cell hg0 hv0 (2*i+1)
  have h0:=hel i (by omega)
  have hix:i < xs.length:=by omega
  rw [List.getElem?_eq_getElem hix,c43] at h0
  obtain ⟨y0,y1,n,e0,_,d0,d1⟩:=trod_struct2 Tryz.underlying182 h0
  simp only [c5,List.drop_zero] at d0 d1
  obtain ⟨k0,e1,e2,_⟩:=DataW.trod_int Tryz.underlying5 d0
  obtain ⟨k1,e3,e4,_⟩:=DataW.trod_int Tryz.underlying5 d1
  have hL:=congrArg (fun x=>x.1) hx1
  simp only [acc_listed,DataW.agg.injEq] at hL
  have hLi:=congrArg (fun l=>l[i]?) hL
  simp only [List.getElem?_map,List.getElem?_range hi,Option.map_some,List.getElem?_eq_getElem hix,e0,e2,e4] at hLi
  have hk:(accLo i:Int)=k0∧(accHi i:Int)=k1:=by simpa using hLi
  have ea:cs0.toList[2*i]?=some (.int .u8 k0):=by
   have:=congrArg (fun l=>l[0]?) e1
   simp only [List.getElem?_take,List.getElem?_drop] at this
   simpa [Nat.mul_comm] using this
  have eb:cs0.toList[2*i+1]?=some (.int .u8 k1):=by
   have:=congrArg (fun l=>l[0]?) e3
   simp only [List.getElem?_take,List.getElem?_drop] at this
   simpa [Nat.mul_comm] using this
  exact ⟨by rw [hca,← Array.getElem?_toList,ea,hk.1],by rw [hcb,← Array.getElem?_toList,eb,hk.2]⟩
end Go.Proofs.YtffncojcnbhblaaGreatDoor
