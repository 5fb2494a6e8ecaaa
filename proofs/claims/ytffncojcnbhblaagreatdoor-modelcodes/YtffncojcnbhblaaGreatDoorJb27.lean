/-
  Joined of my texts Do.
-/
import Derived.Test.YtffncojcnbhblaaGreatDoorJb26
import Derived.Test.YtffncojcnbhblaaGreatDoorTk
set_option linter.unusedVariables false
set_option linter.unusedSimpArgs false
set_option maxRecDepth 100000
set_option maxHeartbeats 8000000
namespace Go.Proofs.YtffncojcnbhblaaGreatDoor
open Go.RowKit
theorem do_create {w0 w:World} {B:Nat} {c:Cal} {pk v1 v2 v3:Value} {ev:List Value} {S:Sta} (h:Cb w0 w B c pk v1 v2 v3 ev S) (hk:c.kind=0) {r:Except Int (Sta × Ans)}
  (hdo:∀ W,Cb w0 W B c pk v1 v2 v3 ev S→Calls Tryz.prog 103 #[.pointer (some ⟨B,0,none⟩),.bool false] W (Out w0 W B c pk v1 v2 v3 ev S r)) :
  Calls Tryz.prog 68 #[.pointer (some ⟨B,0,none⟩)] w (Out w0 w B c pk v1 v2 v3 ev S r):=by
 obtain ⟨W1,R,HWR,HKR,HRb⟩:=boxR w #[.int .i64 0,.int .i64 0,.int .i64 0,.bool false,.string ⟨#[]⟩,.slice none 0 0] 31
 have HC1:Hid (Cb w0 W1 B c pk v1 v2 v3 ev S):=h.kept HKR.out
 have HRo:Hid (Off [R] v1 v2 v3 ev∧R≠B):=h.new (Nat.le_of_eq HWR.out.2)
 have HRw:Hid (w.heap.size≤R):=Nat.le_of_eq HWR.out.2
 have HRl:Hid (w0.heap.size≤R):=by have:=h.k.size;rw [← HWR.out.2];exact this
 have d0:W1.cell? ⟨B,0,none⟩=some (.int .i64 0):=by rw [← hk];exact cellB HC1.out.box
 have HDo:Hid (_):=hdo
 clear h hk hdo
 go_enter Tryz.func68,Tryz.ntmps68
 go_upto_region 1 with fail
 rw [HWR.out.1,HWR.out.2]
 clear HWR
 go_wp2_with fail
 refine (HDo.out W1 HC1.out).mono ?_
 rintro e w6 hout
 rcases r with code | ⟨S',v⟩
 ·
  obtain ⟨rfl,u1,u2,u3,eu,hcb,hfr⟩:=hout
  exact ⟨rfl,rfl,u1,u2,u3,eu,hcb,(FrB.kept HKR.out).trans hfr⟩
 ·
  obtain ⟨x,l,k,u1,u2,u3,eu,rfl,hsr,hof,hcb,hfr⟩:=hout
  obtain ⟨a,b,n,d,t,ns⟩:=v
  have h6:=hfr.2 R (lt_of_heap HRb.out) HRo.out.2 HRo.out.1
  have hb6:w6.heap[R]?=_:=h6.1.trans HRb.out
  have HE:Hid (Out w0 w B c pk v1 v2 v3 ev S (.ok (S',⟨a,b,n,d,t,ns⟩)) (.returned (.agg #[.int .i64 a,.int .i64 b,.int .i64 n,.bool d,.string t,.slice x l k])) (laidR w6 R (.int .i64 a) (.int .i64 b) (.int .i64 n) (.bool d) (.string t) (.slice x l k))):=Oks.laid HKR.out HRl.out HRw.out (lt_of_heap HRb.out) HRo.out hsr hof hcb hfr _ _ _ _ _ _
  have HB6:Hid (_):=hb6
  obtain ⟨g0,g1,g2,g3,g4,g5⟩:=cz6 hb6
  obtain ⟨z0,z1,z2,z3,z4,z5⟩:=fz6 hb6
  clear hcb hfr h6 HC1 HRb hb6 d0 hsr hof
  dsimp only [ansV]
  go_wp2_with fail
  (try simp only [Exit.inBlock,Exit.then])
  refine bodyPost_ret (results_cell_row rfl _ _ R 31 #[.int .i64 a,.int .i64 b,.int .i64 n,.bool d,.string t,.slice x l k] (0,0) _ rfl (block_res HB6.out _ _ _ _ _ _) Tryz.underlying31 rfl (by kernel_rfl)) rfl ?_
  exact HE.out
theorem do_mkdir {w0 w:World} {B:Nat} {c:Cal} {pk v1 v2 v3:Value} {ev:List Value} {S:Sta} (h:Cb w0 w B c pk v1 v2 v3 ev S) (hk:c.kind=1) {r:Except Int (Sta × Ans)}
  (hdo:∀ W,Cb w0 W B c pk v1 v2 v3 ev S→Calls Tryz.prog 103 #[.pointer (some ⟨B,0,none⟩),.bool true] W (Out w0 W B c pk v1 v2 v3 ev S r)) :
  Calls Tryz.prog 68 #[.pointer (some ⟨B,0,none⟩)] w (Out w0 w B c pk v1 v2 v3 ev S r):=by
 obtain ⟨W1,R,HWR,HKR,HRb⟩:=boxR w #[.int .i64 0,.int .i64 0,.int .i64 0,.bool false,.string ⟨#[]⟩,.slice none 0 0] 31
 have HC1:Hid (Cb w0 W1 B c pk v1 v2 v3 ev S):=h.kept HKR.out
 have HRo:Hid (Off [R] v1 v2 v3 ev∧R≠B):=h.new (Nat.le_of_eq HWR.out.2)
 have HRw:Hid (w.heap.size≤R):=Nat.le_of_eq HWR.out.2
 have HRl:Hid (w0.heap.size≤R):=by have:=h.k.size;rw [← HWR.out.2];exact this
 have d0:W1.cell? ⟨B,0,none⟩=some (.int .i64 1):=by rw [← hk];exact cellB HC1.out.box
 have HDo:Hid (_):=hdo
 clear h hk hdo
 go_enter Tryz.func68,Tryz.ntmps68
 go_upto_region 1 with fail
 rw [HWR.out.1,HWR.out.2]
 clear HWR
 go_wp2_with fail
 refine (HDo.out W1 HC1.out).mono ?_
 rintro e w6 hout
 rcases r with code | ⟨S',v⟩
 ·
  obtain ⟨rfl,u1,u2,u3,eu,hcb,hfr⟩:=hout
  exact ⟨rfl,rfl,u1,u2,u3,eu,hcb,(FrB.kept HKR.out).trans hfr⟩
 ·
  obtain ⟨x,l,k,u1,u2,u3,eu,rfl,hsr,hof,hcb,hfr⟩:=hout
  obtain ⟨a,b,n,d,t,ns⟩:=v
  have h6:=hfr.2 R (lt_of_heap HRb.out) HRo.out.2 HRo.out.1
  have hb6:w6.heap[R]?=_:=h6.1.trans HRb.out
  have HE:Hid (Out w0 w B c pk v1 v2 v3 ev S (.ok (S',⟨a,b,n,d,t,ns⟩)) (.returned (.agg #[.int .i64 a,.int .i64 b,.int .i64 n,.bool d,.string t,.slice x l k])) (laidR w6 R (.int .i64 a) (.int .i64 b) (.int .i64 n) (.bool d) (.string t) (.slice x l k))):=Oks.laid HKR.out HRl.out HRw.out (lt_of_heap HRb.out) HRo.out hsr hof hcb hfr _ _ _ _ _ _
  have HB6:Hid (_):=hb6
  obtain ⟨g0,g1,g2,g3,g4,g5⟩:=cz6 hb6
  obtain ⟨z0,z1,z2,z3,z4,z5⟩:=fz6 hb6
  clear hcb hfr h6 HC1 HRb hb6 d0 hsr hof
  dsimp only [ansV]
  go_wp2_with fail
  (try simp only [Exit.inBlock,Exit.then])
  refine bodyPost_ret (results_cell_row rfl _ _ R 31 #[.int .i64 a,.int .i64 b,.int .i64 n,.bool d,.string t,.slice x l k] (0,0) _ rfl (block_res HB6.out _ _ _ _ _ _) Tryz.underlying31 rfl (by kernel_rfl)) rfl ?_
  exact HE.out
theorem do_open {w0 w:World} {B:Nat} {c:Cal} {pk v1 v2 v3:Value} {ev:List Value} {S:Sta} (h:Cb w0 w B c pk v1 v2 v3 ev S) (hk:c.kind=2) {r:Except Int (Sta × Ans)}
  (hdo:∀ W,Cb w0 W B c pk v1 v2 v3 ev S→Calls Tryz.prog 104 #[.pointer (some ⟨B,0,none⟩)] W (Out w0 W B c pk v1 v2 v3 ev S r)) :
  Calls Tryz.prog 68 #[.pointer (some ⟨B,0,none⟩)] w (Out w0 w B c pk v1 v2 v3 ev S r):=by
 obtain ⟨W1,R,HWR,HKR,HRb⟩:=boxR w #[.int .i64 0,.int .i64 0,.int .i64 0,.bool false,.string ⟨#[]⟩,.slice none 0 0] 31
 have HC1:Hid (Cb w0 W1 B c pk v1 v2 v3 ev S):=h.kept HKR.out
 have HRo:Hid (Off [R] v1 v2 v3 ev∧R≠B):=h.new (Nat.le_of_eq HWR.out.2)
 have HRw:Hid (w.heap.size≤R):=Nat.le_of_eq HWR.out.2
 have HRl:Hid (w0.heap.size≤R):=by have:=h.k.size;rw [← HWR.out.2];exact this
 have d0:W1.cell? ⟨B,0,none⟩=some (.int .i64 2):=by rw [← hk];exact cellB HC1.out.box
 have HDo:Hid (_):=hdo
 clear h hk hdo
 go_enter Tryz.func68,Tryz.ntmps68
 go_upto_region 1 with fail
 rw [HWR.out.1,HWR.out.2]
 clear HWR
 go_wp2_with fail
 refine (HDo.out W1 HC1.out).mono ?_
 rintro e w6 hout
 rcases r with code | ⟨S',v⟩
 ·
  obtain ⟨rfl,u1,u2,u3,eu,hcb,hfr⟩:=hout
  exact ⟨rfl,rfl,u1,u2,u3,eu,hcb,(FrB.kept HKR.out).trans hfr⟩
 ·
  obtain ⟨x,l,k,u1,u2,u3,eu,rfl,hsr,hof,hcb,hfr⟩:=hout
  obtain ⟨a,b,n,d,t,ns⟩:=v
  have h6:=hfr.2 R (lt_of_heap HRb.out) HRo.out.2 HRo.out.1
  have hb6:w6.heap[R]?=_:=h6.1.trans HRb.out
  have HE:Hid (Out w0 w B c pk v1 v2 v3 ev S (.ok (S',⟨a,b,n,d,t,ns⟩)) (.returned (.agg #[.int .i64 a,.int .i64 b,.int .i64 n,.bool d,.string t,.slice x l k])) (laidR w6 R (.int .i64 a) (.int .i64 b) (.int .i64 n) (.bool d) (.string t) (.slice x l k))):=Oks.laid HKR.out HRl.out HRw.out (lt_of_heap HRb.out) HRo.out hsr hof hcb hfr _ _ _ _ _ _
  have HB6:Hid (_):=hb6
  obtain ⟨g0,g1,g2,g3,g4,g5⟩:=cz6 hb6
  obtain ⟨z0,z1,z2,z3,z4,z5⟩:=fz6 hb6
  clear hcb hfr h6 HC1 HRb hb6 d0 hsr hof
  dsimp only [ansV]
  go_wp2_with fail
  (try simp only [Exit.inBlock,Exit.then])
  refine bodyPost_ret (results_cell_row rfl _ _ R 31 #[.int .i64 a,.int .i64 b,.int .i64 n,.bool d,.string t,.slice x l k] (0,0) _ rfl (block_res HB6.out _ _ _ _ _ _) Tryz.underlying31 rfl (by kernel_rfl)) rfl ?_
  exact HE.out
theorem do_close {w0 w:World} {B:Nat} {c:Cal} {pk v1 v2 v3:Value} {ev:List Value} {S:Sta} (h:Cb w0 w B c pk v1 v2 v3 ev S) (hk:c.kind=3) {r:Except Int (Sta × Ans)}
  (hdo:∀ W,Cb w0 W B c pk v1 v2 v3 ev S→Calls Tryz.prog 105 #[.pointer (some ⟨B,0,none⟩)] W (Out w0 W B c pk v1 v2 v3 ev S r)) :
  Calls Tryz.prog 68 #[.pointer (some ⟨B,0,none⟩)] w (Out w0 w B c pk v1 v2 v3 ev S r):=by
 obtain ⟨W1,R,HWR,HKR,HRb⟩:=boxR w #[.int .i64 0,.int .i64 0,.int .i64 0,.bool false,.string ⟨#[]⟩,.slice none 0 0] 31
 have HC1:Hid (Cb w0 W1 B c pk v1 v2 v3 ev S):=h.kept HKR.out
 have HRo:Hid (Off [R] v1 v2 v3 ev∧R≠B):=h.new (Nat.le_of_eq HWR.out.2)
 have HRw:Hid (w.heap.size≤R):=Nat.le_of_eq HWR.out.2
 have HRl:Hid (w0.heap.size≤R):=by have:=h.k.size;rw [← HWR.out.2];exact this
 have d0:W1.cell? ⟨B,0,none⟩=some (.int .i64 3):=by rw [← hk];exact cellB HC1.out.box
 have HDo:Hid (_):=hdo
 clear h hk hdo
 go_enter Tryz.func68,Tryz.ntmps68
 go_upto_region 1 with fail
 rw [HWR.out.1,HWR.out.2]
 clear HWR
 go_wp2_with fail
 refine (HDo.out W1 HC1.out).mono ?_
 rintro e w6 hout
 rcases r with code | ⟨S',v⟩
 ·
  obtain ⟨rfl,u1,u2,u3,eu,hcb,hfr⟩:=hout
  exact ⟨rfl,rfl,u1,u2,u3,eu,hcb,(FrB.kept HKR.out).trans hfr⟩
 ·
  obtain ⟨x,l,k,u1,u2,u3,eu,rfl,hsr,hof,hcb,hfr⟩:=hout
  obtain ⟨a,b,n,d,t,ns⟩:=v
  have h6:=hfr.2 R (lt_of_heap HRb.out) HRo.out.2 HRo.out.1
  have hb6:w6.heap[R]?=_:=h6.1.trans HRb.out
  have HE:Hid (Out w0 w B c pk v1 v2 v3 ev S (.ok (S',⟨a,b,n,d,t,ns⟩)) (.returned (.agg #[.int .i64 a,.int .i64 b,.int .i64 n,.bool d,.string t,.slice x l k])) (laidR w6 R (.int .i64 a) (.int .i64 b) (.int .i64 n) (.bool d) (.string t) (.slice x l k))):=Oks.laid HKR.out HRl.out HRw.out (lt_of_heap HRb.out) HRo.out hsr hof hcb hfr _ _ _ _ _ _
  have HB6:Hid (_):=hb6
  obtain ⟨g0,g1,g2,g3,g4,g5⟩:=cz6 hb6
  obtain ⟨z0,z1,z2,z3,z4,z5⟩:=fz6 hb6
  clear hcb hfr h6 HC1 HRb hb6 d0 hsr hof
  dsimp only [ansV]
  go_wp2_with fail
  (try simp only [Exit.inBlock,Exit.then])
  refine bodyPost_ret (results_cell_row rfl _ _ R 31 #[.int .i64 a,.int .i64 b,.int .i64 n,.bool d,.string t,.slice x l k] (0,0) _ rfl (block_res HB6.out _ _ _ _ _ _) Tryz.underlying31 rfl (by kernel_rfl)) rfl ?_
  exact HE.out
theorem do_read {w0 w:World} {B:Nat} {c:Cal} {pk v1 v2 v3:Value} {ev:List Value} {S:Sta} (h:Cb w0 w B c pk v1 v2 v3 ev S) (hk:c.kind=4) {r:Except Int (Sta × Ans)}
  (hdo:∀ W,Cb w0 W B c pk v1 v2 v3 ev S→Calls Tryz.prog 106 #[.pointer (some ⟨B,0,none⟩)] W (Out w0 W B c pk v1 v2 v3 ev S r)) :
  Calls Tryz.prog 68 #[.pointer (some ⟨B,0,none⟩)] w (Out w0 w B c pk v1 v2 v3 ev S r):=by
 obtain ⟨W1,R,HWR,HKR,HRb⟩:=boxR w #[.int .i64 0,.int .i64 0,.int .i64 0,.bool false,.string ⟨#[]⟩,.slice none 0 0] 31
 have HC1:Hid (Cb w0 W1 B c pk v1 v2 v3 ev S):=h.kept HKR.out
 have HRo:Hid (Off [R] v1 v2 v3 ev∧R≠B):=h.new (Nat.le_of_eq HWR.out.2)
 have HRw:Hid (w.heap.size≤R):=Nat.le_of_eq HWR.out.2
 have HRl:Hid (w0.heap.size≤R):=by have:=h.k.size;rw [← HWR.out.2];exact this
 have d0:W1.cell? ⟨B,0,none⟩=some (.int .i64 4):=by rw [← hk];exact cellB HC1.out.box
 have HDo:Hid (_):=hdo
 clear h hk hdo
 go_enter Tryz.func68,Tryz.ntmps68
 go_upto_region 1 with fail
 rw [HWR.out.1,HWR.out.2]
 clear HWR
 go_wp2_with fail
 refine (HDo.out W1 HC1.out).mono ?_
 rintro e w6 hout
 rcases r with code | ⟨S',v⟩
 ·
  obtain ⟨rfl,u1,u2,u3,eu,hcb,hfr⟩:=hout
  exact ⟨rfl,rfl,u1,u2,u3,eu,hcb,(FrB.kept HKR.out).trans hfr⟩
 ·
  obtain ⟨x,l,k,u1,u2,u3,eu,rfl,hsr,hof,hcb,hfr⟩:=hout
  obtain ⟨a,b,n,d,t,ns⟩:=v
  have h6:=hfr.2 R (lt_of_heap HRb.out) HRo.out.2 HRo.out.1
  have hb6:w6.heap[R]?=_:=h6.1.trans HRb.out
  have HE:Hid (Out w0 w B c pk v1 v2 v3 ev S (.ok (S',⟨a,b,n,d,t,ns⟩)) (.returned (.agg #[.int .i64 a,.int .i64 b,.int .i64 n,.bool d,.string t,.slice x l k])) (laidR w6 R (.int .i64 a) (.int .i64 b) (.int .i64 n) (.bool d) (.string t) (.slice x l k))):=Oks.laid HKR.out HRl.out HRw.out (lt_of_heap HRb.out) HRo.out hsr hof hcb hfr _ _ _ _ _ _
  have HB6:Hid (_):=hb6
  obtain ⟨g0,g1,g2,g3,g4,g5⟩:=cz6 hb6
  obtain ⟨z0,z1,z2,z3,z4,z5⟩:=fz6 hb6
  clear hcb hfr h6 HC1 HRb hb6 d0 hsr hof
  dsimp only [ansV]
  go_wp2_with fail
  (try simp only [Exit.inBlock,Exit.then])
  refine bodyPost_ret (results_cell_row rfl _ _ R 31 #[.int .i64 a,.int .i64 b,.int .i64 n,.bool d,.string t,.slice x l k] (0,0) _ rfl (block_res HB6.out _ _ _ _ _ _) Tryz.underlying31 rfl (by kernel_rfl)) rfl ?_
  exact HE.out
theorem do_write {w0 w:World} {B:Nat} {c:Cal} {pk v1 v2 v3:Value} {ev:List Value} {S:Sta} (h:Cb w0 w B c pk v1 v2 v3 ev S) (hk:c.kind=5) {r:Except Int (Sta × Ans)}
  (hdo:∀ W,Cb w0 W B c pk v1 v2 v3 ev S→Calls Tryz.prog 107 #[.pointer (some ⟨B,0,none⟩)] W (Out w0 W B c pk v1 v2 v3 ev S r)) :
  Calls Tryz.prog 68 #[.pointer (some ⟨B,0,none⟩)] w (Out w0 w B c pk v1 v2 v3 ev S r):=by
 obtain ⟨W1,R,HWR,HKR,HRb⟩:=boxR w #[.int .i64 0,.int .i64 0,.int .i64 0,.bool false,.string ⟨#[]⟩,.slice none 0 0] 31
 have HC1:Hid (Cb w0 W1 B c pk v1 v2 v3 ev S):=h.kept HKR.out
 have HRo:Hid (Off [R] v1 v2 v3 ev∧R≠B):=h.new (Nat.le_of_eq HWR.out.2)
 have HRw:Hid (w.heap.size≤R):=Nat.le_of_eq HWR.out.2
 have HRl:Hid (w0.heap.size≤R):=by have:=h.k.size;rw [← HWR.out.2];exact this
 have d0:W1.cell? ⟨B,0,none⟩=some (.int .i64 5):=by rw [← hk];exact cellB HC1.out.box
 have HDo:Hid (_):=hdo
 clear h hk hdo
 go_enter Tryz.func68,Tryz.ntmps68
 go_upto_region 1 with fail
 rw [HWR.out.1,HWR.out.2]
 clear HWR
 go_wp2_with fail
 refine (HDo.out W1 HC1.out).mono ?_
 rintro e w6 hout
 rcases r with code | ⟨S',v⟩
 ·
  obtain ⟨rfl,u1,u2,u3,eu,hcb,hfr⟩:=hout
  exact ⟨rfl,rfl,u1,u2,u3,eu,hcb,(FrB.kept HKR.out).trans hfr⟩
 ·
  obtain ⟨x,l,k,u1,u2,u3,eu,rfl,hsr,hof,hcb,hfr⟩:=hout
  obtain ⟨a,b,n,d,t,ns⟩:=v
  have h6:=hfr.2 R (lt_of_heap HRb.out) HRo.out.2 HRo.out.1
  have hb6:w6.heap[R]?=_:=h6.1.trans HRb.out
  have HE:Hid (Out w0 w B c pk v1 v2 v3 ev S (.ok (S',⟨a,b,n,d,t,ns⟩)) (.returned (.agg #[.int .i64 a,.int .i64 b,.int .i64 n,.bool d,.string t,.slice x l k])) (laidR w6 R (.int .i64 a) (.int .i64 b) (.int .i64 n) (.bool d) (.string t) (.slice x l k))):=Oks.laid HKR.out HRl.out HRw.out (lt_of_heap HRb.out) HRo.out hsr hof hcb hfr _ _ _ _ _ _
  have HB6:Hid (_):=hb6
  obtain ⟨g0,g1,g2,g3,g4,g5⟩:=cz6 hb6
  obtain ⟨z0,z1,z2,z3,z4,z5⟩:=fz6 hb6
  clear hcb hfr h6 HC1 HRb hb6 d0 hsr hof
  dsimp only [ansV]
  go_wp2_with fail
  (try simp only [Exit.inBlock,Exit.then])
  refine bodyPost_ret (results_cell_row rfl _ _ R 31 #[.int .i64 a,.int .i64 b,.int .i64 n,.bool d,.string t,.slice x l k] (0,0) _ rfl (block_res HB6.out _ _ _ _ _ _) Tryz.underlying31 rfl (by kernel_rfl)) rfl ?_
  exact HE.out
theorem do_truncate {w0 w:World} {B:Nat} {c:Cal} {pk v1 v2 v3:Value} {ev:List Value} {S:Sta} (h:Cb w0 w B c pk v1 v2 v3 ev S) (hk:c.kind=6) {r:Except Int (Sta × Ans)}
  (hdo:∀ W,Cb w0 W B c pk v1 v2 v3 ev S→Calls Tryz.prog 108 #[.pointer (some ⟨B,0,none⟩)] W (Out w0 W B c pk v1 v2 v3 ev S r)) :
  Calls Tryz.prog 68 #[.pointer (some ⟨B,0,none⟩)] w (Out w0 w B c pk v1 v2 v3 ev S r):=by
 obtain ⟨W1,R,HWR,HKR,HRb⟩:=boxR w #[.int .i64 0,.int .i64 0,.int .i64 0,.bool false,.string ⟨#[]⟩,.slice none 0 0] 31
 have HC1:Hid (Cb w0 W1 B c pk v1 v2 v3 ev S):=h.kept HKR.out
 have HRo:Hid (Off [R] v1 v2 v3 ev∧R≠B):=h.new (Nat.le_of_eq HWR.out.2)
 have HRw:Hid (w.heap.size≤R):=Nat.le_of_eq HWR.out.2
 have HRl:Hid (w0.heap.size≤R):=by have:=h.k.size;rw [← HWR.out.2];exact this
 have d0:W1.cell? ⟨B,0,none⟩=some (.int .i64 6):=by rw [← hk];exact cellB HC1.out.box
 have HDo:Hid (_):=hdo
 clear h hk hdo
 go_enter Tryz.func68,Tryz.ntmps68
 go_upto_region 1 with fail
 rw [HWR.out.1,HWR.out.2]
 clear HWR
 go_wp2_with fail
 refine (HDo.out W1 HC1.out).mono ?_
 rintro e w6 hout
 rcases r with code | ⟨S',v⟩
 ·
  obtain ⟨rfl,u1,u2,u3,eu,hcb,hfr⟩:=hout
  exact ⟨rfl,rfl,u1,u2,u3,eu,hcb,(FrB.kept HKR.out).trans hfr⟩
 ·
  obtain ⟨x,l,k,u1,u2,u3,eu,rfl,hsr,hof,hcb,hfr⟩:=hout
  obtain ⟨a,b,n,d,t,ns⟩:=v
  have h6:=hfr.2 R (lt_of_heap HRb.out) HRo.out.2 HRo.out.1
  have hb6:w6.heap[R]?=_:=h6.1.trans HRb.out
  have HE:Hid (Out w0 w B c pk v1 v2 v3 ev S (.ok (S',⟨a,b,n,d,t,ns⟩)) (.returned (.agg #[.int .i64 a,.int .i64 b,.int .i64 n,.bool d,.string t,.slice x l k])) (laidR w6 R (.int .i64 a) (.int .i64 b) (.int .i64 n) (.bool d) (.string t) (.slice x l k))):=Oks.laid HKR.out HRl.out HRw.out (lt_of_heap HRb.out) HRo.out hsr hof hcb hfr _ _ _ _ _ _
  have HB6:Hid (_):=hb6
  obtain ⟨g0,g1,g2,g3,g4,g5⟩:=cz6 hb6
  obtain ⟨z0,z1,z2,z3,z4,z5⟩:=fz6 hb6
  clear hcb hfr h6 HC1 HRb hb6 d0 hsr hof
  dsimp only [ansV]
  go_wp2_with fail
  (try simp only [Exit.inBlock,Exit.then])
  refine bodyPost_ret (results_cell_row rfl _ _ R 31 #[.int .i64 a,.int .i64 b,.int .i64 n,.bool d,.string t,.slice x l k] (0,0) _ rfl (block_res HB6.out _ _ _ _ _ _) Tryz.underlying31 rfl (by kernel_rfl)) rfl ?_
  exact HE.out
theorem do_size {w0 w:World} {B:Nat} {c:Cal} {pk v1 v2 v3:Value} {ev:List Value} {S:Sta} (h:Cb w0 w B c pk v1 v2 v3 ev S) (hk:c.kind=7) {r:Except Int (Sta × Ans)}
  (hdo:∀ W,Cb w0 W B c pk v1 v2 v3 ev S→Calls Tryz.prog 109 #[.pointer (some ⟨B,0,none⟩)] W (Out w0 W B c pk v1 v2 v3 ev S r)) :
  Calls Tryz.prog 68 #[.pointer (some ⟨B,0,none⟩)] w (Out w0 w B c pk v1 v2 v3 ev S r):=by
 obtain ⟨W1,R,HWR,HKR,HRb⟩:=boxR w #[.int .i64 0,.int .i64 0,.int .i64 0,.bool false,.string ⟨#[]⟩,.slice none 0 0] 31
 have HC1:Hid (Cb w0 W1 B c pk v1 v2 v3 ev S):=h.kept HKR.out
 have HRo:Hid (Off [R] v1 v2 v3 ev∧R≠B):=h.new (Nat.le_of_eq HWR.out.2)
 have HRw:Hid (w.heap.size≤R):=Nat.le_of_eq HWR.out.2
 have HRl:Hid (w0.heap.size≤R):=by have:=h.k.size;rw [← HWR.out.2];exact this
 have d0:W1.cell? ⟨B,0,none⟩=some (.int .i64 7):=by rw [← hk];exact cellB HC1.out.box
 have HDo:Hid (_):=hdo
 clear h hk hdo
 go_enter Tryz.func68,Tryz.ntmps68
 go_upto_region 1 with fail
 rw [HWR.out.1,HWR.out.2]
 clear HWR
 go_wp2_with fail
 refine (HDo.out W1 HC1.out).mono ?_
 rintro e w6 hout
 rcases r with code | ⟨S',v⟩
 ·
  obtain ⟨rfl,u1,u2,u3,eu,hcb,hfr⟩:=hout
  exact ⟨rfl,rfl,u1,u2,u3,eu,hcb,(FrB.kept HKR.out).trans hfr⟩
 ·
  obtain ⟨x,l,k,u1,u2,u3,eu,rfl,hsr,hof,hcb,hfr⟩:=hout
  obtain ⟨a,b,n,d,t,ns⟩:=v
  have h6:=hfr.2 R (lt_of_heap HRb.out) HRo.out.2 HRo.out.1
  have hb6:w6.heap[R]?=_:=h6.1.trans HRb.out
  have HE:Hid (Out w0 w B c pk v1 v2 v3 ev S (.ok (S',⟨a,b,n,d,t,ns⟩)) (.returned (.agg #[.int .i64 a,.int .i64 b,.int .i64 n,.bool d,.string t,.slice x l k])) (laidR w6 R (.int .i64 a) (.int .i64 b) (.int .i64 n) (.bool d) (.string t) (.slice x l k))):=Oks.laid HKR.out HRl.out HRw.out (lt_of_heap HRb.out) HRo.out hsr hof hcb hfr _ _ _ _ _ _
  have HB6:Hid (_):=hb6
  obtain ⟨g0,g1,g2,g3,g4,g5⟩:=cz6 hb6
  obtain ⟨z0,z1,z2,z3,z4,z5⟩:=fz6 hb6
  clear hcb hfr h6 HC1 HRb hb6 d0 hsr hof
  dsimp only [ansV]
  go_wp2_with fail
  (try simp only [Exit.inBlock,Exit.then])
  refine bodyPost_ret (results_cell_row rfl _ _ R 31 #[.int .i64 a,.int .i64 b,.int .i64 n,.bool d,.string t,.slice x l k] (0,0) _ rfl (block_res HB6.out _ _ _ _ _ _) Tryz.underlying31 rfl (by kernel_rfl)) rfl ?_
  exact HE.out
theorem do_link {w0 w:World} {B:Nat} {c:Cal} {pk v1 v2 v3:Value} {ev:List Value} {S:Sta} (h:Cb w0 w B c pk v1 v2 v3 ev S) (hk:c.kind=8) {r:Except Int (Sta × Ans)}
  (hdo:∀ W,Cb w0 W B c pk v1 v2 v3 ev S→Calls Tryz.prog 110 #[.pointer (some ⟨B,0,none⟩)] W (Out w0 W B c pk v1 v2 v3 ev S r)) :
  Calls Tryz.prog 68 #[.pointer (some ⟨B,0,none⟩)] w (Out w0 w B c pk v1 v2 v3 ev S r):=by
 obtain ⟨W1,R,HWR,HKR,HRb⟩:=boxR w #[.int .i64 0,.int .i64 0,.int .i64 0,.bool false,.string ⟨#[]⟩,.slice none 0 0] 31
 have HC1:Hid (Cb w0 W1 B c pk v1 v2 v3 ev S):=h.kept HKR.out
 have HRo:Hid (Off [R] v1 v2 v3 ev∧R≠B):=h.new (Nat.le_of_eq HWR.out.2)
 have HRw:Hid (w.heap.size≤R):=Nat.le_of_eq HWR.out.2
 have HRl:Hid (w0.heap.size≤R):=by have:=h.k.size;rw [← HWR.out.2];exact this
 have d0:W1.cell? ⟨B,0,none⟩=some (.int .i64 8):=by rw [← hk];exact cellB HC1.out.box
 have HDo:Hid (_):=hdo
 clear h hk hdo
 go_enter Tryz.func68,Tryz.ntmps68
 go_upto_region 1 with fail
 rw [HWR.out.1,HWR.out.2]
 clear HWR
 go_wp2_with fail
 refine (HDo.out W1 HC1.out).mono ?_
 rintro e w6 hout
 rcases r with code | ⟨S',v⟩
 ·
  obtain ⟨rfl,u1,u2,u3,eu,hcb,hfr⟩:=hout
  exact ⟨rfl,rfl,u1,u2,u3,eu,hcb,(FrB.kept HKR.out).trans hfr⟩
 ·
  obtain ⟨x,l,k,u1,u2,u3,eu,rfl,hsr,hof,hcb,hfr⟩:=hout
  obtain ⟨a,b,n,d,t,ns⟩:=v
  have h6:=hfr.2 R (lt_of_heap HRb.out) HRo.out.2 HRo.out.1
  have hb6:w6.heap[R]?=_:=h6.1.trans HRb.out
  have HE:Hid (Out w0 w B c pk v1 v2 v3 ev S (.ok (S',⟨a,b,n,d,t,ns⟩)) (.returned (.agg #[.int .i64 a,.int .i64 b,.int .i64 n,.bool d,.string t,.slice x l k])) (laidR w6 R (.int .i64 a) (.int .i64 b) (.int .i64 n) (.bool d) (.string t) (.slice x l k))):=Oks.laid HKR.out HRl.out HRw.out (lt_of_heap HRb.out) HRo.out hsr hof hcb hfr _ _ _ _ _ _
  have HB6:Hid (_):=hb6
  obtain ⟨g0,g1,g2,g3,g4,g5⟩:=cz6 hb6
  obtain ⟨z0,z1,z2,z3,z4,z5⟩:=fz6 hb6
  clear hcb hfr h6 HC1 HRb hb6 d0 hsr hof
  dsimp only [ansV]
  go_wp2_with fail
  (try simp only [Exit.inBlock,Exit.then])
  refine bodyPost_ret (results_cell_row rfl _ _ R 31 #[.int .i64 a,.int .i64 b,.int .i64 n,.bool d,.string t,.slice x l k] (0,0) _ rfl (block_res HB6.out _ _ _ _ _ _) Tryz.underlying31 rfl (by kernel_rfl)) rfl ?_
  exact HE.out
theorem do_unlink {w0 w:World} {B:Nat} {c:Cal} {pk v1 v2 v3:Value} {ev:List Value} {S:Sta} (h:Cb w0 w B c pk v1 v2 v3 ev S) (hk:c.kind=9) {r:Except Int (Sta × Ans)}
  (hdo:∀ W,Cb w0 W B c pk v1 v2 v3 ev S→Calls Tryz.prog 111 #[.pointer (some ⟨B,0,none⟩)] W (Out w0 W B c pk v1 v2 v3 ev S r)) :
  Calls Tryz.prog 68 #[.pointer (some ⟨B,0,none⟩)] w (Out w0 w B c pk v1 v2 v3 ev S r):=by
 obtain ⟨W1,R,HWR,HKR,HRb⟩:=boxR w #[.int .i64 0,.int .i64 0,.int .i64 0,.bool false,.string ⟨#[]⟩,.slice none 0 0] 31
 have HC1:Hid (Cb w0 W1 B c pk v1 v2 v3 ev S):=h.kept HKR.out
 have HRo:Hid (Off [R] v1 v2 v3 ev∧R≠B):=h.new (Nat.le_of_eq HWR.out.2)
 have HRw:Hid (w.heap.size≤R):=Nat.le_of_eq HWR.out.2
 have HRl:Hid (w0.heap.size≤R):=by have:=h.k.size;rw [← HWR.out.2];exact this
 have d0:W1.cell? ⟨B,0,none⟩=some (.int .i64 9):=by rw [← hk];exact cellB HC1.out.box
 have HDo:Hid (_):=hdo
 clear h hk hdo
 go_enter Tryz.func68,Tryz.ntmps68
 go_upto_region 1 with fail
 rw [HWR.out.1,HWR.out.2]
 clear HWR
 go_wp2_with fail
 refine (HDo.out W1 HC1.out).mono ?_
 rintro e w6 hout
 rcases r with code | ⟨S',v⟩
 ·
  obtain ⟨rfl,u1,u2,u3,eu,hcb,hfr⟩:=hout
  exact ⟨rfl,rfl,u1,u2,u3,eu,hcb,(FrB.kept HKR.out).trans hfr⟩
 ·
  obtain ⟨x,l,k,u1,u2,u3,eu,rfl,hsr,hof,hcb,hfr⟩:=hout
  obtain ⟨a,b,n,d,t,ns⟩:=v
  have h6:=hfr.2 R (lt_of_heap HRb.out) HRo.out.2 HRo.out.1
  have hb6:w6.heap[R]?=_:=h6.1.trans HRb.out
  have HE:Hid (Out w0 w B c pk v1 v2 v3 ev S (.ok (S',⟨a,b,n,d,t,ns⟩)) (.returned (.agg #[.int .i64 a,.int .i64 b,.int .i64 n,.bool d,.string t,.slice x l k])) (laidR w6 R (.int .i64 a) (.int .i64 b) (.int .i64 n) (.bool d) (.string t) (.slice x l k))):=Oks.laid HKR.out HRl.out HRw.out (lt_of_heap HRb.out) HRo.out hsr hof hcb hfr _ _ _ _ _ _
  have HB6:Hid (_):=hb6
  obtain ⟨g0,g1,g2,g3,g4,g5⟩:=cz6 hb6
  obtain ⟨z0,z1,z2,z3,z4,z5⟩:=fz6 hb6
  clear hcb hfr h6 HC1 HRb hb6 d0 hsr hof
  dsimp only [ansV]
  go_wp2_with fail
  (try simp only [Exit.inBlock,Exit.then])
  refine bodyPost_ret (results_cell_row rfl _ _ R 31 #[.int .i64 a,.int .i64 b,.int .i64 n,.bool d,.string t,.slice x l k] (0,0) _ rfl (block_res HB6.out _ _ _ _ _ _) Tryz.underlying31 rfl (by kernel_rfl)) rfl ?_
  exact HE.out
theorem do_rmdir {w0 w:World} {B:Nat} {c:Cal} {pk v1 v2 v3:Value} {ev:List Value} {S:Sta} (h:Cb w0 w B c pk v1 v2 v3 ev S) (hk:c.kind=10) {r:Except Int (Sta × Ans)}
  (hdo:∀ W,Cb w0 W B c pk v1 v2 v3 ev S→Calls Tryz.prog 112 #[.pointer (some ⟨B,0,none⟩)] W (Out w0 W B c pk v1 v2 v3 ev S r)) :
  Calls Tryz.prog 68 #[.pointer (some ⟨B,0,none⟩)] w (Out w0 w B c pk v1 v2 v3 ev S r):=by
 obtain ⟨W1,R,HWR,HKR,HRb⟩:=boxR w #[.int .i64 0,.int .i64 0,.int .i64 0,.bool false,.string ⟨#[]⟩,.slice none 0 0] 31
 have HC1:Hid (Cb w0 W1 B c pk v1 v2 v3 ev S):=h.kept HKR.out
 have HRo:Hid (Off [R] v1 v2 v3 ev∧R≠B):=h.new (Nat.le_of_eq HWR.out.2)
 have HRw:Hid (w.heap.size≤R):=Nat.le_of_eq HWR.out.2
 have HRl:Hid (w0.heap.size≤R):=by have:=h.k.size;rw [← HWR.out.2];exact this
 have d0:W1.cell? ⟨B,0,none⟩=some (.int .i64 10):=by rw [← hk];exact cellB HC1.out.box
 have HDo:Hid (_):=hdo
 clear h hk hdo
 go_enter Tryz.func68,Tryz.ntmps68
 go_upto_region 1 with fail
 rw [HWR.out.1,HWR.out.2]
 clear HWR
 go_wp2_with fail
 refine (HDo.out W1 HC1.out).mono ?_
 rintro e w6 hout
 rcases r with code | ⟨S',v⟩
 ·
  obtain ⟨rfl,u1,u2,u3,eu,hcb,hfr⟩:=hout
  exact ⟨rfl,rfl,u1,u2,u3,eu,hcb,(FrB.kept HKR.out).trans hfr⟩
 ·
  obtain ⟨x,l,k,u1,u2,u3,eu,rfl,hsr,hof,hcb,hfr⟩:=hout
  obtain ⟨a,b,n,d,t,ns⟩:=v
  have h6:=hfr.2 R (lt_of_heap HRb.out) HRo.out.2 HRo.out.1
  have hb6:w6.heap[R]?=_:=h6.1.trans HRb.out
  have HE:Hid (Out w0 w B c pk v1 v2 v3 ev S (.ok (S',⟨a,b,n,d,t,ns⟩)) (.returned (.agg #[.int .i64 a,.int .i64 b,.int .i64 n,.bool d,.string t,.slice x l k])) (laidR w6 R (.int .i64 a) (.int .i64 b) (.int .i64 n) (.bool d) (.string t) (.slice x l k))):=Oks.laid HKR.out HRl.out HRw.out (lt_of_heap HRb.out) HRo.out hsr hof hcb hfr _ _ _ _ _ _
  have HB6:Hid (_):=hb6
  obtain ⟨g0,g1,g2,g3,g4,g5⟩:=cz6 hb6
  obtain ⟨z0,z1,z2,z3,z4,z5⟩:=fz6 hb6
  clear hcb hfr h6 HC1 HRb hb6 d0 hsr hof
  dsimp only [ansV]
  go_wp2_with fail
  (try simp only [Exit.inBlock,Exit.then])
  refine bodyPost_ret (results_cell_row rfl _ _ R 31 #[.int .i64 a,.int .i64 b,.int .i64 n,.bool d,.string t,.slice x l k] (0,0) _ rfl (block_res HB6.out _ _ _ _ _ _) Tryz.underlying31 rfl (by kernel_rfl)) rfl ?_
  exact HE.out
theorem do_rename {w0 w:World} {B:Nat} {c:Cal} {pk v1 v2 v3:Value} {ev:List Value} {S:Sta} (h:Cb w0 w B c pk v1 v2 v3 ev S) (hk:c.kind=11) {r:Except Int (Sta × Ans)}
  (hdo:∀ W,Cb w0 W B c pk v1 v2 v3 ev S→Calls Tryz.prog 113 #[.pointer (some ⟨B,0,none⟩)] W (Out w0 W B c pk v1 v2 v3 ev S r)) :
  Calls Tryz.prog 68 #[.pointer (some ⟨B,0,none⟩)] w (Out w0 w B c pk v1 v2 v3 ev S r):=by
 obtain ⟨W1,R,HWR,HKR,HRb⟩:=boxR w #[.int .i64 0,.int .i64 0,.int .i64 0,.bool false,.string ⟨#[]⟩,.slice none 0 0] 31
 have HC1:Hid (Cb w0 W1 B c pk v1 v2 v3 ev S):=h.kept HKR.out
 have HRo:Hid (Off [R] v1 v2 v3 ev∧R≠B):=h.new (Nat.le_of_eq HWR.out.2)
 have HRw:Hid (w.heap.size≤R):=Nat.le_of_eq HWR.out.2
 have HRl:Hid (w0.heap.size≤R):=by have:=h.k.size;rw [← HWR.out.2];exact this
 have d0:W1.cell? ⟨B,0,none⟩=some (.int .i64 11):=by rw [← hk];exact cellB HC1.out.box
 have HDo:Hid (_):=hdo
 clear h hk hdo
 go_enter Tryz.func68,Tryz.ntmps68
 go_upto_region 1 with fail
 rw [HWR.out.1,HWR.out.2]
 clear HWR
 go_wp2_with fail
 refine (HDo.out W1 HC1.out).mono ?_
 rintro e w6 hout
 rcases r with code | ⟨S',v⟩
 ·
  obtain ⟨rfl,u1,u2,u3,eu,hcb,hfr⟩:=hout
  exact ⟨rfl,rfl,u1,u2,u3,eu,hcb,(FrB.kept HKR.out).trans hfr⟩
 ·
  obtain ⟨x,l,k,u1,u2,u3,eu,rfl,hsr,hof,hcb,hfr⟩:=hout
  obtain ⟨a,b,n,d,t,ns⟩:=v
  have h6:=hfr.2 R (lt_of_heap HRb.out) HRo.out.2 HRo.out.1
  have hb6:w6.heap[R]?=_:=h6.1.trans HRb.out
  have HE:Hid (Out w0 w B c pk v1 v2 v3 ev S (.ok (S',⟨a,b,n,d,t,ns⟩)) (.returned (.agg #[.int .i64 a,.int .i64 b,.int .i64 n,.bool d,.string t,.slice x l k])) (laidR w6 R (.int .i64 a) (.int .i64 b) (.int .i64 n) (.bool d) (.string t) (.slice x l k))):=Oks.laid HKR.out HRl.out HRw.out (lt_of_heap HRb.out) HRo.out hsr hof hcb hfr _ _ _ _ _ _
  have HB6:Hid (_):=hb6
  obtain ⟨g0,g1,g2,g3,g4,g5⟩:=cz6 hb6
  obtain ⟨z0,z1,z2,z3,z4,z5⟩:=fz6 hb6
  clear hcb hfr h6 HC1 HRb hb6 d0 hsr hof
  dsimp only [ansV]
  go_wp2_with fail
  (try simp only [Exit.inBlock,Exit.then])
  refine bodyPost_ret (results_cell_row rfl _ _ R 31 #[.int .i64 a,.int .i64 b,.int .i64 n,.bool d,.string t,.slice x l k] (0,0) _ rfl (block_res HB6.out _ _ _ _ _ _) Tryz.underlying31 rfl (by kernel_rfl)) rfl ?_
  exact HE.out
theorem do_list {w0 w:World} {B:Nat} {c:Cal} {pk v1 v2 v3:Value} {ev:List Value} {S:Sta} (h:Cb w0 w B c pk v1 v2 v3 ev S) (hk:c.kind=12) {r:Except Int (Sta × Ans)}
  (hdo:∀ W,Cb w0 W B c pk v1 v2 v3 ev S→Calls Tryz.prog 114 #[.pointer (some ⟨B,0,none⟩)] W (Out w0 W B c pk v1 v2 v3 ev S r)) :
  Calls Tryz.prog 68 #[.pointer (some ⟨B,0,none⟩)] w (Out w0 w B c pk v1 v2 v3 ev S r):=by
 obtain ⟨W1,R,HWR,HKR,HRb⟩:=boxR w #[.int .i64 0,.int .i64 0,.int .i64 0,.bool false,.string ⟨#[]⟩,.slice none 0 0] 31
 have HC1:Hid (Cb w0 W1 B c pk v1 v2 v3 ev S):=h.kept HKR.out
 have HRo:Hid (Off [R] v1 v2 v3 ev∧R≠B):=h.new (Nat.le_of_eq HWR.out.2)
 have HRw:Hid (w.heap.size≤R):=Nat.le_of_eq HWR.out.2
 have HRl:Hid (w0.heap.size≤R):=by have:=h.k.size;rw [← HWR.out.2];exact this
 have d0:W1.cell? ⟨B,0,none⟩=some (.int .i64 12):=by rw [← hk];exact cellB HC1.out.box
 have HDo:Hid (_):=hdo
 clear h hk hdo
 go_enter Tryz.func68,Tryz.ntmps68
 go_upto_region 1 with fail
 rw [HWR.out.1,HWR.out.2]
 clear HWR
 go_wp2_with fail
 refine (HDo.out W1 HC1.out).mono ?_
 rintro e w6 hout
 rcases r with code | ⟨S',v⟩
 ·
  obtain ⟨rfl,u1,u2,u3,eu,hcb,hfr⟩:=hout
  exact ⟨rfl,rfl,u1,u2,u3,eu,hcb,(FrB.kept HKR.out).trans hfr⟩
 ·
  obtain ⟨x,l,k,u1,u2,u3,eu,rfl,hsr,hof,hcb,hfr⟩:=hout
  obtain ⟨a,b,n,d,t,ns⟩:=v
  have h6:=hfr.2 R (lt_of_heap HRb.out) HRo.out.2 HRo.out.1
  have hb6:w6.heap[R]?=_:=h6.1.trans HRb.out
  have HE:Hid (Out w0 w B c pk v1 v2 v3 ev S (.ok (S',⟨a,b,n,d,t,ns⟩)) (.returned (.agg #[.int .i64 a,.int .i64 b,.int .i64 n,.bool d,.string t,.slice x l k])) (laidR w6 R (.int .i64 a) (.int .i64 b) (.int .i64 n) (.bool d) (.string t) (.slice x l k))):=Oks.laid HKR.out HRl.out HRw.out (lt_of_heap HRb.out) HRo.out hsr hof hcb hfr _ _ _ _ _ _
  have HB6:Hid (_):=hb6
  obtain ⟨g0,g1,g2,g3,g4,g5⟩:=cz6 hb6
  obtain ⟨z0,z1,z2,z3,z4,z5⟩:=fz6 hb6
  clear hcb hfr h6 HC1 HRb hb6 d0 hsr hof
  dsimp only [ansV]
  go_wp2_with fail
  (try simp only [Exit.inBlock,Exit.then])
  refine bodyPost_ret (results_cell_row rfl _ _ R 31 #[.int .i64 a,.int .i64 b,.int .i64 n,.bool d,.string t,.slice x l k] (0,0) _ rfl (block_res HB6.out _ _ _ _ _ _) Tryz.underlying31 rfl (by kernel_rfl)) rfl ?_
  exact HE.out
theorem do_stat {w0 w:World} {B:Nat} {c:Cal} {pk v1 v2 v3:Value} {ev:List Value} {S:Sta} (h:Cb w0 w B c pk v1 v2 v3 ev S) (hk:c.kind=13) {r:Except Int (Sta × Ans)}
  (hdo:∀ W,Cb w0 W B c pk v1 v2 v3 ev S→Calls Tryz.prog 115 #[.pointer (some ⟨B,0,none⟩)] W (Out w0 W B c pk v1 v2 v3 ev S r)) :
  Calls Tryz.prog 68 #[.pointer (some ⟨B,0,none⟩)] w (Out w0 w B c pk v1 v2 v3 ev S r):=by
 obtain ⟨W1,R,HWR,HKR,HRb⟩:=boxR w #[.int .i64 0,.int .i64 0,.int .i64 0,.bool false,.string ⟨#[]⟩,.slice none 0 0] 31
 have HC1:Hid (Cb w0 W1 B c pk v1 v2 v3 ev S):=h.kept HKR.out
 have HRo:Hid (Off [R] v1 v2 v3 ev∧R≠B):=h.new (Nat.le_of_eq HWR.out.2)
 have HRw:Hid (w.heap.size≤R):=Nat.le_of_eq HWR.out.2
 have HRl:Hid (w0.heap.size≤R):=by have:=h.k.size;rw [← HWR.out.2];exact this
 have d0:W1.cell? ⟨B,0,none⟩=some (.int .i64 13):=by rw [← hk];exact cellB HC1.out.box
 have HDo:Hid (_):=hdo
 clear h hk hdo
 go_enter Tryz.func68,Tryz.ntmps68
 go_upto_region 1 with fail
 rw [HWR.out.1,HWR.out.2]
 clear HWR
 go_wp2_with fail
 refine (HDo.out W1 HC1.out).mono ?_
 rintro e w6 hout
 rcases r with code | ⟨S',v⟩
 ·
  obtain ⟨rfl,u1,u2,u3,eu,hcb,hfr⟩:=hout
  exact ⟨rfl,rfl,u1,u2,u3,eu,hcb,(FrB.kept HKR.out).trans hfr⟩
 ·
  obtain ⟨x,l,k,u1,u2,u3,eu,rfl,hsr,hof,hcb,hfr⟩:=hout
  obtain ⟨a,b,n,d,t,ns⟩:=v
  have h6:=hfr.2 R (lt_of_heap HRb.out) HRo.out.2 HRo.out.1
  have hb6:w6.heap[R]?=_:=h6.1.trans HRb.out
  have HE:Hid (Out w0 w B c pk v1 v2 v3 ev S (.ok (S',⟨a,b,n,d,t,ns⟩)) (.returned (.agg #[.int .i64 a,.int .i64 b,.int .i64 n,.bool d,.string t,.slice x l k])) (laidR w6 R (.int .i64 a) (.int .i64 b) (.int .i64 n) (.bool d) (.string t) (.slice x l k))):=Oks.laid HKR.out HRl.out HRw.out (lt_of_heap HRb.out) HRo.out hsr hof hcb hfr _ _ _ _ _ _
  have HB6:Hid (_):=hb6
  obtain ⟨g0,g1,g2,g3,g4,g5⟩:=cz6 hb6
  obtain ⟨z0,z1,z2,z3,z4,z5⟩:=fz6 hb6
  clear hcb hfr h6 HC1 HRb hb6 d0 hsr hof
  dsimp only [ansV]
  go_wp2_with fail
  (try simp only [Exit.inBlock,Exit.then])
  refine bodyPost_ret (results_cell_row rfl _ _ R 31 #[.int .i64 a,.int .i64 b,.int .i64 n,.bool d,.string t,.slice x l k] (0,0) _ rfl (block_res HB6.out _ _ _ _ _ _) Tryz.underlying31 rfl (by kernel_rfl)) rfl ?_
  exact HE.out
theorem do_links {w0 w:World} {B:Nat} {c:Cal} {pk v1 v2 v3:Value} {ev:List Value} {S:Sta} (h:Cb w0 w B c pk v1 v2 v3 ev S) (hk:c.kind=14) {r:Except Int (Sta × Ans)}
  (hdo:∀ W,Cb w0 W B c pk v1 v2 v3 ev S→Calls Tryz.prog 116 #[.pointer (some ⟨B,0,none⟩)] W (Out w0 W B c pk v1 v2 v3 ev S r)) :
  Calls Tryz.prog 68 #[.pointer (some ⟨B,0,none⟩)] w (Out w0 w B c pk v1 v2 v3 ev S r):=by
 obtain ⟨W1,R,HWR,HKR,HRb⟩:=boxR w #[.int .i64 0,.int .i64 0,.int .i64 0,.bool false,.string ⟨#[]⟩,.slice none 0 0] 31
 have HC1:Hid (Cb w0 W1 B c pk v1 v2 v3 ev S):=h.kept HKR.out
 have HRo:Hid (Off [R] v1 v2 v3 ev∧R≠B):=h.new (Nat.le_of_eq HWR.out.2)
 have HRw:Hid (w.heap.size≤R):=Nat.le_of_eq HWR.out.2
 have HRl:Hid (w0.heap.size≤R):=by have:=h.k.size;rw [← HWR.out.2];exact this
 have d0:W1.cell? ⟨B,0,none⟩=some (.int .i64 14):=by rw [← hk];exact cellB HC1.out.box
 have HDo:Hid (_):=hdo
 clear h hk hdo
 go_enter Tryz.func68,Tryz.ntmps68
 go_upto_region 1 with fail
 rw [HWR.out.1,HWR.out.2]
 clear HWR
 go_wp2_with fail
 refine (HDo.out W1 HC1.out).mono ?_
 rintro e w6 hout
 rcases r with code | ⟨S',v⟩
 ·
  obtain ⟨rfl,u1,u2,u3,eu,hcb,hfr⟩:=hout
  exact ⟨rfl,rfl,u1,u2,u3,eu,hcb,(FrB.kept HKR.out).trans hfr⟩
 ·
  obtain ⟨x,l,k,u1,u2,u3,eu,rfl,hsr,hof,hcb,hfr⟩:=hout
  obtain ⟨a,b,n,d,t,ns⟩:=v
  have h6:=hfr.2 R (lt_of_heap HRb.out) HRo.out.2 HRo.out.1
  have hb6:w6.heap[R]?=_:=h6.1.trans HRb.out
  have HE:Hid (Out w0 w B c pk v1 v2 v3 ev S (.ok (S',⟨a,b,n,d,t,ns⟩)) (.returned (.agg #[.int .i64 a,.int .i64 b,.int .i64 n,.bool d,.string t,.slice x l k])) (laidR w6 R (.int .i64 a) (.int .i64 b) (.int .i64 n) (.bool d) (.string t) (.slice x l k))):=Oks.laid HKR.out HRl.out HRw.out (lt_of_heap HRb.out) HRo.out hsr hof hcb hfr _ _ _ _ _ _
  have HB6:Hid (_):=hb6
  obtain ⟨g0,g1,g2,g3,g4,g5⟩:=cz6 hb6
  obtain ⟨z0,z1,z2,z3,z4,z5⟩:=fz6 hb6
  clear hcb hfr h6 HC1 HRb hb6 d0 hsr hof
  dsimp only [ansV]
  go_wp2_with fail
  (try simp only [Exit.inBlock,Exit.then])
  refine bodyPost_ret (results_cell_row rfl _ _ R 31 #[.int .i64 a,.int .i64 b,.int .i64 n,.bool d,.string t,.slice x l k] (0,0) _ rfl (block_res HB6.out _ _ _ _ _ _) Tryz.underlying31 rfl (by kernel_rfl)) rfl ?_
  exact HE.out
theorem do_fsync {w0 w:World} {B:Nat} {c:Cal} {pk v1 v2 v3:Value} {ev:List Value} {S:Sta} (h:Cb w0 w B c pk v1 v2 v3 ev S) (hk:c.kind=15) {r:Except Int (Sta × Ans)}
  (hdo:∀ W,Cb w0 W B c pk v1 v2 v3 ev S→Calls Tryz.prog 117 #[.pointer (some ⟨B,0,none⟩)] W (Out w0 W B c pk v1 v2 v3 ev S r)) :
  Calls Tryz.prog 68 #[.pointer (some ⟨B,0,none⟩)] w (Out w0 w B c pk v1 v2 v3 ev S r):=by
 obtain ⟨W1,R,HWR,HKR,HRb⟩:=boxR w #[.int .i64 0,.int .i64 0,.int .i64 0,.bool false,.string ⟨#[]⟩,.slice none 0 0] 31
 have HC1:Hid (Cb w0 W1 B c pk v1 v2 v3 ev S):=h.kept HKR.out
 have HRo:Hid (Off [R] v1 v2 v3 ev∧R≠B):=h.new (Nat.le_of_eq HWR.out.2)
 have HRw:Hid (w.heap.size≤R):=Nat.le_of_eq HWR.out.2
 have HRl:Hid (w0.heap.size≤R):=by have:=h.k.size;rw [← HWR.out.2];exact this
 have d0:W1.cell? ⟨B,0,none⟩=some (.int .i64 15):=by rw [← hk];exact cellB HC1.out.box
 have HDo:Hid (_):=hdo
 clear h hk hdo
 go_enter Tryz.func68,Tryz.ntmps68
 go_upto_region 1 with fail
 rw [HWR.out.1,HWR.out.2]
 clear HWR
 go_wp2_with fail
 refine (HDo.out W1 HC1.out).mono ?_
 rintro e w6 hout
 rcases r with code | ⟨S',v⟩
 ·
  obtain ⟨rfl,u1,u2,u3,eu,hcb,hfr⟩:=hout
  exact ⟨rfl,rfl,u1,u2,u3,eu,hcb,(FrB.kept HKR.out).trans hfr⟩
 ·
  obtain ⟨x,l,k,u1,u2,u3,eu,rfl,hsr,hof,hcb,hfr⟩:=hout
  obtain ⟨a,b,n,d,t,ns⟩:=v
  have h6:=hfr.2 R (lt_of_heap HRb.out) HRo.out.2 HRo.out.1
  have hb6:w6.heap[R]?=_:=h6.1.trans HRb.out
  have HE:Hid (Out w0 w B c pk v1 v2 v3 ev S (.ok (S',⟨a,b,n,d,t,ns⟩)) (.returned (.agg #[.int .i64 a,.int .i64 b,.int .i64 n,.bool d,.string t,.slice x l k])) (laidR w6 R (.int .i64 a) (.int .i64 b) (.int .i64 n) (.bool d) (.string t) (.slice x l k))):=Oks.laid HKR.out HRl.out HRw.out (lt_of_heap HRb.out) HRo.out hsr hof hcb hfr _ _ _ _ _ _
  have HB6:Hid (_):=hb6
  obtain ⟨g0,g1,g2,g3,g4,g5⟩:=cz6 hb6
  obtain ⟨z0,z1,z2,z3,z4,z5⟩:=fz6 hb6
  clear hcb hfr h6 HC1 HRb hb6 d0 hsr hof
  dsimp only [ansV]
  go_wp2_with fail
  (try simp only [Exit.inBlock,Exit.then])
  refine bodyPost_ret (results_cell_row rfl _ _ R 31 #[.int .i64 a,.int .i64 b,.int .i64 n,.bool d,.string t,.slice x l k] (0,0) _ rfl (block_res HB6.out _ _ _ _ _ _) Tryz.underlying31 rfl (by kernel_rfl)) rfl ?_
  exact HE.out
theorem do_sync {w0 w:World} {B:Nat} {c:Cal} {pk v1 v2 v3:Value} {ev:List Value} {S:Sta} (h:Cb w0 w B c pk v1 v2 v3 ev S) (hk:c.kind=16) :
  Calls Tryz.prog 68 #[.pointer (some ⟨B,0,none⟩)] w (Out w0 w B c pk v1 v2 v3 ev S (.ok (S,ansC 0))):=by
 obtain ⟨W1,R,HWR,HKR,HRb⟩:=boxR w #[.int .i64 0,.int .i64 0,.int .i64 0,.bool false,.string ⟨#[]⟩,.slice none 0 0] 31
 have HC1:Hid (Cb w0 W1 B c pk v1 v2 v3 ev S):=h.kept HKR.out
 have HRo:Hid (Off [R] v1 v2 v3 ev∧R≠B):=h.new (Nat.le_of_eq HWR.out.2)
 have HRw:Hid (w.heap.size≤R):=Nat.le_of_eq HWR.out.2
 have HRl:Hid (w0.heap.size≤R):=by have:=h.k.size;rw [← HWR.out.2];exact this
 have hb6:=HRb.out
 have d0:W1.cell? ⟨B,0,none⟩=some (.int .i64 16):=by rw [← hk];exact cellB HC1.out.box
 clear hk
 have HE:Hid (Out w0 w B c pk v1 v2 v3 ev S (.ok (S,ansC 0)) (.returned (.agg #[.int .i64 0,.int .i64 0,.int .i64 0,.bool false,.string ⟨#[]⟩,.slice none 0 0])) (laidR W1 R (.int .i64 0) (.int .i64 0) (.int .i64 0) (.bool false) (.string ⟨#[]⟩) (.slice none 0 0))):=Oks.laid (A:=ansC 0) (z:=none) (l:=0) (k:=0) HKR.out HRl.out HRw.out (lt_of_heap HRb.out) HRo.out (Sr.nil _ _) (fun b e=>by cases e) HC1.out (FrB.kept (Kept.refl _ _)) _ _ _ _ _ _
 obtain ⟨g0,g1,g2,g3,g4,g5⟩:=cz6 hb6
 obtain ⟨z0,z1,z2,z3,z4,z5⟩:=fz6 hb6
 clear h hb6
 go_enter Tryz.func68,Tryz.ntmps68
 go_upto_region 1 with fail
 rw [HWR.out.1,HWR.out.2]
 clear HWR
 go_wp2_with fail
 (try simp only [Exit.inBlock,Exit.then])
 refine bodyPost_ret (results_cell_row rfl _ _ R 31 #[.int .i64 0,.int .i64 0,.int .i64 0,.bool false,.string ⟨#[]⟩,.slice none 0 0] (0,0) _ rfl (block_res HRb.out _ _ _ _ _ _) Tryz.underlying31 rfl (by kernel_rfl)) rfl ?_
 exact HE.out
theorem do_none {w0 w:World} {B:Nat} {c:Cal} {pk v1 v2 v3:Value} {ev:List Value} {S:Sta} (h:Cb w0 w B c pk v1 v2 v3 ev S) (hk:c.kind < 0∨16 < c.kind) :
  Calls Tryz.prog 68 #[.pointer (some ⟨B,0,none⟩)] w (Out w0 w B c pk v1 v2 v3 ev S (.ok (S,ansC 9))):=by
 obtain ⟨W1,R,HWR,HKR,HRb⟩:=boxR w #[.int .i64 0,.int .i64 0,.int .i64 0,.bool false,.string ⟨#[]⟩,.slice none 0 0] 31
 have HC1:Hid (Cb w0 W1 B c pk v1 v2 v3 ev S):=h.kept HKR.out
 have HRo:Hid (Off [R] v1 v2 v3 ev∧R≠B):=h.new (Nat.le_of_eq HWR.out.2)
 have HRw:Hid (w.heap.size≤R):=Nat.le_of_eq HWR.out.2
 have HRl:Hid (w0.heap.size≤R):=by have:=h.k.size;rw [← HWR.out.2];exact this
 have hb6:=HRb.out
 obtain ⟨K,hK⟩:∃ K,c.kind=K:=⟨_,rfl⟩
 have d0:W1.cell? ⟨B,0,none⟩=some (.int .i64 K):=by rw [← hK];exact cellB HC1.out.box
 rw [hK] at hk
 clear hK
 have n0:¬ K=0:=fun e=>by omega
 have m0:(K == 0)=false:=by simpa using n0
 have n1:¬ K=1:=fun e=>by omega
 have m1:(K == 1)=false:=by simpa using n1
 have n2:¬ K=2:=fun e=>by omega
 have m2:(K == 2)=false:=by simpa using n2
 have n3:¬ K=3:=fun e=>by omega
 have m3:(K == 3)=false:=by simpa using n3
 have n4:¬ K=4:=fun e=>by omega
 have m4:(K == 4)=false:=by simpa using n4
 have n5:¬ K=5:=fun e=>by omega
 have m5:(K == 5)=false:=by simpa using n5
 have n6:¬ K=6:=fun e=>by omega
 have m6:(K == 6)=false:=by simpa using n6
 have n7:¬ K=7:=fun e=>by omega
 have m7:(K == 7)=false:=by simpa using n7
 have n8:¬ K=8:=fun e=>by omega
 have m8:(K == 8)=false:=by simpa using n8
 have n9:¬ K=9:=fun e=>by omega
 have m9:(K == 9)=false:=by simpa using n9
 have n10:¬ K=10:=fun e=>by omega
 have m10:(K == 10)=false:=by simpa using n10
 have n11:¬ K=11:=fun e=>by omega
 have m11:(K == 11)=false:=by simpa using n11
 have n12:¬ K=12:=fun e=>by omega
 have m12:(K == 12)=false:=by simpa using n12
 have n13:¬ K=13:=fun e=>by omega
 have m13:(K == 13)=false:=by simpa using n13
 have n14:¬ K=14:=fun e=>by omega
 have m14:(K == 14)=false:=by simpa using n14
 have n15:¬ K=15:=fun e=>by omega
 have m15:(K == 15)=false:=by simpa using n15
 have n16:¬ K=16:=fun e=>by omega
 have m16:(K == 16)=false:=by simpa using n16
 clear hk
 have HE:Hid (Out w0 w B c pk v1 v2 v3 ev S (.ok (S,ansC 9)) (.returned (.agg #[.int .i64 9,.int .i64 0,.int .i64 0,.bool false,.string ⟨#[]⟩,.slice none 0 0])) (laidR W1 R (.int .i64 9) (.int .i64 0) (.int .i64 0) (.bool false) (.string ⟨#[]⟩) (.slice none 0 0))):=Oks.laid (A:=ansC 9) (z:=none) (l:=0) (k:=0) HKR.out HRl.out HRw.out (lt_of_heap HRb.out) HRo.out (Sr.nil _ _) (fun b e=>by cases e) HC1.out (FrB.kept (Kept.refl _ _)) _ _ _ _ _ _
 obtain ⟨g0,g1,g2,g3,g4,g5⟩:=cz6 hb6
 obtain ⟨z0,z1,z2,z3,z4,z5⟩:=fz6 hb6
 clear h hb6
 go_enter Tryz.func68,Tryz.ntmps68
 go_upto_region 1 with fail
 rw [HWR.out.1,HWR.out.2]
 clear HWR
 go_wp2_with fail
 (try simp only [Exit.inBlock,Exit.then])
 refine bodyPost_ret (results_cell_row rfl _ _ R 31 #[.int .i64 9,.int .i64 0,.int .i64 0,.bool false,.string ⟨#[]⟩,.slice none 0 0] (0,0) _ rfl (block_res HRb.out _ _ _ _ _ _) Tryz.underlying31 rfl (by kernel_rfl)) rfl ?_
 exact HE.out
end Go.Proofs.YtffncojcnbhblaaGreatDoor
