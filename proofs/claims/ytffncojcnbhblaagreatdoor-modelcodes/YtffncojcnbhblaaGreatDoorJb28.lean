/-
  Joined of my texts Ce.
-/
import Derived.Test.YtffncojcnbhblaaGreatDoorJb26
set_option linter.unusedVariables false
set_option linter.unusedSimpArgs false
set_option maxRecDepth 100000
set_option maxHeartbeats 8000000
namespace Go.Proofs.YtffncojcnbhblaaGreatDoor
open List renaming setIfInBounds_toArray → lz0, set_cons_zero → lz1, set_cons_succ → lz2, getElem_toArray → lz3, getElem_cons_zero → lz4, getElem_cons_succ → lz5
open Go.RowKit
def PanAt (R:Nat) (D:List Deferred) (code:Int) (X:World→Prop):Exit→Act→World→Prop
 | .panic ch,a,w=>ch=[{ v:=.iface 106 (.int .i64 code),recovered:=false }]∧a.tmps.getD 2 undef=.pointer (some ⟨R,0,none⟩)∧a.defers=D∧X w
 | _,_,_=>False
theorem panAt_put {R:Nat} {D:List Deferred} {code:Int} {X:World→Prop} {d:Nat} (hd:d≠2) {v:Value} {c:List PanicEntry} {a:Act} {w:World} (h:PanAt R D code X (.panic c) (a.put (some d) v) w):PanAt R D code X (.panic c) a w:=by
 obtain ⟨h1,h2,h3,h4⟩:=h
 refine ⟨h1,?_,h3,h4⟩
 rw [← h2]
 simp [Act.put,Array.getElem?_setIfInBounds,hd]
theorem wp_panAt {P:Program} {c:Code} {tmps:Array Value} {D:List Deferred} {w:World} {Q':Exit→Act→World→Prop} (R:Nat) (code:Int) (X:World→Prop) (h:c.wp P (PanAt R D code X) ⟨tmps,D⟩ w)
  (hq:∀ tmps' w',tmps'.getD 2 undef=.pointer (some ⟨R,0,none⟩)→X w'→Q' (.panic [{ v:=.iface 106 (.int .i64 code),recovered:=false }]) ⟨tmps',D⟩ w'):c.wp P Q' ⟨tmps,D⟩ w:=
 Code.wp_mono (fun e a w h=>by
  cases e
  case panic ch=>
   obtain ⟨h1,h2,h3,h4⟩:=h
   obtain ⟨tm,df⟩:=a
   subst h1 h3
   exact hq tm w h2 h4
  all_goals exact h.elim) h
theorem s4e_kept {w w':World} {B:Nat} {c:Cal} {p:Pl} {S:Sta} (h:w.cell? ⟨B,1,none⟩=some (.int .i64 c.core)∧w.cell? ⟨B,8,none⟩=some (.slice p.a1 S.ino.length p.c1)∧w.cell? ⟨B,9,none⟩=some (.slice p.a2 S.opn.length p.c2)∧w.cell? ⟨B,10,none⟩=some (.slice p.a3 S.made.length p.c3)) (k:Kept [] w w'):w'.cell? ⟨B,1,none⟩=some (.int .i64 c.core)∧w'.cell? ⟨B,8,none⟩=some (.slice p.a1 S.ino.length p.c1)∧w'.cell? ⟨B,9,none⟩=some (.slice p.a2 S.opn.length p.c2)∧w'.cell? ⟨B,10,none⟩=some (.slice p.a3 S.made.length p.c3):=⟨k.cell (h.1) (by simp),k.cell (h.2.1) (by simp),k.cell (h.2.2.1) (by simp),k.cell (h.2.2.2) (by simp)⟩
theorem p_caught_may {w0 w:World} {B:Nat} {c:Cal} {pk v1 v2 v3:Value} {ev:List Value} {S:Sta} (h:Cb w0 w B c pk v1 v2 v3 ev S) (hm:mayB S=false) :
  Calls Tryz.prog 38 #[.pointer (some ⟨B,0,none⟩)] w (Oks w0 w B c pk v1 v2 v3 ev (S,ansC 9)):=by
 obtain ⟨W1,R,HWR,HKR,HRb⟩:=boxR w #[.int .i64 0,.int .i64 0,.int .i64 0,.bool false,.string ⟨#[]⟩,.slice none 0 0] 31
 have hmf:∀ (fn:Fn) (first cap:Array Value) (w:World),(Instr.makeFunc fn first cap).run Tryz.prog w=.ok (.func fn first cap) w:=fun _ _ _ _=>rfl
 have HC1:Hid (Cb w0 W1 B c pk v1 v2 v3 ev S):=h.kept HKR.out
 have HRo:Hid (Off [R] v1 v2 v3 ev∧R≠B):=h.new (Nat.le_of_eq HWR.out.2)
 have HRw:Hid (w.heap.size≤R):=Nat.le_of_eq HWR.out.2
 have HRl:Hid (w0.heap.size≤R):=by have:=h.k.size;rw [← HWR.out.2];exact this
 obtain ⟨p,e1,e2,e3,hrd,f1,f3⟩:=HC1.out.rd
 have HM:Hid (∀ W,Kept [] W1 W→Calls Tryz.prog 19 #[.agg #[.slice p.a1 S.ino.length p.c1,.slice p.a2 S.opn.length p.c2,.slice p.a3 S.made.length p.c3]] W fun e w'=>e=.returned (.bool false)∧Kept [] W w'):=fun W hW=>by
  have:=p_may (hrd.sv.kept hW) (hrd.tab.kept hW) (fun x hx=>Nat.le_trans (h.bd.d1 x hx) (by omega))
  rw [hm] at this
  exact this
 have HS:Hid (W1.cell? ⟨B,1,none⟩=some (.int .i64 c.core)∧W1.cell? ⟨B,8,none⟩=some (.slice p.a1 S.ino.length p.c1)∧W1.cell? ⟨B,9,none⟩=some (.slice p.a2 S.opn.length p.c2)∧W1.cell? ⟨B,10,none⟩=some (.slice p.a3 S.made.length p.c3)):=⟨hrd.c1,hrd.c8,hrd.c9,hrd.c10⟩
 have HKw:Hid (Kept [] w W1):=HKR.out
 clear h hm e1 e2 e3 f1 f3 hrd HKR
 go_enter_defers Tryz.func38,Tryz.ntmps38
 go_upto_region 2 with fail
 rw [HWR.out.1,HWR.out.2]
 clear HWR
 refine wp_panAt R 9 (fun w'=>Kept [] W1 w') ?_ ?_
 rotate_left
 ·
  intro tm w6 ht k6
  have HB6:Hid (w6.heap[R]?=_):=(k6.block _ (lt_of_heap HRb.out) (by simp)).trans HRb.out
  have HE:Hid (Oks w0 w B c pk v1 v2 v3 ev (S,ansC 9) (.returned (ansV (ansC 9) (.slice none 0 0))) (laidR w6 R (.int .i64 9) (.int .i64 0) (.int .i64 0) (.bool false) (.string ⟨#[]⟩) (.slice none 0 0))):=Oks.laid (A:=ansC 9) (z:=none) (l:=0) (k:=0) HKw.out HRl.out HRw.out (lt_of_heap HRb.out) HRo.out (Sr.nil _ _) (fun b e=>by cases e) (HC1.out.kept k6) (FrB.kept k6) _ _ _ _ _ _
  refine leaves_cons (f:=66) (args:=#[.pointer (some ⟨R,0,none⟩)]) (by simp) (by simp [go_sem]) ?_
  refine (catch_thrown R 9 [] HB6.out).mono ?_
  rintro e u' w'' ⟨rfl,rfl,rfl⟩
  exact ⟨_,results_cell_row rfl _ _ R 31 #[.int .i64 9,.int .i64 0,.int .i64 0,.bool false,.string ⟨#[]⟩,.slice none 0 0] (0,0) _ ht (block_res HB6.out _ _ _ _ _ _) Tryz.underlying31 rfl (by kernel_rfl),HE.out⟩
 refine wp_region_held_drew (S:=fun w'=>w'.cell? ⟨B,1,none⟩=some (.int .i64 c.core)∧w'.cell? ⟨B,8,none⟩=some (.slice p.a1 S.ino.length p.c1)∧w'.cell? ⟨B,9,none⟩=some (.slice p.a2 S.opn.length p.c2)∧w'.cell? ⟨B,10,none⟩=some (.slice p.a3 S.made.length p.c3)) (by kernel_rfl) ?_ (fun hHeld=>?_)
 · exact HS.out
 refine wpAnyH_take (i:=0) (v:=?va0) rfl (by kernel_rfl) (by kernel_rfl) (by kernel_rfl) (fun _ _ _ h=>panAt_put (by decide) h) (Or.inl ⟨by rfl,?hya0⟩) (by assumption) ?_
 case hya0=>
  intro w hSw
  (try dsimp only at hSw)
  go_simp
  try with_reducible rfl
 try simp only [Act.put,lz0,lz1,lz2,lz3,lz4,lz5]
 refine wpAnyH_take (i:=1) (v:=?va1) rfl (by kernel_rfl) (by kernel_rfl) (by kernel_rfl) (fun _ _ _ h=>panAt_put (by decide) h) (Or.inl ⟨by rfl,?hya1⟩) (by assumption) ?_
 case hya1=>
  intro w hSw
  (try dsimp only at hSw)
  go_simp
  try with_reducible rfl
 try simp only [Act.put,lz0,lz1,lz2,lz3,lz4,lz5]
 refine wpAnyH_take (i:=2) (v:=?va2) rfl (by kernel_rfl) (by kernel_rfl) (by kernel_rfl) (fun _ _ _ h=>panAt_put (by decide) h) (Or.inl ⟨by rfl,?hya2⟩) (by assumption) ?_
 case hya2=>
  intro w hSw
  (try dsimp only at hSw)
  go_simp
  try with_reducible rfl
 try simp only [Act.put,lz0,lz1,lz2,lz3,lz4,lz5]
 refine wpAnyH_take (i:=3) (v:=?va3) rfl (by kernel_rfl) (by kernel_rfl) (by kernel_rfl) (fun _ _ _ h=>panAt_put (by decide) h) (Or.inl ⟨by rfl,?hya3⟩) (by assumption) ?_
 case hya3=>
  intro w hSw
  (try dsimp only at hSw)
  go_simp
  try with_reducible rfl
 try simp only [Act.put,lz0,lz1,lz2,lz3,lz4,lz5]
 refine wpAnyH_ready (rs:=[4]) (by kernel_rfl) (by simp) ?_
 refine AllReadyH.cons rfl (fun K hK=>?_) AllReadyH.nil
 go_simp
 refine (HM.out _ (Kept.refl _ _).drew).mono ?_
 rintro e w4 ⟨rfl,k4⟩
 have z4:=s4e_kept hHeld k4
 have HK4:Hid (Kept [] W1 w4):=(Kept.refl _ _).drew.trans k4 (by simp)
 clear k4
 go_wp2_with fail
 refine hK.out _ _ ?_ (fun hHeld=>?_)
 · exact z4
 clear hK K
 try simp only [Act.put,lz0,lz1,lz2,lz3,lz4,lz5]
 refine wpAnyH_take (i:=5) (v:=?va5) rfl (by kernel_rfl) (by kernel_rfl) (by kernel_rfl) (fun _ _ _ h=>panAt_put (by decide) h) (Or.inl ⟨by rfl,?hya5⟩) (by assumption) ?_
 case hya5=>
  intro w hSw
  (try dsimp only at hSw)
  go_simp
  try with_reducible rfl
 try simp only [Act.put,lz0,lz1,lz2,lz3,lz4,lz5]
 refine wpAnyH_take (i:=6) (v:=?va6) rfl (by kernel_rfl) (by kernel_rfl) (by kernel_rfl) (fun _ _ _ h=>panAt_put (by decide) h) (Or.inl ⟨by rfl,?hya6⟩) (by assumption) ?_
 case hya6=>
  intro w hSw
  (try dsimp only at hSw)
  go_simp
  try with_reducible rfl
 try simp only [Act.put,lz0,lz1,lz2,lz3,lz4,lz5]
 refine wpAnyH_take (i:=7) (v:=undef) rfl (by kernel_rfl) (by kernel_rfl) (by kernel_rfl) (fun _ _ _ h=>panAt_put (by decide) h) (Or.inr ⟨by rfl,rfl⟩) (by assumption) ?_
 try simp only [Act.put,lz0,lz1,lz2,lz3,lz4,lz5]
 refine wpAnyH_take (i:=8) (v:=undef) rfl (by kernel_rfl) (by kernel_rfl) (by kernel_rfl) (fun _ _ _ h=>panAt_put (by decide) h) (Or.inr ⟨by rfl,rfl⟩) (by assumption) ?_
 try simp only [Act.put,lz0,lz1,lz2,lz3,lz4,lz5]
 refine wpAnyH_take (i:=9) (v:=undef) rfl (by kernel_rfl) (by kernel_rfl) (by kernel_rfl) (fun _ _ _ h=>panAt_put (by decide) h) (Or.inr ⟨by rfl,rfl⟩) (by assumption) ?_
 try simp only [Act.put,lz0,lz1,lz2,lz3,lz4,lz5]
 refine wpAnyH_take (i:=10) (v:=undef) rfl (by kernel_rfl) (by kernel_rfl) (by kernel_rfl) (fun _ _ _ h=>panAt_put (by decide) h) (Or.inr ⟨by rfl,rfl⟩) (by assumption) ?_
 try simp only [Act.put,lz0,lz1,lz2,lz3,lz4,lz5]
 refine wpAnyH_take (i:=11) (v:=undef) rfl (by kernel_rfl) (by kernel_rfl) (by kernel_rfl) (fun _ _ _ h=>panAt_put (by decide) h) (Or.inr ⟨by rfl,rfl⟩) (by assumption) ?_
 try simp only [Act.put,lz0,lz1,lz2,lz3,lz4,lz5]
 refine wpAnyH_take (i:=12) (v:=undef) rfl (by kernel_rfl) (by kernel_rfl) (by kernel_rfl) (fun _ _ _ h=>panAt_put (by decide) h) (Or.inr ⟨by rfl,rfl⟩) (by assumption) ?_
 try simp only [Act.put,lz0,lz1,lz2,lz3,lz4,lz5]
 refine wpAnyH_take (i:=13) (v:=?va13) rfl (by kernel_rfl) (by kernel_rfl) (by kernel_rfl) (fun _ _ _ h=>panAt_put (by decide) h) (Or.inl ⟨by rfl,?hya13⟩) (by assumption) ?_
 case hya13=>
  intro w hSw
  (try dsimp only at hSw)
  go_simp
  try with_reducible rfl
 try simp only [Act.put,lz0,lz1,lz2,lz3,lz4,lz5]
 refine wpAnyH_take (i:=14) (v:=?va14) rfl (by kernel_rfl) (by kernel_rfl) (by kernel_rfl) (fun _ _ _ h=>panAt_put (by decide) h) (Or.inl ⟨by rfl,?hya14⟩) (by assumption) ?_
 case hya14=>
  intro w hSw
  (try dsimp only at hSw)
  go_simp
  try with_reducible rfl
 try simp only [Act.put,lz0,lz1,lz2,lz3,lz4,lz5]
 refine wpAnyH_take (i:=15) (v:=undef) rfl (by kernel_rfl) (by kernel_rfl) (by kernel_rfl) (fun _ _ _ h=>panAt_put (by decide) h) (Or.inr ⟨by rfl,rfl⟩) (by assumption) ?_
 try simp only [Act.put,lz0,lz1,lz2,lz3,lz4,lz5]
 refine wpAnyH_take (i:=16) (v:=undef) rfl (by kernel_rfl) (by kernel_rfl) (by kernel_rfl) (fun _ _ _ h=>panAt_put (by decide) h) (Or.inr ⟨by rfl,rfl⟩) (by assumption) ?_
 try simp only [Act.put,lz0,lz1,lz2,lz3,lz4,lz5]
 refine wpAnyH_take (i:=17) (v:=undef) rfl (by kernel_rfl) (by kernel_rfl) (by kernel_rfl) (fun _ _ _ h=>panAt_put (by decide) h) (Or.inr ⟨by rfl,rfl⟩) (by assumption) ?_
 try simp only [Act.put,lz0,lz1,lz2,lz3,lz4,lz5]
 refine wpAnyH_take (i:=18) (v:=undef) rfl (by kernel_rfl) (by kernel_rfl) (by kernel_rfl) (fun _ _ _ h=>panAt_put (by decide) h) (Or.inr ⟨by rfl,rfl⟩) (by assumption) ?_
 try simp only [Act.put,lz0,lz1,lz2,lz3,lz4,lz5]
 refine wpAnyH_take (i:=19) (v:=undef) rfl (by kernel_rfl) (by kernel_rfl) (by kernel_rfl) (fun _ _ _ h=>panAt_put (by decide) h) (Or.inr ⟨by rfl,rfl⟩) (by assumption) ?_
 try simp only [Act.put,lz0,lz1,lz2,lz3,lz4,lz5]
 refine wpAnyH_take (i:=20) (v:=undef) rfl (by kernel_rfl) (by kernel_rfl) (by kernel_rfl) (fun _ _ _ h=>panAt_put (by decide) h) (Or.inr ⟨by rfl,rfl⟩) (by assumption) ?_
 try simp only [Act.put,lz0,lz1,lz2,lz3,lz4,lz5]
 refine wpAnyH_take (i:=21) (v:=undef) rfl (by kernel_rfl) (by kernel_rfl) (by kernel_rfl) (fun _ _ _ h=>panAt_put (by decide) h) (Or.inr ⟨by rfl,rfl⟩) (by assumption) ?_
 try simp only [Act.put,lz0,lz1,lz2,lz3,lz4,lz5]
 refine wpAnyH_take (i:=22) (v:=undef) rfl (by kernel_rfl) (by kernel_rfl) (by kernel_rfl) (fun _ _ _ h=>panAt_put (by decide) h) (Or.inr ⟨by rfl,rfl⟩) (by assumption) ?_
 try simp only [Act.put,lz0,lz1,lz2,lz3,lz4,lz5]
 refine wpAnyH_take (i:=23) (v:=undef) rfl (by kernel_rfl) (by kernel_rfl) (by kernel_rfl) (fun _ _ _ h=>panAt_put (by decide) h) (Or.inr ⟨by rfl,rfl⟩) (by assumption) ?_
 try simp only [Act.put,lz0,lz1,lz2,lz3,lz4,lz5]
 refine wpAnyH_take (i:=24) (v:=undef) rfl (by kernel_rfl) (by kernel_rfl) (by kernel_rfl) (fun _ _ _ h=>panAt_put (by decide) h) (Or.inr ⟨by rfl,rfl⟩) (by assumption) ?_
 try simp only [Act.put,lz0,lz1,lz2,lz3,lz4,lz5]
 refine wpAnyH_take (i:=25) (v:=undef) rfl (by kernel_rfl) (by kernel_rfl) (by kernel_rfl) (fun _ _ _ h=>panAt_put (by decide) h) (Or.inr ⟨by rfl,rfl⟩) (by assumption) ?_
 try simp only [Act.put,lz0,lz1,lz2,lz3,lz4,lz5]
 refine wpAnyH_take (i:=26) (v:=undef) rfl (by kernel_rfl) (by kernel_rfl) (by kernel_rfl) (fun _ _ _ h=>panAt_put (by decide) h) (Or.inr ⟨by rfl,rfl⟩) (by assumption) ?_
 try simp only [Act.put,lz0,lz1,lz2,lz3,lz4,lz5]
 refine wpAnyH_take (i:=27) (v:=?va27) rfl (by kernel_rfl) (by kernel_rfl) (by kernel_rfl) (fun _ _ _ h=>panAt_put (by decide) h) (Or.inl ⟨by rfl,?hya27⟩) (by assumption) ?_
 case hya27=>
  intro w hSw
  (try dsimp only at hSw)
  go_simp
  try with_reducible rfl
 try simp only [Act.put,lz0,lz1,lz2,lz3,lz4,lz5]
 refine wpAnyH_ready (rs:=[28]) (by kernel_rfl) (by simp) ?_
 refine AllReadyH.cons rfl (fun K hK=>?_) AllReadyH.nil
 go_simp
 refine (p_if 9 (by decide) _).mono ?_
 rintro e w5 ⟨rfl,hw5⟩
 subst hw5
 exact ⟨rfl,rfl,rfl,HK4.out⟩
theorem p_caught_low {w0 w:World} {B:Nat} {c:Cal} {pk v1 v2 v3:Value} {ev:List Value} {S:Sta} (h:Cb w0 w B c pk v1 v2 v3 ev S) (hm:mayB S=true) (hc:c.core < 0) :
  Calls Tryz.prog 38 #[.pointer (some ⟨B,0,none⟩)] w (Oks w0 w B c pk v1 v2 v3 ev (S,ansC 9)):=by
 obtain ⟨W1,R,HWR,HKR,HRb⟩:=boxR w #[.int .i64 0,.int .i64 0,.int .i64 0,.bool false,.string ⟨#[]⟩,.slice none 0 0] 31
 have hmf:∀ (fn:Fn) (first cap:Array Value) (w:World),(Instr.makeFunc fn first cap).run Tryz.prog w=.ok (.func fn first cap) w:=fun _ _ _ _=>rfl
 have HC1:Hid (Cb w0 W1 B c pk v1 v2 v3 ev S):=h.kept HKR.out
 have HRo:Hid (Off [R] v1 v2 v3 ev∧R≠B):=h.new (Nat.le_of_eq HWR.out.2)
 have HRw:Hid (w.heap.size≤R):=Nat.le_of_eq HWR.out.2
 have HRl:Hid (w0.heap.size≤R):=by have:=h.k.size;rw [← HWR.out.2];exact this
 obtain ⟨p,e1,e2,e3,hrd,f1,f3⟩:=HC1.out.rd
 have HM:Hid (∀ W,Kept [] W1 W→Calls Tryz.prog 19 #[.agg #[.slice p.a1 S.ino.length p.c1,.slice p.a2 S.opn.length p.c2,.slice p.a3 S.made.length p.c3]] W fun e w'=>e=.returned (.bool true)∧Kept [] W w'):=fun W hW=>by
  have:=p_may (hrd.sv.kept hW) (hrd.tab.kept hW) (fun x hx=>Nat.le_trans (h.bd.d1 x hx) (by omega))
  rw [hm] at this
  exact this
 have HS:Hid (W1.cell? ⟨B,1,none⟩=some (.int .i64 c.core)∧W1.cell? ⟨B,8,none⟩=some (.slice p.a1 S.ino.length p.c1)∧W1.cell? ⟨B,9,none⟩=some (.slice p.a2 S.opn.length p.c2)∧W1.cell? ⟨B,10,none⟩=some (.slice p.a3 S.made.length p.c3)):=⟨hrd.c1,hrd.c8,hrd.c9,hrd.c10⟩
 have t1:decide (c.core < 0)=true:=decide_eq_true hc
 have HKw:Hid (Kept [] w W1):=HKR.out
 clear h hm e1 e2 e3 f1 f3 hrd HKR
 go_enter_defers Tryz.func38,Tryz.ntmps38
 go_upto_region 2 with fail
 rw [HWR.out.1,HWR.out.2]
 clear HWR
 refine wp_panAt R 9 (fun w'=>Kept [] W1 w') ?_ ?_
 rotate_left
 ·
  intro tm w6 ht k6
  have HB6:Hid (w6.heap[R]?=_):=(k6.block _ (lt_of_heap HRb.out) (by simp)).trans HRb.out
  have HE:Hid (Oks w0 w B c pk v1 v2 v3 ev (S,ansC 9) (.returned (ansV (ansC 9) (.slice none 0 0))) (laidR w6 R (.int .i64 9) (.int .i64 0) (.int .i64 0) (.bool false) (.string ⟨#[]⟩) (.slice none 0 0))):=Oks.laid (A:=ansC 9) (z:=none) (l:=0) (k:=0) HKw.out HRl.out HRw.out (lt_of_heap HRb.out) HRo.out (Sr.nil _ _) (fun b e=>by cases e) (HC1.out.kept k6) (FrB.kept k6) _ _ _ _ _ _
  refine leaves_cons (f:=66) (args:=#[.pointer (some ⟨R,0,none⟩)]) (by simp) (by simp [go_sem]) ?_
  refine (catch_thrown R 9 [] HB6.out).mono ?_
  rintro e u' w'' ⟨rfl,rfl,rfl⟩
  exact ⟨_,results_cell_row rfl _ _ R 31 #[.int .i64 9,.int .i64 0,.int .i64 0,.bool false,.string ⟨#[]⟩,.slice none 0 0] (0,0) _ ht (block_res HB6.out _ _ _ _ _ _) Tryz.underlying31 rfl (by kernel_rfl),HE.out⟩
 refine wp_region_held_drew (S:=fun w'=>w'.cell? ⟨B,1,none⟩=some (.int .i64 c.core)∧w'.cell? ⟨B,8,none⟩=some (.slice p.a1 S.ino.length p.c1)∧w'.cell? ⟨B,9,none⟩=some (.slice p.a2 S.opn.length p.c2)∧w'.cell? ⟨B,10,none⟩=some (.slice p.a3 S.made.length p.c3)) (by kernel_rfl) ?_ (fun hHeld=>?_)
 · exact HS.out
 refine wpAnyH_take (i:=0) (v:=?vb0) rfl (by kernel_rfl) (by kernel_rfl) (by kernel_rfl) (fun _ _ _ h=>panAt_put (by decide) h) (Or.inl ⟨by rfl,?hyb0⟩) (by assumption) ?_
 case hyb0=>
  intro w hSw
  (try dsimp only at hSw)
  go_simp
  try with_reducible rfl
 try simp only [Act.put,lz0,lz1,lz2,lz3,lz4,lz5]
 refine wpAnyH_take (i:=1) (v:=?vb1) rfl (by kernel_rfl) (by kernel_rfl) (by kernel_rfl) (fun _ _ _ h=>panAt_put (by decide) h) (Or.inl ⟨by rfl,?hyb1⟩) (by assumption) ?_
 case hyb1=>
  intro w hSw
  (try dsimp only at hSw)
  go_simp
  try with_reducible rfl
 try simp only [Act.put,lz0,lz1,lz2,lz3,lz4,lz5]
 refine wpAnyH_take (i:=2) (v:=?vb2) rfl (by kernel_rfl) (by kernel_rfl) (by kernel_rfl) (fun _ _ _ h=>panAt_put (by decide) h) (Or.inl ⟨by rfl,?hyb2⟩) (by assumption) ?_
 case hyb2=>
  intro w hSw
  (try dsimp only at hSw)
  go_simp
  try with_reducible rfl
 try simp only [Act.put,lz0,lz1,lz2,lz3,lz4,lz5]
 refine wpAnyH_take (i:=3) (v:=?vb3) rfl (by kernel_rfl) (by kernel_rfl) (by kernel_rfl) (fun _ _ _ h=>panAt_put (by decide) h) (Or.inl ⟨by rfl,?hyb3⟩) (by assumption) ?_
 case hyb3=>
  intro w hSw
  (try dsimp only at hSw)
  go_simp
  try with_reducible rfl
 try simp only [Act.put,lz0,lz1,lz2,lz3,lz4,lz5]
 refine wpAnyH_ready (rs:=[4]) (by kernel_rfl) (by simp) ?_
 refine AllReadyH.cons rfl (fun K hK=>?_) AllReadyH.nil
 go_simp
 refine (HM.out _ (Kept.refl _ _).drew).mono ?_
 rintro e w4 ⟨rfl,k4⟩
 have z4:=s4e_kept hHeld k4
 have HK4:Hid (Kept [] W1 w4):=(Kept.refl _ _).drew.trans k4 (by simp)
 clear k4
 go_wp2_with fail
 refine hK.out _ _ ?_ (fun hHeld=>?_)
 · exact z4
 clear hK K
 try simp only [Act.put,lz0,lz1,lz2,lz3,lz4,lz5]
 refine wpAnyH_take (i:=5) (v:=?vb5) rfl (by kernel_rfl) (by kernel_rfl) (by kernel_rfl) (fun _ _ _ h=>panAt_put (by decide) h) (Or.inl ⟨by rfl,?hyb5⟩) (by assumption) ?_
 case hyb5=>
  intro w hSw
  (try dsimp only at hSw)
  go_simp
  try with_reducible rfl
 try simp only [Act.put,lz0,lz1,lz2,lz3,lz4,lz5]
 refine wpAnyH_take (i:=6) (v:=?vb6) rfl (by kernel_rfl) (by kernel_rfl) (by kernel_rfl) (fun _ _ _ h=>panAt_put (by decide) h) (Or.inl ⟨by rfl,?hyb6⟩) (by assumption) ?_
 case hyb6=>
  intro w hSw
  (try dsimp only at hSw)
  go_simp
  try with_reducible rfl
 try simp only [Act.put,lz0,lz1,lz2,lz3,lz4,lz5]
 refine wpAnyH_take (i:=7) (v:=?vb7) rfl (by kernel_rfl) (by kernel_rfl) (by kernel_rfl) (fun _ _ _ h=>panAt_put (by decide) h) (Or.inl ⟨by rfl,?hyb7⟩) (by assumption) ?_
 case hyb7=>
  intro w hSw
  (try dsimp only at hSw)
  go_simp
  try with_reducible rfl
 try simp only [Act.put,lz0,lz1,lz2,lz3,lz4,lz5]
 refine wpAnyH_take (i:=8) (v:=?vb8) rfl (by kernel_rfl) (by kernel_rfl) (by kernel_rfl) (fun _ _ _ h=>panAt_put (by decide) h) (Or.inl ⟨by rfl,?hyb8⟩) (by assumption) ?_
 case hyb8=>
  intro w hSw
  (try dsimp only at hSw)
  go_simp
  try with_reducible rfl
 try simp only [Act.put,lz0,lz1,lz2,lz3,lz4,lz5]
 refine wpAnyH_take (i:=9) (v:=?vb9) rfl (by kernel_rfl) (by kernel_rfl) (by kernel_rfl) (fun _ _ _ h=>panAt_put (by decide) h) (Or.inl ⟨by rfl,?hyb9⟩) (by assumption) ?_
 case hyb9=>
  intro w hSw
  (try dsimp only at hSw)
  go_simp
  try with_reducible rfl
 try simp only [Act.put,lz0,lz1,lz2,lz3,lz4,lz5]
 refine wpAnyH_take (i:=10) (v:=?vb10) rfl (by kernel_rfl) (by kernel_rfl) (by kernel_rfl) (fun _ _ _ h=>panAt_put (by decide) h) (Or.inl ⟨by rfl,?hyb10⟩) (by assumption) ?_
 case hyb10=>
  intro w hSw
  (try dsimp only at hSw)
  go_simp
  try with_reducible rfl
 try simp only [Act.put,lz0,lz1,lz2,lz3,lz4,lz5]
 refine wpAnyH_take (i:=11) (v:=?vb11) rfl (by kernel_rfl) (by kernel_rfl) (by kernel_rfl) (fun _ _ _ h=>panAt_put (by decide) h) (Or.inl ⟨by rfl,?hyb11⟩) (by assumption) ?_
 case hyb11=>
  intro w hSw
  (try dsimp only at hSw)
  go_simp
  try with_reducible rfl
 try simp only [Act.put,lz0,lz1,lz2,lz3,lz4,lz5]
 refine wpAnyH_take (i:=12) (v:=?vb12) rfl (by kernel_rfl) (by kernel_rfl) (by kernel_rfl) (fun _ _ _ h=>panAt_put (by decide) h) (Or.inl ⟨by rfl,?hyb12⟩) (by assumption) ?_
 case hyb12=>
  intro w hSw
  (try dsimp only at hSw)
  go_simp
  try with_reducible rfl
 try simp only [Act.put,lz0,lz1,lz2,lz3,lz4,lz5]
 refine wpAnyH_take (i:=13) (v:=?vb13) rfl (by kernel_rfl) (by kernel_rfl) (by kernel_rfl) (fun _ _ _ h=>panAt_put (by decide) h) (Or.inl ⟨by rfl,?hyb13⟩) (by assumption) ?_
 case hyb13=>
  intro w hSw
  (try dsimp only at hSw)
  go_simp
  try with_reducible rfl
 try simp only [Act.put,lz0,lz1,lz2,lz3,lz4,lz5]
 refine wpAnyH_take (i:=14) (v:=?vb14) rfl (by kernel_rfl) (by kernel_rfl) (by kernel_rfl) (fun _ _ _ h=>panAt_put (by decide) h) (Or.inl ⟨by rfl,?hyb14⟩) (by assumption) ?_
 case hyb14=>
  intro w hSw
  (try dsimp only at hSw)
  go_simp
  try with_reducible rfl
 try simp only [Act.put,lz0,lz1,lz2,lz3,lz4,lz5]
 refine wpAnyH_take (i:=15) (v:=undef) rfl (by kernel_rfl) (by kernel_rfl) (by kernel_rfl) (fun _ _ _ h=>panAt_put (by decide) h) (Or.inr ⟨by rfl,rfl⟩) (by assumption) ?_
 try simp only [Act.put,lz0,lz1,lz2,lz3,lz4,lz5]
 refine wpAnyH_take (i:=16) (v:=undef) rfl (by kernel_rfl) (by kernel_rfl) (by kernel_rfl) (fun _ _ _ h=>panAt_put (by decide) h) (Or.inr ⟨by rfl,rfl⟩) (by assumption) ?_
 try simp only [Act.put,lz0,lz1,lz2,lz3,lz4,lz5]
 refine wpAnyH_take (i:=17) (v:=undef) rfl (by kernel_rfl) (by kernel_rfl) (by kernel_rfl) (fun _ _ _ h=>panAt_put (by decide) h) (Or.inr ⟨by rfl,rfl⟩) (by assumption) ?_
 try simp only [Act.put,lz0,lz1,lz2,lz3,lz4,lz5]
 refine wpAnyH_take (i:=18) (v:=undef) rfl (by kernel_rfl) (by kernel_rfl) (by kernel_rfl) (fun _ _ _ h=>panAt_put (by decide) h) (Or.inr ⟨by rfl,rfl⟩) (by assumption) ?_
 try simp only [Act.put,lz0,lz1,lz2,lz3,lz4,lz5]
 refine wpAnyH_take (i:=19) (v:=undef) rfl (by kernel_rfl) (by kernel_rfl) (by kernel_rfl) (fun _ _ _ h=>panAt_put (by decide) h) (Or.inr ⟨by rfl,rfl⟩) (by assumption) ?_
 try simp only [Act.put,lz0,lz1,lz2,lz3,lz4,lz5]
 refine wpAnyH_take (i:=20) (v:=undef) rfl (by kernel_rfl) (by kernel_rfl) (by kernel_rfl) (fun _ _ _ h=>panAt_put (by decide) h) (Or.inr ⟨by rfl,rfl⟩) (by assumption) ?_
 try simp only [Act.put,lz0,lz1,lz2,lz3,lz4,lz5]
 refine wpAnyH_take (i:=21) (v:=undef) rfl (by kernel_rfl) (by kernel_rfl) (by kernel_rfl) (fun _ _ _ h=>panAt_put (by decide) h) (Or.inr ⟨by rfl,rfl⟩) (by assumption) ?_
 try simp only [Act.put,lz0,lz1,lz2,lz3,lz4,lz5]
 refine wpAnyH_take (i:=22) (v:=undef) rfl (by kernel_rfl) (by kernel_rfl) (by kernel_rfl) (fun _ _ _ h=>panAt_put (by decide) h) (Or.inr ⟨by rfl,rfl⟩) (by assumption) ?_
 try simp only [Act.put,lz0,lz1,lz2,lz3,lz4,lz5]
 refine wpAnyH_take (i:=23) (v:=undef) rfl (by kernel_rfl) (by kernel_rfl) (by kernel_rfl) (fun _ _ _ h=>panAt_put (by decide) h) (Or.inr ⟨by rfl,rfl⟩) (by assumption) ?_
 try simp only [Act.put,lz0,lz1,lz2,lz3,lz4,lz5]
 refine wpAnyH_take (i:=24) (v:=undef) rfl (by kernel_rfl) (by kernel_rfl) (by kernel_rfl) (fun _ _ _ h=>panAt_put (by decide) h) (Or.inr ⟨by rfl,rfl⟩) (by assumption) ?_
 try simp only [Act.put,lz0,lz1,lz2,lz3,lz4,lz5]
 refine wpAnyH_take (i:=25) (v:=undef) rfl (by kernel_rfl) (by kernel_rfl) (by kernel_rfl) (fun _ _ _ h=>panAt_put (by decide) h) (Or.inr ⟨by rfl,rfl⟩) (by assumption) ?_
 try simp only [Act.put,lz0,lz1,lz2,lz3,lz4,lz5]
 refine wpAnyH_take (i:=26) (v:=undef) rfl (by kernel_rfl) (by kernel_rfl) (by kernel_rfl) (fun _ _ _ h=>panAt_put (by decide) h) (Or.inr ⟨by rfl,rfl⟩) (by assumption) ?_
 try simp only [Act.put,lz0,lz1,lz2,lz3,lz4,lz5]
 refine wpAnyH_take (i:=27) (v:=?vb27) rfl (by kernel_rfl) (by kernel_rfl) (by kernel_rfl) (fun _ _ _ h=>panAt_put (by decide) h) (Or.inl ⟨by rfl,?hyb27⟩) (by assumption) ?_
 case hyb27=>
  intro w hSw
  (try dsimp only at hSw)
  go_simp
  try with_reducible rfl
 try simp only [Act.put,lz0,lz1,lz2,lz3,lz4,lz5]
 refine wpAnyH_ready (rs:=[28]) (by kernel_rfl) (by simp) ?_
 refine AllReadyH.cons rfl (fun K hK=>?_) AllReadyH.nil
 go_simp
 refine (p_if 9 (by decide) _).mono ?_
 rintro e w5 ⟨rfl,hw5⟩
 subst hw5
 exact ⟨rfl,rfl,rfl,HK4.out⟩
theorem p_caught_high {w0 w:World} {B:Nat} {c:Cal} {pk v1 v2 v3:Value} {ev:List Value} {S:Sta} (h:Cb w0 w B c pk v1 v2 v3 ev S) (hm:mayB S=true) (hc:(S.made.length:Int)≤c.core) :
  Calls Tryz.prog 38 #[.pointer (some ⟨B,0,none⟩)] w (Oks w0 w B c pk v1 v2 v3 ev (S,ansC 9)):=by
 obtain ⟨W1,R,HWR,HKR,HRb⟩:=boxR w #[.int .i64 0,.int .i64 0,.int .i64 0,.bool false,.string ⟨#[]⟩,.slice none 0 0] 31
 have hmf:∀ (fn:Fn) (first cap:Array Value) (w:World),(Instr.makeFunc fn first cap).run Tryz.prog w=.ok (.func fn first cap) w:=fun _ _ _ _=>rfl
 have HC1:Hid (Cb w0 W1 B c pk v1 v2 v3 ev S):=h.kept HKR.out
 have HRo:Hid (Off [R] v1 v2 v3 ev∧R≠B):=h.new (Nat.le_of_eq HWR.out.2)
 have HRw:Hid (w.heap.size≤R):=Nat.le_of_eq HWR.out.2
 have HRl:Hid (w0.heap.size≤R):=by have:=h.k.size;rw [← HWR.out.2];exact this
 obtain ⟨p,e1,e2,e3,hrd,f1,f3⟩:=HC1.out.rd
 have HM:Hid (∀ W,Kept [] W1 W→Calls Tryz.prog 19 #[.agg #[.slice p.a1 S.ino.length p.c1,.slice p.a2 S.opn.length p.c2,.slice p.a3 S.made.length p.c3]] W fun e w'=>e=.returned (.bool true)∧Kept [] W w'):=fun W hW=>by
  have:=p_may (hrd.sv.kept hW) (hrd.tab.kept hW) (fun x hx=>Nat.le_trans (h.bd.d1 x hx) (by omega))
  rw [hm] at this
  exact this
 have HS:Hid (W1.cell? ⟨B,1,none⟩=some (.int .i64 c.core)∧W1.cell? ⟨B,8,none⟩=some (.slice p.a1 S.ino.length p.c1)∧W1.cell? ⟨B,9,none⟩=some (.slice p.a2 S.opn.length p.c2)∧W1.cell? ⟨B,10,none⟩=some (.slice p.a3 S.made.length p.c3)):=⟨hrd.c1,hrd.c8,hrd.c9,hrd.c10⟩
 have t1:decide (c.core < 0)=false:=decide_eq_false (by omega)
 have t2:decide (c.core ≥ (S.made.length:Int))=true:=decide_eq_true hc
 have t3:decide ((S.made.length:Int)≤c.core)=true:=decide_eq_true hc
 have HKw:Hid (Kept [] w W1):=HKR.out
 clear h hm e1 e2 e3 f1 f3 hrd HKR
 go_enter_defers Tryz.func38,Tryz.ntmps38
 go_upto_region 2 with fail
 rw [HWR.out.1,HWR.out.2]
 clear HWR
 refine wp_panAt R 9 (fun w'=>Kept [] W1 w') ?_ ?_
 rotate_left
 ·
  intro tm w6 ht k6
  have HB6:Hid (w6.heap[R]?=_):=(k6.block _ (lt_of_heap HRb.out) (by simp)).trans HRb.out
  have HE:Hid (Oks w0 w B c pk v1 v2 v3 ev (S,ansC 9) (.returned (ansV (ansC 9) (.slice none 0 0))) (laidR w6 R (.int .i64 9) (.int .i64 0) (.int .i64 0) (.bool false) (.string ⟨#[]⟩) (.slice none 0 0))):=Oks.laid (A:=ansC 9) (z:=none) (l:=0) (k:=0) HKw.out HRl.out HRw.out (lt_of_heap HRb.out) HRo.out (Sr.nil _ _) (fun b e=>by cases e) (HC1.out.kept k6) (FrB.kept k6) _ _ _ _ _ _
  refine leaves_cons (f:=66) (args:=#[.pointer (some ⟨R,0,none⟩)]) (by simp) (by simp [go_sem]) ?_
  refine (catch_thrown R 9 [] HB6.out).mono ?_
  rintro e u' w'' ⟨rfl,rfl,rfl⟩
  exact ⟨_,results_cell_row rfl _ _ R 31 #[.int .i64 9,.int .i64 0,.int .i64 0,.bool false,.string ⟨#[]⟩,.slice none 0 0] (0,0) _ ht (block_res HB6.out _ _ _ _ _ _) Tryz.underlying31 rfl (by kernel_rfl),HE.out⟩
 refine wp_region_held_drew (S:=fun w'=>w'.cell? ⟨B,1,none⟩=some (.int .i64 c.core)∧w'.cell? ⟨B,8,none⟩=some (.slice p.a1 S.ino.length p.c1)∧w'.cell? ⟨B,9,none⟩=some (.slice p.a2 S.opn.length p.c2)∧w'.cell? ⟨B,10,none⟩=some (.slice p.a3 S.made.length p.c3)) (by kernel_rfl) ?_ (fun hHeld=>?_)
 · exact HS.out
 refine wpAnyH_take (i:=0) (v:=?vc0) rfl (by kernel_rfl) (by kernel_rfl) (by kernel_rfl) (fun _ _ _ h=>panAt_put (by decide) h) (Or.inl ⟨by rfl,?hyc0⟩) (by assumption) ?_
 case hyc0=>
  intro w hSw
  (try dsimp only at hSw)
  go_simp
  try with_reducible rfl
 try simp only [Act.put,lz0,lz1,lz2,lz3,lz4,lz5]
 refine wpAnyH_take (i:=1) (v:=?vc1) rfl (by kernel_rfl) (by kernel_rfl) (by kernel_rfl) (fun _ _ _ h=>panAt_put (by decide) h) (Or.inl ⟨by rfl,?hyc1⟩) (by assumption) ?_
 case hyc1=>
  intro w hSw
  (try dsimp only at hSw)
  go_simp
  try with_reducible rfl
 try simp only [Act.put,lz0,lz1,lz2,lz3,lz4,lz5]
 refine wpAnyH_take (i:=2) (v:=?vc2) rfl (by kernel_rfl) (by kernel_rfl) (by kernel_rfl) (fun _ _ _ h=>panAt_put (by decide) h) (Or.inl ⟨by rfl,?hyc2⟩) (by assumption) ?_
 case hyc2=>
  intro w hSw
  (try dsimp only at hSw)
  go_simp
  try with_reducible rfl
 try simp only [Act.put,lz0,lz1,lz2,lz3,lz4,lz5]
 refine wpAnyH_take (i:=3) (v:=?vc3) rfl (by kernel_rfl) (by kernel_rfl) (by kernel_rfl) (fun _ _ _ h=>panAt_put (by decide) h) (Or.inl ⟨by rfl,?hyc3⟩) (by assumption) ?_
 case hyc3=>
  intro w hSw
  (try dsimp only at hSw)
  go_simp
  try with_reducible rfl
 try simp only [Act.put,lz0,lz1,lz2,lz3,lz4,lz5]
 refine wpAnyH_ready (rs:=[4]) (by kernel_rfl) (by simp) ?_
 refine AllReadyH.cons rfl (fun K hK=>?_) AllReadyH.nil
 go_simp
 refine (HM.out _ (Kept.refl _ _).drew).mono ?_
 rintro e w4 ⟨rfl,k4⟩
 have z4:=s4e_kept hHeld k4
 have HK4:Hid (Kept [] W1 w4):=(Kept.refl _ _).drew.trans k4 (by simp)
 clear k4
 go_wp2_with fail
 refine hK.out _ _ ?_ (fun hHeld=>?_)
 · exact z4
 clear hK K
 try simp only [Act.put,lz0,lz1,lz2,lz3,lz4,lz5]
 refine wpAnyH_take (i:=5) (v:=?vc5) rfl (by kernel_rfl) (by kernel_rfl) (by kernel_rfl) (fun _ _ _ h=>panAt_put (by decide) h) (Or.inl ⟨by rfl,?hyc5⟩) (by assumption) ?_
 case hyc5=>
  intro w hSw
  (try dsimp only at hSw)
  go_simp
  try with_reducible rfl
 try simp only [Act.put,lz0,lz1,lz2,lz3,lz4,lz5]
 refine wpAnyH_take (i:=6) (v:=?vc6) rfl (by kernel_rfl) (by kernel_rfl) (by kernel_rfl) (fun _ _ _ h=>panAt_put (by decide) h) (Or.inl ⟨by rfl,?hyc6⟩) (by assumption) ?_
 case hyc6=>
  intro w hSw
  (try dsimp only at hSw)
  go_simp
  try with_reducible rfl
 try simp only [Act.put,lz0,lz1,lz2,lz3,lz4,lz5]
 refine wpAnyH_take (i:=7) (v:=?vc7) rfl (by kernel_rfl) (by kernel_rfl) (by kernel_rfl) (fun _ _ _ h=>panAt_put (by decide) h) (Or.inl ⟨by rfl,?hyc7⟩) (by assumption) ?_
 case hyc7=>
  intro w hSw
  (try dsimp only at hSw)
  go_simp
  try with_reducible rfl
 try simp only [Act.put,lz0,lz1,lz2,lz3,lz4,lz5]
 refine wpAnyH_take (i:=8) (v:=?vc8) rfl (by kernel_rfl) (by kernel_rfl) (by kernel_rfl) (fun _ _ _ h=>panAt_put (by decide) h) (Or.inl ⟨by rfl,?hyc8⟩) (by assumption) ?_
 case hyc8=>
  intro w hSw
  (try dsimp only at hSw)
  go_simp
  try with_reducible rfl
 try simp only [Act.put,lz0,lz1,lz2,lz3,lz4,lz5]
 refine wpAnyH_take (i:=9) (v:=?vc9) rfl (by kernel_rfl) (by kernel_rfl) (by kernel_rfl) (fun _ _ _ h=>panAt_put (by decide) h) (Or.inl ⟨by rfl,?hyc9⟩) (by assumption) ?_
 case hyc9=>
  intro w hSw
  (try dsimp only at hSw)
  go_simp
  try with_reducible rfl
 try simp only [Act.put,lz0,lz1,lz2,lz3,lz4,lz5]
 refine wpAnyH_take (i:=10) (v:=?vc10) rfl (by kernel_rfl) (by kernel_rfl) (by kernel_rfl) (fun _ _ _ h=>panAt_put (by decide) h) (Or.inl ⟨by rfl,?hyc10⟩) (by assumption) ?_
 case hyc10=>
  intro w hSw
  (try dsimp only at hSw)
  go_simp
  try with_reducible rfl
 try simp only [Act.put,lz0,lz1,lz2,lz3,lz4,lz5]
 refine wpAnyH_take (i:=11) (v:=?vc11) rfl (by kernel_rfl) (by kernel_rfl) (by kernel_rfl) (fun _ _ _ h=>panAt_put (by decide) h) (Or.inl ⟨by rfl,?hyc11⟩) (by assumption) ?_
 case hyc11=>
  intro w hSw
  (try dsimp only at hSw)
  go_simp
  try with_reducible rfl
 try simp only [Act.put,lz0,lz1,lz2,lz3,lz4,lz5]
 refine wpAnyH_take (i:=12) (v:=?vc12) rfl (by kernel_rfl) (by kernel_rfl) (by kernel_rfl) (fun _ _ _ h=>panAt_put (by decide) h) (Or.inl ⟨by rfl,?hyc12⟩) (by assumption) ?_
 case hyc12=>
  intro w hSw
  (try dsimp only at hSw)
  go_simp
  try with_reducible rfl
 try simp only [Act.put,lz0,lz1,lz2,lz3,lz4,lz5]
 refine wpAnyH_take (i:=13) (v:=?vc13) rfl (by kernel_rfl) (by kernel_rfl) (by kernel_rfl) (fun _ _ _ h=>panAt_put (by decide) h) (Or.inl ⟨by rfl,?hyc13⟩) (by assumption) ?_
 case hyc13=>
  intro w hSw
  (try dsimp only at hSw)
  go_simp
  try with_reducible rfl
 try simp only [Act.put,lz0,lz1,lz2,lz3,lz4,lz5]
 refine wpAnyH_take (i:=14) (v:=?vc14) rfl (by kernel_rfl) (by kernel_rfl) (by kernel_rfl) (fun _ _ _ h=>panAt_put (by decide) h) (Or.inl ⟨by rfl,?hyc14⟩) (by assumption) ?_
 case hyc14=>
  intro w hSw
  (try dsimp only at hSw)
  go_simp
  try with_reducible rfl
 try simp only [Act.put,lz0,lz1,lz2,lz3,lz4,lz5]
 refine wpAnyH_take (i:=15) (v:=?vc15) rfl (by kernel_rfl) (by kernel_rfl) (by kernel_rfl) (fun _ _ _ h=>panAt_put (by decide) h) (Or.inl ⟨by rfl,?hyc15⟩) (by assumption) ?_
 case hyc15=>
  intro w hSw
  (try dsimp only at hSw)
  go_simp
  try with_reducible rfl
 try simp only [Act.put,lz0,lz1,lz2,lz3,lz4,lz5]
 refine wpAnyH_take (i:=16) (v:=?vc16) rfl (by kernel_rfl) (by kernel_rfl) (by kernel_rfl) (fun _ _ _ h=>panAt_put (by decide) h) (Or.inl ⟨by rfl,?hyc16⟩) (by assumption) ?_
 case hyc16=>
  intro w hSw
  (try dsimp only at hSw)
  go_simp
  try with_reducible rfl
 try simp only [Act.put,lz0,lz1,lz2,lz3,lz4,lz5]
 refine wpAnyH_take (i:=17) (v:=?vc17) rfl (by kernel_rfl) (by kernel_rfl) (by kernel_rfl) (fun _ _ _ h=>panAt_put (by decide) h) (Or.inl ⟨by rfl,?hyc17⟩) (by assumption) ?_
 case hyc17=>
  intro w hSw
  (try dsimp only at hSw)
  go_simp
  try with_reducible rfl
 try simp only [Act.put,lz0,lz1,lz2,lz3,lz4,lz5]
 refine wpAnyH_take (i:=18) (v:=?vc18) rfl (by kernel_rfl) (by kernel_rfl) (by kernel_rfl) (fun _ _ _ h=>panAt_put (by decide) h) (Or.inl ⟨by rfl,?hyc18⟩) (by assumption) ?_
 case hyc18=>
  intro w hSw
  (try dsimp only at hSw)
  go_simp
  try with_reducible rfl
 try simp only [Act.put,lz0,lz1,lz2,lz3,lz4,lz5]
 refine wpAnyH_take (i:=19) (v:=?vc19) rfl (by kernel_rfl) (by kernel_rfl) (by kernel_rfl) (fun _ _ _ h=>panAt_put (by decide) h) (Or.inl ⟨by rfl,?hyc19⟩) (by assumption) ?_
 case hyc19=>
  intro w hSw
  (try dsimp only at hSw)
  go_simp
  try with_reducible rfl
 try simp only [Act.put,lz0,lz1,lz2,lz3,lz4,lz5]
 refine wpAnyH_take (i:=20) (v:=?vc20) rfl (by kernel_rfl) (by kernel_rfl) (by kernel_rfl) (fun _ _ _ h=>panAt_put (by decide) h) (Or.inl ⟨by rfl,?hyc20⟩) (by assumption) ?_
 case hyc20=>
  intro w hSw
  (try dsimp only at hSw)
  go_simp
  try with_reducible rfl
 try simp only [Act.put,lz0,lz1,lz2,lz3,lz4,lz5]
 refine wpAnyH_take (i:=21) (v:=?vc21) rfl (by kernel_rfl) (by kernel_rfl) (by kernel_rfl) (fun _ _ _ h=>panAt_put (by decide) h) (Or.inl ⟨by rfl,?hyc21⟩) (by assumption) ?_
 case hyc21=>
  intro w hSw
  (try dsimp only at hSw)
  go_simp
  try with_reducible rfl
 try simp only [Act.put,lz0,lz1,lz2,lz3,lz4,lz5]
 refine wpAnyH_take (i:=22) (v:=?vc22) rfl (by kernel_rfl) (by kernel_rfl) (by kernel_rfl) (fun _ _ _ h=>panAt_put (by decide) h) (Or.inl ⟨by rfl,?hyc22⟩) (by assumption) ?_
 case hyc22=>
  intro w hSw
  (try dsimp only at hSw)
  go_simp
  try with_reducible rfl
 try simp only [Act.put,lz0,lz1,lz2,lz3,lz4,lz5]
 refine wpAnyH_take (i:=23) (v:=?vc23) rfl (by kernel_rfl) (by kernel_rfl) (by kernel_rfl) (fun _ _ _ h=>panAt_put (by decide) h) (Or.inl ⟨by rfl,?hyc23⟩) (by assumption) ?_
 case hyc23=>
  intro w hSw
  (try dsimp only at hSw)
  go_simp
  try with_reducible rfl
 try simp only [Act.put,lz0,lz1,lz2,lz3,lz4,lz5]
 refine wpAnyH_take (i:=24) (v:=?vc24) rfl (by kernel_rfl) (by kernel_rfl) (by kernel_rfl) (fun _ _ _ h=>panAt_put (by decide) h) (Or.inl ⟨by rfl,?hyc24⟩) (by assumption) ?_
 case hyc24=>
  intro w hSw
  (try dsimp only at hSw)
  go_simp
  try with_reducible rfl
 try simp only [Act.put,lz0,lz1,lz2,lz3,lz4,lz5]
 refine wpAnyH_take (i:=25) (v:=?vc25) rfl (by kernel_rfl) (by kernel_rfl) (by kernel_rfl) (fun _ _ _ h=>panAt_put (by decide) h) (Or.inl ⟨by rfl,?hyc25⟩) (by assumption) ?_
 case hyc25=>
  intro w hSw
  (try dsimp only at hSw)
  go_simp
  try with_reducible rfl
 try simp only [Act.put,lz0,lz1,lz2,lz3,lz4,lz5]
 refine wpAnyH_take (i:=26) (v:=?vc26) rfl (by kernel_rfl) (by kernel_rfl) (by kernel_rfl) (fun _ _ _ h=>panAt_put (by decide) h) (Or.inl ⟨by rfl,?hyc26⟩) (by assumption) ?_
 case hyc26=>
  intro w hSw
  (try dsimp only at hSw)
  go_simp
  try with_reducible rfl
 try simp only [Act.put,lz0,lz1,lz2,lz3,lz4,lz5]
 refine wpAnyH_take (i:=27) (v:=?vc27) rfl (by kernel_rfl) (by kernel_rfl) (by kernel_rfl) (fun _ _ _ h=>panAt_put (by decide) h) (Or.inl ⟨by rfl,?hyc27⟩) (by assumption) ?_
 case hyc27=>
  intro w hSw
  (try dsimp only at hSw)
  go_simp
  try with_reducible rfl
 try simp only [Act.put,lz0,lz1,lz2,lz3,lz4,lz5]
 refine wpAnyH_ready (rs:=[28]) (by kernel_rfl) (by simp) ?_
 refine AllReadyH.cons rfl (fun K hK=>?_) AllReadyH.nil
 go_simp
 refine (p_if 9 (by decide) _).mono ?_
 rintro e w5 ⟨rfl,hw5⟩
 subst hw5
 exact ⟨rfl,rfl,rfl,HK4.out⟩
end Go.Proofs.YtffncojcnbhblaaGreatDoor
