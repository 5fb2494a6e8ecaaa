/-
  Joined of my texts Pd Al Aw2.
-/
import Derived.Test.YtmeafancgmkfkaaGreatDoorJf37
import Derived.Test.YtmeafancgmkfkaaGreatDoorJf39
import Derived.Test.YtmeafancgmkfkaaGreatDoorJf40
import Derived.Test.YtmeafancgmkfkaaGreatDoorJf41
namespace Go.Proofs.YtmeafancgmkfkaaGreatDoor
open Go.RowKit
set_option linter.unusedVariables false
set_option linter.unusedSimpArgs false
def doR (S : Sta) (c : Cal) (pick : List Int → Int) : Except Int (Sta × Ans) :=
 if c.kind = 0 then createR S c c.core.toNat false else
 if c.kind = 1 then createR S c c.core.toNat true else
 if c.kind = 2 then openR S c pick else
 if c.kind = 3 then closeR S c else
 if c.kind = 4 then readR S c else
 if c.kind = 5 then writeR S c else
 if c.kind = 6 then truncR S c else
 if c.kind = 7 then sizeR S c else
 if c.kind = 8 then linkR S c else
 if c.kind = 9 then unlinkR S c else
 if c.kind = 10 then rmdirR S c else
 if c.kind = 11 then renameR S c else
 if c.kind = 12 then listR S c else
 if c.kind = 13 then statR S c else
 if c.kind = 14 then linksC S c else
 if c.kind = 15 then fsyncR S c else
 if c.kind = 16 then .ok (S, ansC 0) else
 .ok (S, ansC 9)
def playR (S : Sta) (c : Cal) (pick : List Int → Int) : Sta × Ans :=
 if mayB S = true ∧ 0 ≤ c.core ∧ c.core < (S.made.length : Int) then ansR S (doR S c pick) else (S, ansC 9)
theorem d_least {w0 w : World} {B : Nat} {c : Cal} {v1 v2 v3 : Value} {ev : List Value} {S : Sta} (h : Cb w0 w B c (.func (.func 21) #[] #[]) v1 v2 v3 ev S) (hw : Wel S) (h0 : 0 ≤ c.core) (h1 : c.core < (S.made.length : Int)) (hz : c.data.size ≤ 9223372036854775807) :
   Calls Tryz.prog 58 #[.pointer (some ⟨B, 0, none⟩)] w (Out w0 w B c (.func (.func 21) #[] #[]) v1 v2 v3 ev S (doR S c headI)) := by
 unfold doR
 by_cases e0 : c.kind = 0
 · rw [if_pos e0]
   exact do_create h e0 fun W hC => k_create hC hw (i := c.core.toNat) (by omega) (by omega) false
 rw [if_neg e0]
 by_cases e1 : c.kind = 1
 · rw [if_pos e1]
   exact do_mkdir h e1 fun W hC => k_create hC hw (i := c.core.toNat) (by omega) (by omega) true
 rw [if_neg e1]
 by_cases e2 : c.kind = 2
 · rw [if_pos e2]
   exact do_open h e2 fun W hC => k_least hC hw
 rw [if_neg e2]
 by_cases e3 : c.kind = 3
 · rw [if_pos e3]
   exact do_close h e3 fun W hC => k_close hC hw
 rw [if_neg e3]
 by_cases e4 : c.kind = 4
 · rw [if_pos e4]
   exact do_read h e4 fun W hC => k_read hC hw
 rw [if_neg e4]
 by_cases e5 : c.kind = 5
 · rw [if_pos e5]
   exact do_write h e5 fun W hC => k_write hC hw hz
 rw [if_neg e5]
 by_cases e6 : c.kind = 6
 · rw [if_pos e6]
   exact do_truncate h e6 fun W hC => k_trunc hC hw
 rw [if_neg e6]
 by_cases e7 : c.kind = 7
 · rw [if_pos e7]
   exact do_size h e7 fun W hC => k_size hC hw
 rw [if_neg e7]
 by_cases e8 : c.kind = 8
 · rw [if_pos e8]
   exact do_link h e8 fun W hC => k_link hC hw
 rw [if_neg e8]
 by_cases e9 : c.kind = 9
 · rw [if_pos e9]
   exact do_unlink h e9 fun W hC => k_unlink hC hw
 rw [if_neg e9]
 by_cases e10 : c.kind = 10
 · rw [if_pos e10]
   exact do_rmdir h e10 fun W hC => k_rmdir hC hw
 rw [if_neg e10]
 by_cases e11 : c.kind = 11
 · rw [if_pos e11]
   exact do_rename h e11 fun W hC => k_rename hC hw
 rw [if_neg e11]
 by_cases e12 : c.kind = 12
 · rw [if_pos e12]
   exact do_list h e12 fun W hC => k_list hC hw
 rw [if_neg e12]
 by_cases e13 : c.kind = 13
 · rw [if_pos e13]
   exact do_stat h e13 fun W hC => k_stat hC hw
 rw [if_neg e13]
 by_cases e14 : c.kind = 14
 · rw [if_pos e14]
   exact do_links h e14 fun W hC => k_links hC hw
 rw [if_neg e14]
 by_cases e15 : c.kind = 15
 · rw [if_pos e15]
   exact do_fsync h e15 fun W hC => k_fsync hC hw
 rw [if_neg e15]
 by_cases e16 : c.kind = 16
 · rw [if_pos e16]
   exact do_sync h e16
 rw [if_neg e16]
 exact do_none h (by omega)
theorem c_least {w0 w : World} {B : Nat} {c : Cal} {v1 v2 v3 : Value} {ev : List Value} {S : Sta} (h : Cb w0 w B c (.func (.func 21) #[] #[]) v1 v2 v3 ev S) (hz : c.data.size ≤ 9223372036854775807) :
   Calls Tryz.prog 36 #[.pointer (some ⟨B, 0, none⟩)] w (Oks w0 w B c (.func (.func 21) #[] #[]) v1 v2 v3 ev (playR S c headI)) := by
 unfold playR
 rcases hm : mayB S with _ | _
 · rw [if_neg (by simp)]
   exact p_caught_may h hm
 by_cases h0 : 0 ≤ c.core
 · by_cases h1 : c.core < (S.made.length : Int)
   · rw [if_pos ⟨rfl, h0, h1⟩]
     exact p_caught h hm (i := c.core.toNat) (by omega) (by omega) fun W hC => d_least hC (wel_of hm) h0 h1 hz
   · rw [if_neg (fun x => h1 x.2.2)]
     exact p_caught_high h hm (by omega)
 · rw [if_neg (fun x => h0 x.2.1)]
   exact p_caught_low h hm (by omega)
theorem d_told {w0 w : World} {X : Nat} {B : Nat} {c : Cal} {v1 v2 v3 : Value} {ev : List Value} {S : Sta} (h : Cb w0 w B c (.func (.func 23) #[] #[.pointer (some ⟨X, 0, none⟩)]) v1 v2 v3 ev S) (hw : Wel S) (h0 : 0 ≤ c.core) (h1 : c.core < (S.made.length : Int)) (hz : c.data.size ≤ 9223372036854775807) {z : Int} (hX : w0.cell? ⟨X, 1, none⟩ = some (.int .i64 z)) :
   Calls Tryz.prog 58 #[.pointer (some ⟨B, 0, none⟩)] w (Out w0 w B c (.func (.func 23) #[] #[.pointer (some ⟨X, 0, none⟩)]) v1 v2 v3 ev S (doR S c (fun xs => toldI xs z))) := by
 unfold doR
 by_cases e0 : c.kind = 0
 · rw [if_pos e0]
   exact do_create h e0 fun W hC => k_create hC hw (i := c.core.toNat) (by omega) (by omega) false
 rw [if_neg e0]
 by_cases e1 : c.kind = 1
 · rw [if_pos e1]
   exact do_mkdir h e1 fun W hC => k_create hC hw (i := c.core.toNat) (by omega) (by omega) true
 rw [if_neg e1]
 by_cases e2 : c.kind = 2
 · rw [if_pos e2]
   exact do_open h e2 fun W hC => k_told hC hw hX
 rw [if_neg e2]
 by_cases e3 : c.kind = 3
 · rw [if_pos e3]
   exact do_close h e3 fun W hC => k_close hC hw
 rw [if_neg e3]
 by_cases e4 : c.kind = 4
 · rw [if_pos e4]
   exact do_read h e4 fun W hC => k_read hC hw
 rw [if_neg e4]
 by_cases e5 : c.kind = 5
 · rw [if_pos e5]
   exact do_write h e5 fun W hC => k_write hC hw hz
 rw [if_neg e5]
 by_cases e6 : c.kind = 6
 · rw [if_pos e6]
   exact do_truncate h e6 fun W hC => k_trunc hC hw
 rw [if_neg e6]
 by_cases e7 : c.kind = 7
 · rw [if_pos e7]
   exact do_size h e7 fun W hC => k_size hC hw
 rw [if_neg e7]
 by_cases e8 : c.kind = 8
 · rw [if_pos e8]
   exact do_link h e8 fun W hC => k_link hC hw
 rw [if_neg e8]
 by_cases e9 : c.kind = 9
 · rw [if_pos e9]
   exact do_unlink h e9 fun W hC => k_unlink hC hw
 rw [if_neg e9]
 by_cases e10 : c.kind = 10
 · rw [if_pos e10]
   exact do_rmdir h e10 fun W hC => k_rmdir hC hw
 rw [if_neg e10]
 by_cases e11 : c.kind = 11
 · rw [if_pos e11]
   exact do_rename h e11 fun W hC => k_rename hC hw
 rw [if_neg e11]
 by_cases e12 : c.kind = 12
 · rw [if_pos e12]
   exact do_list h e12 fun W hC => k_list hC hw
 rw [if_neg e12]
 by_cases e13 : c.kind = 13
 · rw [if_pos e13]
   exact do_stat h e13 fun W hC => k_stat hC hw
 rw [if_neg e13]
 by_cases e14 : c.kind = 14
 · rw [if_pos e14]
   exact do_links h e14 fun W hC => k_links hC hw
 rw [if_neg e14]
 by_cases e15 : c.kind = 15
 · rw [if_pos e15]
   exact do_fsync h e15 fun W hC => k_fsync hC hw
 rw [if_neg e15]
 by_cases e16 : c.kind = 16
 · rw [if_pos e16]
   exact do_sync h e16
 rw [if_neg e16]
 exact do_none h (by omega)
theorem c_told {w0 w : World} {X : Nat} {B : Nat} {c : Cal} {v1 v2 v3 : Value} {ev : List Value} {S : Sta} (h : Cb w0 w B c (.func (.func 23) #[] #[.pointer (some ⟨X, 0, none⟩)]) v1 v2 v3 ev S) (hz : c.data.size ≤ 9223372036854775807) {z : Int} (hX : w0.cell? ⟨X, 1, none⟩ = some (.int .i64 z)) :
   Calls Tryz.prog 36 #[.pointer (some ⟨B, 0, none⟩)] w (Oks w0 w B c (.func (.func 23) #[] #[.pointer (some ⟨X, 0, none⟩)]) v1 v2 v3 ev (playR S c (fun xs => toldI xs z))) := by
 unfold playR
 rcases hm : mayB S with _ | _
 · rw [if_neg (by simp)]
   exact p_caught_may h hm
 by_cases h0 : 0 ≤ c.core
 · by_cases h1 : c.core < (S.made.length : Int)
   · rw [if_pos ⟨rfl, h0, h1⟩]
     exact p_caught h hm (i := c.core.toNat) (by omega) (by omega) fun W hC => d_told hC (wel_of hm) h0 h1 hz hX
   · rw [if_neg (fun x => h1 x.2.2)]
     exact p_caught_high h hm (by omega)
 · rw [if_neg (fun x => h0 x.2.1)]
   exact p_caught_low h hm (by omega)
theorem plays_on {w W1 W7 : World} {X : Nat} {v1 v2 v3 : Value} {eu : List Value} {S' : Sta} {A : Ans} {z : Option Addr} {l k : Nat} (kk : Kept [] w W1) (ho : Os W7 W1.heap.size v1 v2 v3 eu S') (k7 : Kept [] W1 W7) (hb : Bd S') (hX : w.heap.size = X) (hs : W1.heap.size = X + 1 + 1 + 1 + 1) (hsr : Sr W7 W1.heap.size (.slice z l k) A.names) (hof : ∀ b, (Value.slice z l k).ownBlock = some b → Off [b] v1 v2 v3 eu) (a1 a2 a3 a4 a5 a6 : Value) :
   Plays w (S', A) (.returned (.tuple #[.agg #[v1, v2, v3], ansV A (.slice z l k)])) (laidR (laidS W7 (X + 1 + 1) v1 v2 v3) (X + 1 + 1 + 1) a1 a2 a3 a4 a5 a6) := by
 refine ⟨v1, v2, v3, eu, z, l, k, rfl, Os.less ((ho.sta (by omega) v1 v2 v3).res (by omega) a1 a2 a3 a4 a5 a6) kk.size, ?_, hof, kept_res (kept_sta (kk.trans k7 (by simp)) (by omega) v1 v2 v3) (by omega) a1 a2 a3 a4 a5 a6, hb⟩
 refine (hsr.same fun q hq => ?_).less kk.size
 have := (hsr.block q hq).1
 rw [res_other (by omega), sta_other (by omega)]
set_option maxRecDepth 100000 in
set_option maxHeartbeats 8000000 in
theorem p_Do {w : World} {p : Pl} {S : Sta} (h : Sv w p S) (hT : Tab w) (hb : Bd S) (c : Cal) (hz : c.data.size ≤ 9223372036854775807) :
   Calls Tryz.prog 8 #[sval p S, calV c] w (Plays w (playR S c headI)) := by
 obtain ⟨W1, X, HW, HKW, HBx⟩ := boxes4 w #[.slice p.a1 S.ino.length p.c1, .slice p.a2 S.opn.length p.c2, .slice p.a3 S.made.length p.c3] #[.int .i64 c.kind, .int .i64 c.core, .int .i64 c.fd, .int .i64 c.off, .int .i64 c.num, .string c.path, .string c.path2, .string c.data] #[.slice none 0 0, .slice none 0 0, .slice none 0 0] #[.int .i64 0, .int .i64 0, .int .i64 0, .bool false, .string ⟨#[]⟩, .slice none 0 0] 26 28 26 32
 have HPl : Hid (Calls Tryz.prog 22 #[.agg #[.slice p.a1 S.ino.length p.c1, .slice p.a2 S.opn.length p.c2, .slice p.a3 S.made.length p.c3], .agg #[.int .i64 c.kind, .int .i64 c.core, .int .i64 c.fd, .int .i64 c.off, .int .i64 c.num, .string c.path, .string c.path2, .string c.data], .func (.func 21) #[] #[]] W1 (Plays W1 (playR S c headI))) :=
   p_play (h.kept HKW.out) (hT.kept HKW.out) hb c _ _ _ fun w0 W B v1 v2 v3 ev _ hC => c_least hC hz
 have hb0 := HBx.out.1
 have hb1 := HBx.out.2.1
 have x0 : W1.cell? ⟨X, 0, none⟩ = some (.slice p.a1 S.ino.length p.c1) := cellB hb0
 have x1 : W1.cell? ⟨X, 1, none⟩ = some (.slice p.a2 S.opn.length p.c2) := cellB hb0
 have x2 : W1.cell? ⟨X, 2, none⟩ = some (.slice p.a3 S.made.length p.c3) := cellB hb0
 have y0 : W1.cell? ⟨X + 1, 0, none⟩ = some (.int .i64 c.kind) := cellB hb1
 have y1 : W1.cell? ⟨X + 1, 1, none⟩ = some (.int .i64 c.core) := cellB hb1
 have y2 : W1.cell? ⟨X + 1, 2, none⟩ = some (.int .i64 c.fd) := cellB hb1
 have y3 : W1.cell? ⟨X + 1, 3, none⟩ = some (.int .i64 c.off) := cellB hb1
 have y4 : W1.cell? ⟨X + 1, 4, none⟩ = some (.int .i64 c.num) := cellB hb1
 have y5 : W1.cell? ⟨X + 1, 5, none⟩ = some (.string c.path) := cellB hb1
 have y6 : W1.cell? ⟨X + 1, 6, none⟩ = some (.string c.path2) := cellB hb1
 have y7 : W1.cell? ⟨X + 1, 7, none⟩ = some (.string c.data) := cellB hb1
 clear h hT hb hb0 hb1
 go_enter Tryz.func8, Tryz.ntmps8
 go_upto_region 1 with fail
 rw [HW.out.1, HW.out.2]
 go_wp2_with fail
 refine HPl.out.mono ?_
 rintro e w6 ⟨u1, u2, u3, eu, y, l, k, rfl, ho, hsr, hof, k6, hbd⟩
 obtain ⟨x, hx⟩ : ∃ x, playR S c headI = x := ⟨_, rfl⟩
 rw [hx] at ho hsr hbd ⊢
 have HX : Hid (_) := hx
 clear hx
 obtain ⟨S', a, b, n, d, t, ns⟩ := x
 dsimp only at ho hsr hbd
 obtain ⟨e1, f1, hu1, -⟩ := row_form ho.ino
 obtain ⟨e2, f2, hu2, -⟩ := row_form ho.opn
 obtain ⟨e3, f3, hu3, -⟩ := row_form ho.mad
 subst hu1 hu2 hu3
 have hb2 : w6.heap[X + 1 + 1]? = some (.cells #[.slice none 0 0, .slice none 0 0, .slice none 0 0] 26 (0, 0)) := (k6.block _ (lt_of_heap HBx.out.2.2.1) (by simp)).trans HBx.out.2.2.1
 have hb3 : w6.heap[X + 1 + 1 + 1]? = some (.cells #[.int .i64 0, .int .i64 0, .int .i64 0, .bool false, .string ⟨#[]⟩, .slice none 0 0] 32 (0, 0)) := (k6.block _ (lt_of_heap HBx.out.2.2.2.1) (by simp)).trans HBx.out.2.2.2.1
 have HE : Hid (Plays w (S', ⟨a, b, n, d, t, ns⟩) (.returned (.tuple #[.agg #[.slice e1 S'.ino.length f1, .slice e2 S'.opn.length f2, .slice e3 S'.made.length f3], .agg #[.int .i64 a, .int .i64 b, .int .i64 n, .bool d, .string t, .slice y l k]])) (laidR (laidS w6 (X + 1 + 1) (.slice e1 S'.ino.length f1) (.slice e2 S'.opn.length f2) (.slice e3 S'.made.length f3)) (X + 1 + 1 + 1) (.int .i64 a) (.int .i64 b) (.int .i64 n) (.bool d) (.string t) (.slice y l k))) :=
   plays_on (A := ⟨a, b, n, d, t, ns⟩) HKW.out ho k6 hbd HW.out.2 HBx.out.2.2.2.2 hsr hof _ _ _ _ _ _
 have HB2 : Hid (_) := hb2
 have HB3 : Hid (_) := hb3
 have z0 := frozen_of hb2 0
 have g0 : w6.cell? ⟨X + 1 + 1, 0, none⟩ = some (.slice none 0 0) := cellB hb2
 have z1 := frozen_of hb2 1
 have g1 : w6.cell? ⟨X + 1 + 1, 1, none⟩ = some (.slice none 0 0) := cellB hb2
 have z2 := frozen_of hb2 2
 have g2 : w6.cell? ⟨X + 1 + 1, 2, none⟩ = some (.slice none 0 0) := cellB hb2
 have t0 := frozen_of hb3 0
 have r0 : w6.cell? ⟨X + 1 + 1 + 1, 0, none⟩ = some (.int .i64 0) := cellB hb3
 have t1 := frozen_of hb3 1
 have r1 : w6.cell? ⟨X + 1 + 1 + 1, 1, none⟩ = some (.int .i64 0) := cellB hb3
 have t2 := frozen_of hb3 2
 have r2 : w6.cell? ⟨X + 1 + 1 + 1, 2, none⟩ = some (.int .i64 0) := cellB hb3
 have t3 := frozen_of hb3 3
 have r3 : w6.cell? ⟨X + 1 + 1 + 1, 3, none⟩ = some (.bool false) := cellB hb3
 have t4 := frozen_of hb3 4
 have r4 : w6.cell? ⟨X + 1 + 1 + 1, 4, none⟩ = some (.string ⟨#[]⟩) := cellB hb3
 have t5 := frozen_of hb3 5
 have r5 : w6.cell? ⟨X + 1 + 1 + 1, 5, none⟩ = some (.slice none 0 0) := cellB hb3
 clear ho hsr hof hbd k6 hb2 hb3 HPl x0 x1 x2 y0 y1 y2 y3 y4 y5 y6 y7
 dsimp only [ansV]
 go_wp2_with fail
 obtain ⟨W8, hW8⟩ : ∃ W8, laidR (laidS w6 (X + 1 + 1) (.slice e1 S'.ino.length f1) (.slice e2 S'.opn.length f2) (.slice e3 S'.made.length f3)) (X + 1 + 1 + 1) (.int .i64 a) (.int .i64 b) (.int .i64 n) (.bool d) (.string t) (.slice y l k) = W8 := ⟨_, rfl⟩
 have HBS : Hid (W8.heap[X + 1 + 1]? = some (.cells #[.slice e1 S'.ino.length f1, .slice e2 S'.opn.length f2, .slice e3 S'.made.length f3] 26 (0, 0))) := by
   rw [← hW8, res_other (by omega)]; exact block_sta HB2.out _ _ _
 have HBR : Hid (W8.heap[X + 1 + 1 + 1]? = some (.cells #[.int .i64 a, .int .i64 b, .int .i64 n, .bool d, .string t, .slice y l k] 32 (0, 0))) := by
   rw [← hW8]; exact block_res ((sta_other (by omega)).trans HB3.out) _ _ _ _ _ _
 rw [hW8] at HE
 unfold laidR laidS at hW8
 rw [hW8]
 clear hW8
 (try simp only [Exit.inBlock, Exit.then])
 refine bodyPost_ret (results_two rfl _ _ (X + 1 + 1) (X + 1 + 1 + 1) 26 32 #[.slice e1 S'.ino.length f1, .slice e2 S'.opn.length f2, .slice e3 S'.made.length f3] #[.int .i64 a, .int .i64 b, .int .i64 n, .bool d, .string t, .slice y l k] (0, 0) _ _ rfl rfl HBS.out HBR.out Tryz.underlying26 rfl (by kernel_rfl) Tryz.underlying32 rfl (by kernel_rfl)) rfl ?_
 rw [HX.out]
 exact HE.out
end Go.Proofs.YtmeafancgmkfkaaGreatDoor

namespace Go.Proofs.YtmeafancgmkfkaaGreatDoor
open Go.RowKit
set_option linter.unusedVariables false
set_option linter.unusedSimpArgs false
def sameA (a b : Ans) : Bool := a.code == b.code && a.fd == b.fd && a.num == b.num && a.dir == b.dir && a.data.toList == b.data.toList && decide (a.names = b.names)
theorem boxes2 (w : World) (c1 c2 : Array Value) (t1 t2 : TypeId) : ∃ W X, Hid ((w.alloc (.cells c1 t1 (0, 0))).alloc (.cells c2 t2 (0, 0)) = W ∧ w.heap.size = X) ∧ Hid (Kept [] w W) ∧ Hid (W.heap[X]? = some (.cells c1 t1 (0, 0)) ∧ W.heap[X + 1]? = some (.cells c2 t2 (0, 0)) ∧ W.heap.size = X + 1 + 1) := by
 have s1 : (w.alloc (.cells c1 t1 (0, 0))).heap.size = w.heap.size + 1 := by simp
 refine ⟨_, _, ⟨rfl, rfl⟩, ((Kept.refl [] w).alloc _).alloc _, ?_, ?_, by simp⟩
 · rw [Below.heap_alloc _ _ _ (by omega)]
   exact Go.heap_alloc_new _ _
 · have := Go.heap_alloc_new (w.alloc (.cells c1 t1 (0, 0))) (.cells c2 t2 (0, 0))
   rw [s1] at this
   exact this
set_option maxRecDepth 100000 in
set_option maxHeartbeats 8000000 in
theorem p_same {w : World} {a b : Ans} {za zb : Option Addr} {la lb ca cb : Nat} (hla : la = a.names.length) (hlb : lb = b.names.length) (ha : Ss w za a.names) (hb : Ss w zb b.names) :
   Calls Tryz.prog 25 #[ansV a (.slice za la ca), ansV b (.slice zb lb cb)] w fun e w' => e = .returned (.bool (sameA a b)) ∧ Kept [] w w' := by
 obtain ⟨W1, X, HW, HKW, HBx⟩ := boxes2 w #[.int .i64 a.code, .int .i64 a.fd, .int .i64 a.num, .bool a.dir, .string a.data, .slice za la ca] #[.int .i64 b.code, .int .i64 b.fd, .int .i64 b.num, .bool b.dir, .string b.data, .slice zb lb cb] 32 32
 have HA : Hid (la = a.names.length ∧ lb = b.names.length ∧ Ss W1 za a.names ∧ Ss W1 zb b.names) := ⟨hla, hlb, ha.kept HKW.out, hb.kept HKW.out⟩
 have x0 : W1.cell? ⟨X, 0, none⟩ = some (.int .i64 a.code) := cellB HBx.out.1
 have x1 : W1.cell? ⟨X, 1, none⟩ = some (.int .i64 a.fd) := cellB HBx.out.1
 have x2 : W1.cell? ⟨X, 2, none⟩ = some (.int .i64 a.num) := cellB HBx.out.1
 have x3 : W1.cell? ⟨X, 3, none⟩ = some (.bool a.dir) := cellB HBx.out.1
 have x4 : W1.cell? ⟨X, 4, none⟩ = some (.string a.data) := cellB HBx.out.1
 have x5 : W1.cell? ⟨X, 5, none⟩ = some (.slice za la ca) := cellB HBx.out.1
 have y0 : W1.cell? ⟨X + 1, 0, none⟩ = some (.int .i64 b.code) := cellB HBx.out.2.1
 have y1 : W1.cell? ⟨X + 1, 1, none⟩ = some (.int .i64 b.fd) := cellB HBx.out.2.1
 have y2 : W1.cell? ⟨X + 1, 2, none⟩ = some (.int .i64 b.num) := cellB HBx.out.2.1
 have y3 : W1.cell? ⟨X + 1, 3, none⟩ = some (.bool b.dir) := cellB HBx.out.2.1
 have y4 : W1.cell? ⟨X + 1, 4, none⟩ = some (.string b.data) := cellB HBx.out.2.1
 have y5 : W1.cell? ⟨X + 1, 5, none⟩ = some (.slice zb lb cb) := cellB HBx.out.2.1
 have HDef : Hid (sameA a b = (a.code == b.code && a.fd == b.fd && a.num == b.num && a.dir == b.dir && a.data.toList == b.data.toList && decide (a.names = b.names))) := rfl
 clear ha hb hla hlb
 obtain ⟨r, hr⟩ : ∃ r, sameA a b = r := ⟨_, rfl⟩
 rw [hr] at HDef ⊢
 clear hr
 go_enter Tryz.func25, Tryz.ntmps25
 go_upto_region 1 with fail
 rw [HW.out.1, HW.out.2]
 clear HW HBx
 by_cases h0 : a.code = b.code
 rotate_left
 · have t0 : (a.code == b.code) = false := by simpa using h0
   have HR : Hid (r = false) := by show _ = _; rw [HDef.out]; simp [h0]
   go_wp2_with fail
   go_ret
   exact ⟨ret_bool HR.out.symm, HKW.out⟩
 have t0 : (a.code == b.code) = true := by simpa using h0
 by_cases h1 : a.fd = b.fd
 rotate_left
 · have t1 : (a.fd == b.fd) = false := by simpa using h1
   have HR : Hid (r = false) := by show _ = _; rw [HDef.out]; simp [h0, h1]
   go_wp2_with fail
   go_ret
   exact ⟨ret_bool HR.out.symm, HKW.out⟩
 have t1 : (a.fd == b.fd) = true := by simpa using h1
 by_cases h2 : a.num = b.num
 rotate_left
 · have t2 : (a.num == b.num) = false := by simpa using h2
   have HR : Hid (r = false) := by show _ = _; rw [HDef.out]; simp [h0, h1, h2]
   go_wp2_with fail
   go_ret
   exact ⟨ret_bool HR.out.symm, HKW.out⟩
 have t2 : (a.num == b.num) = true := by simpa using h2
 by_cases h3 : a.dir = b.dir
 rotate_left
 · have t3 : (a.dir == b.dir) = false := by simpa using h3
   have HR : Hid (r = false) := by show _ = _; rw [HDef.out]; simp [h0, h1, h2, h3]
   go_wp2_with fail
   go_ret
   exact ⟨ret_bool HR.out.symm, HKW.out⟩
 have t3 : (a.dir == b.dir) = true := by simpa using h3
 by_cases h4 : a.data.toList = b.data.toList
 rotate_left
 · have t4 : (a.data.toList == b.data.toList) = false := by simpa using h4
   have HR : Hid (r = false) := by show _ = _; rw [HDef.out, t4]; simp
   go_wp2_with fail
   go_ret
   exact ⟨ret_bool HR.out.symm, HKW.out⟩
 have t4 : (a.data.toList == b.data.toList) = true := by simpa using h4
 have HR : Hid (r = decide (a.names = b.names)) := by show _ = _; rw [HDef.out, t0, t1, t2, t3, t4]; simp
 go_wp2_with fail
 refine (slices_equal za zb la lb ca cb a.names b.names W1 HA.out.1 HA.out.2.1 HA.out.2.2.1 HA.out.2.2.2).mono ?_
 rintro e w2 ⟨rfl, q, hq⟩
 have HK2 : Hid (Kept [] w w2) := by rw [hq]; exact HKW.out.drewN q
 rw [← HR.out]
 clear hq
 go_wp2_with fail
 go_ret
 exact ⟨rfl, HK2.out⟩
end Go.Proofs.YtmeafancgmkfkaaGreatDoor

namespace Go.Proofs.YtmeafancgmkfkaaGreatDoor
open Go.RowKit
set_option linter.unusedVariables false
set_option linter.unusedSimpArgs false
def allowsR (S : Sta) (c : Cal) (r : Ans) : Sta × Bool :=
 if sameA (playR S c (fun xs => toldI xs r.fd)).2 r then ((playR S c (fun xs => toldI xs r.fd)).1, true) else (S, false)
def Tells (w : World) (x : Sta × Bool) (e : Ending) (w' : World) : Prop :=
 ∃ (u1 u2 u3 : Value) (eu : List Value), e = .returned (.tuple #[.agg #[u1, u2, u3], .bool x.2]) ∧ Os w' w.heap.size u1 u2 u3 eu x.1 ∧ Kept [] w w' ∧ Bd x.1
theorem results_ct {P : Program} {fn : Func} {p q : Tmp} {ty : TypeId} (h : fn.results = #[.cell p ty, .tmp q]) (tmps : Array Value) (w : World) (g : Nat) (t : TypeId) (cs : Array Value) (fr : Nat × Nat) (d : TypeDesc) (v : Value)
   (hp : tmps.getD p undef = .pointer (some ⟨g, 0, none⟩)) (hq : tmps.getD q undef = v) (hg : w.heap[g]? = some (.cells cs t fr))
   (hu : P.underlying ty = some d) (hd : (match d with | .struct _ | .array _ _ => true | _ => false) = true) (hi : (P.info? ty).map (·.size) = some cs.size) :
   (results fn tmps).run P w = .ok (.tuple #[.agg cs, v]) w := by
 have hp' : tmps[p]?.getD undef = .pointer (some ⟨g, 0, none⟩) := by simpa using hp
 have hq' : tmps[q]?.getD undef = v := by simpa using hq
 simp [results, h, hp', hq', asAddr, run_loadVar_row w g t ty cs fr d hg hu hd hi]
set_option maxRecDepth 100000 in
set_option maxHeartbeats 8000000 in
theorem p_Allows {w : World} {p : Pl} {S : Sta} (h : Sv w p S) (hT : Tab w) (hb : Bd S) (c : Cal) (hz : c.data.size ≤ 9223372036854775807) (r : Ans) {zr : Option Addr} {lr cr : Nat} (hlr : lr = r.names.length) (hr : Ss w zr r.names) :
   Calls Tryz.prog 9 #[sval p S, calV c, ansV r (.slice zr lr cr)] w (Tells w (allowsR S c r)) := by
 obtain ⟨W1, X, HW, HKW, HBx⟩ := boxes4 w #[.slice p.a1 S.ino.length p.c1, .slice p.a2 S.opn.length p.c2, .slice p.a3 S.made.length p.c3] #[.int .i64 c.kind, .int .i64 c.core, .int .i64 c.fd, .int .i64 c.off, .int .i64 c.num, .string c.path, .string c.path2, .string c.data] #[.int .i64 r.code, .int .i64 r.fd, .int .i64 r.num, .bool r.dir, .string r.data, .slice zr lr cr] #[.slice none 0 0, .slice none 0 0, .slice none 0 0] 26 28 32 26
 have hmf := makeF
 have HPl : Hid (Calls Tryz.prog 22 #[.agg #[.slice p.a1 S.ino.length p.c1, .slice p.a2 S.opn.length p.c2, .slice p.a3 S.made.length p.c3], .agg #[.int .i64 c.kind, .int .i64 c.core, .int .i64 c.fd, .int .i64 c.off, .int .i64 c.num, .string c.path, .string c.path2, .string c.data], .func (.func 23) #[] #[.pointer (some ⟨X + 1 + 1, 0, none⟩)]] W1 (Plays W1 (playR S c (fun xs => toldI xs r.fd)))) :=
   p_play (h.kept HKW.out) (hT.kept HKW.out) hb c _ _ _ fun w0 W B v1 v2 v3 ev hk hC => c_told hC hz (hk.cell (cellB HBx.out.2.2.1) (by simp))
 have HSv : Hid (Sv W1 p S ∧ Bd S) := ⟨h.kept HKW.out, hb⟩
 have HRn : Hid (lr = r.names.length ∧ Ss W1 zr r.names) := ⟨hlr, hr.kept HKW.out⟩
 have x0 : W1.cell? ⟨X, 0, none⟩ = some (.slice p.a1 S.ino.length p.c1) := cellB HBx.out.1
 have x1 : W1.cell? ⟨X, 1, none⟩ = some (.slice p.a2 S.opn.length p.c2) := cellB HBx.out.1
 have x2 : W1.cell? ⟨X, 2, none⟩ = some (.slice p.a3 S.made.length p.c3) := cellB HBx.out.1
 have y0 : W1.cell? ⟨X + 1, 0, none⟩ = some (.int .i64 c.kind) := cellB HBx.out.2.1
 have y1 : W1.cell? ⟨X + 1, 1, none⟩ = some (.int .i64 c.core) := cellB HBx.out.2.1
 have y2 : W1.cell? ⟨X + 1, 2, none⟩ = some (.int .i64 c.fd) := cellB HBx.out.2.1
 have y3 : W1.cell? ⟨X + 1, 3, none⟩ = some (.int .i64 c.off) := cellB HBx.out.2.1
 have y4 : W1.cell? ⟨X + 1, 4, none⟩ = some (.int .i64 c.num) := cellB HBx.out.2.1
 have y5 : W1.cell? ⟨X + 1, 5, none⟩ = some (.string c.path) := cellB HBx.out.2.1
 have y6 : W1.cell? ⟨X + 1, 6, none⟩ = some (.string c.path2) := cellB HBx.out.2.1
 have y7 : W1.cell? ⟨X + 1, 7, none⟩ = some (.string c.data) := cellB HBx.out.2.1
 clear h hT hb hr hlr
 go_enter Tryz.func9, Tryz.ntmps9
 go_upto_region 1 with fail
 rw [HW.out.1, HW.out.2]
 go_wp2_with fail
 refine HPl.out.mono ?_
 rintro e w6 ⟨u1, u2, u3, eu, y, l, k, rfl, ho, hsr, hof, k6, hbd⟩
 obtain ⟨x, hx⟩ : ∃ x, playR S c (fun xs => toldI xs r.fd) = x := ⟨_, rfl⟩
 rw [hx] at ho hsr hbd ⊢
 have HX : Hid (_) := hx
 clear hx
 obtain ⟨S', a, b, n, d, t, ns⟩ := x
 dsimp only at ho hsr hbd
 obtain ⟨e1, f1, hu1, -⟩ := row_form ho.ino
 obtain ⟨e2, f2, hu2, -⟩ := row_form ho.opn
 obtain ⟨e3, f3, hu3, -⟩ := row_form ho.mad
 subst hu1 hu2 hu3
 have HO6 : Hid (Os w6 W1.heap.size (.slice e1 S'.ino.length f1) (.slice e2 S'.opn.length f2) (.slice e3 S'.made.length f3) eu S' ∧ Kept [] W1 w6 ∧ Bd S') := ⟨ho, k6, hbd⟩
 obtain ⟨zy, cy, hy1, hy2, -⟩ := Sr.read hsr
 simp only [Value.slice.injEq] at hy1
 obtain ⟨q1, q2, q3⟩ := hy1
 subst q1 q3
 have HNs : Hid (l = ns.length ∧ Ss w6 y ns) := ⟨q2, hy2⟩
 obtain ⟨W7, Z, HW7, HK7, HB7⟩ := boxes2 w6 #[.slice e1 S'.ino.length f1, .slice e2 S'.opn.length f2, .slice e3 S'.made.length f3] #[.int .i64 a, .int .i64 b, .int .i64 n, .bool d, .string t, .slice y l k] 26 32
 have HK17 : Hid (Kept [] W1 W7) := k6.trans HK7.out (by simp)
 have g0 : W7.cell? ⟨Z, 0, none⟩ = some (.slice e1 S'.ino.length f1) := cellB HB7.out.1
 have g1 : W7.cell? ⟨Z, 1, none⟩ = some (.slice e2 S'.opn.length f2) := cellB HB7.out.1
 have g2 : W7.cell? ⟨Z, 2, none⟩ = some (.slice e3 S'.made.length f3) := cellB HB7.out.1
 have j0 : W7.cell? ⟨Z + 1, 0, none⟩ = some (.int .i64 a) := cellB HB7.out.2.1
 have j1 : W7.cell? ⟨Z + 1, 1, none⟩ = some (.int .i64 b) := cellB HB7.out.2.1
 have j2 : W7.cell? ⟨Z + 1, 2, none⟩ = some (.int .i64 n) := cellB HB7.out.2.1
 have j3 : W7.cell? ⟨Z + 1, 3, none⟩ = some (.bool d) := cellB HB7.out.2.1
 have j4 : W7.cell? ⟨Z + 1, 4, none⟩ = some (.string t) := cellB HB7.out.2.1
 have j5 : W7.cell? ⟨Z + 1, 5, none⟩ = some (.slice y l k) := cellB HB7.out.2.1
 have m0 : W7.cell? ⟨X + 1 + 1, 0, none⟩ = some (.int .i64 r.code) := HK17.out.cell (cellB HBx.out.2.2.1) (by simp)
 have m1 : W7.cell? ⟨X + 1 + 1, 1, none⟩ = some (.int .i64 r.fd) := HK17.out.cell (cellB HBx.out.2.2.1) (by simp)
 have m2 : W7.cell? ⟨X + 1 + 1, 2, none⟩ = some (.int .i64 r.num) := HK17.out.cell (cellB HBx.out.2.2.1) (by simp)
 have m3 : W7.cell? ⟨X + 1 + 1, 3, none⟩ = some (.bool r.dir) := HK17.out.cell (cellB HBx.out.2.2.1) (by simp)
 have m4 : W7.cell? ⟨X + 1 + 1, 4, none⟩ = some (.string r.data) := HK17.out.cell (cellB HBx.out.2.2.1) (by simp)
 have m5 : W7.cell? ⟨X + 1 + 1, 5, none⟩ = some (.slice zr lr cr) := HK17.out.cell (cellB HBx.out.2.2.1) (by simp)
 clear ho hsr hof hbd k6 HPl hy2 q2 x0 x1 x2 y0 y1 y2 y3 y4 y5 y6 y7
 dsimp only [ansV]
 go_upto_region 3 with fail
 rw [HW7.out.1, HW7.out.2]
 have HSm : Hid (Calls Tryz.prog 25 #[.agg #[.int .i64 a, .int .i64 b, .int .i64 n, .bool d, .string t, .slice y l k], .agg #[.int .i64 r.code, .int .i64 r.fd, .int .i64 r.num, .bool r.dir, .string r.data, .slice zr lr cr]] W7 fun e w' => e = .returned (.bool (sameA ⟨a, b, n, d, t, ns⟩ r)) ∧ Kept [] W7 w') :=
   p_same (a := ⟨a, b, n, d, t, ns⟩) (b := r) HNs.out.1 HRn.out.1 (HNs.out.2.kept HK7.out) (HRn.out.2.kept HK17.out)
 go_wp2_with fail
 refine HSm.out.mono ?_
 rintro e w8 ⟨rfl, k8⟩
 have HK18 : Hid (Kept [] W1 w8) := HK17.out.trans k8 (by simp)
 have hbR : w8.heap[X + 1 + 1 + 1]? = some (.cells #[.slice none 0 0, .slice none 0 0, .slice none 0 0] 26 (0, 0)) := (HK18.out.block _ (lt_of_heap HBx.out.2.2.2.1) (by simp)).trans HBx.out.2.2.2.1
 rcases hsm : sameA ⟨a, b, n, d, t, ns⟩ r with _ | _
 · have HAl : Hid (allowsR S c r = (S, false)) := by show _ = _; unfold allowsR; rw [HX.out]; dsimp only; rw [hsm]; rfl
   have x0 : w8.cell? ⟨X, 0, none⟩ = some (.slice p.a1 S.ino.length p.c1) := HK18.out.cell (cellB HBx.out.1) (by simp)
   have x1 : w8.cell? ⟨X, 1, none⟩ = some (.slice p.a2 S.opn.length p.c2) := HK18.out.cell (cellB HBx.out.1) (by simp)
   have x2 : w8.cell? ⟨X, 2, none⟩ = some (.slice p.a3 S.made.length p.c3) := HK18.out.cell (cellB HBx.out.1) (by simp)
   clear hsm k8 HSm hbR g0 g1 g2 j0 j1 j2 j3 j4 j5 m0 m1 m2 m3 m4 m5
   go_wp2_with fail
   refine (p_copied (HSv.out.1.kept HK18.out) HSv.out.2).mono ?_
   rintro e w9 ⟨a1, a2, a3, ea, rfl, o9, k9⟩
   obtain ⟨e4, f4, hu4, -⟩ := row_form o9.ino
   obtain ⟨e5, f5, hu5, -⟩ := row_form o9.opn
   obtain ⟨e6, f6, hu6, -⟩ := row_form o9.mad
   subst hu4 hu5 hu6
   have HK19 : Hid (Kept [] W1 w9) := HK18.out.trans k9 (by simp)
   have hbS : w9.heap[X + 1 + 1 + 1]? = some (.cells #[.slice none 0 0, .slice none 0 0, .slice none 0 0] 26 (0, 0)) := (HK19.out.block _ (lt_of_heap HBx.out.2.2.2.1) (by simp)).trans HBx.out.2.2.2.1
   have HB9 : Hid (_) := hbS
   have HE : Hid (Tells w (S, false) (.returned (.tuple #[.agg #[.slice e4 S.ino.length f4, .slice e5 S.opn.length f5, .slice e6 S.made.length f6], .bool false])) (laidS w9 (X + 1 + 1 + 1) (.slice e4 S.ino.length f4) (.slice e5 S.opn.length f5) (.slice e6 S.made.length f6))) := by
     have h1 := HW.out.2
     have h2 := HBx.out.2.2.2.2
     have h3 := HK18.out.size
     exact ⟨_, _, _, ea, rfl, Os.less (o9.sta (by omega) _ _ _) (by have := HKW.out.size; omega), kept_sta (HKW.out.trans HK19.out (by simp)) (by omega) _ _ _, HSv.out.2⟩
   have z0 := frozen_of hbS 0
   have g0 : w9.cell? ⟨X + 1 + 1 + 1, 0, none⟩ = some (.slice none 0 0) := cellB hbS
   have z1 := frozen_of hbS 1
   have g1 : w9.cell? ⟨X + 1 + 1 + 1, 1, none⟩ = some (.slice none 0 0) := cellB hbS
   have z2 := frozen_of hbS 2
   have g2 : w9.cell? ⟨X + 1 + 1 + 1, 2, none⟩ = some (.slice none 0 0) := cellB hbS
   clear o9 k9 hbS x0 x1 x2
   go_wp2_with fail
   (try simp only [Exit.inBlock, Exit.then])
   refine bodyPost_ret (results_ct rfl _ _ (X + 1 + 1 + 1) 26 #[.slice e4 S.ino.length f4, .slice e5 S.opn.length f5, .slice e6 S.made.length f6] (0, 0) _ (.bool false) rfl rfl (block_sta HB9.out _ _ _) Tryz.underlying26 rfl (by kernel_rfl)) rfl ?_
   rw [HAl.out]
   exact HE.out
 · have HAl : Hid (allowsR S c r = (S', true)) := by show _ = _; unfold allowsR; rw [HX.out]; dsimp only; rw [hsm]; rfl
   have y0 : w8.cell? ⟨Z, 0, none⟩ = some (.slice e1 S'.ino.length f1) := k8.cell g0 (by simp)
   have y1 : w8.cell? ⟨Z, 1, none⟩ = some (.slice e2 S'.opn.length f2) := k8.cell g1 (by simp)
   have y2 : w8.cell? ⟨Z, 2, none⟩ = some (.slice e3 S'.made.length f3) := k8.cell g2 (by simp)
   have HB9 : Hid (_) := hbR
   have HE : Hid (Tells w (S', true) (.returned (.tuple #[.agg #[.slice e1 S'.ino.length f1, .slice e2 S'.opn.length f2, .slice e3 S'.made.length f3], .bool true])) (laidS w8 (X + 1 + 1 + 1) (.slice e1 S'.ino.length f1) (.slice e2 S'.opn.length f2) (.slice e3 S'.made.length f3))) := by
     have h1 := HW.out.2
     have h2 := HBx.out.2.2.2.2
     have ho8 := (HO6.out.1.kept HK7.out).kept k8
     exact ⟨_, _, _, eu, rfl, Os.less (ho8.sta (by omega) _ _ _) (by have := HKW.out.size; omega), kept_sta (HKW.out.trans HK18.out (by simp)) (by omega) _ _ _, HO6.out.2.2⟩
   have z0 := frozen_of hbR 0
   have v0 : w8.cell? ⟨X + 1 + 1 + 1, 0, none⟩ = some (.slice none 0 0) := cellB hbR
   have z1 := frozen_of hbR 1
   have v1 : w8.cell? ⟨X + 1 + 1 + 1, 1, none⟩ = some (.slice none 0 0) := cellB hbR
   have z2 := frozen_of hbR 2
   have v2 : w8.cell? ⟨X + 1 + 1 + 1, 2, none⟩ = some (.slice none 0 0) := cellB hbR
   clear hsm k8 hbR HSm g0 g1 g2 j0 j1 j2 j3 j4 j5 m0 m1 m2 m3 m4 m5
   go_wp2_with fail
   (try simp only [Exit.inBlock, Exit.then])
   refine bodyPost_ret (results_ct rfl _ _ (X + 1 + 1 + 1) 26 #[.slice e1 S'.ino.length f1, .slice e2 S'.opn.length f2, .slice e3 S'.made.length f3] (0, 0) _ (.bool true) rfl rfl (block_sta HB9.out _ _ _) Tryz.underlying26 rfl (by kernel_rfl)) rfl ?_
   rw [HAl.out]
   exact HE.out
end Go.Proofs.YtmeafancgmkfkaaGreatDoor
