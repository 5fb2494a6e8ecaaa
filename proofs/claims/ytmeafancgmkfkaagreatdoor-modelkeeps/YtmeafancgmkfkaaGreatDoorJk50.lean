/-
  Joined of my texts Kp.
-/
import Derived.Test.YtmeafancgmkfkaaGreatDoorJk45
import Derived.Test.YtmeafancgmkfkaaGreatDoorJk49
import Derived.Deep.CutRange
import Derived.Deep.CutBlock
import Derived.BigQuiet
namespace Go.Proofs.YtmeafancgmkfkaaGreatDoor
open Go.RowKit
set_option linter.unusedVariables false
set_option linter.unusedSimpArgs false
theorem code_may {S : Sta} {c : Cal} {p : List Int → Int} (h : (playR S c p).2.code = 0) : mayB S = true := by
 unfold playR at h
 split at h
 · rename_i hq; exact hq.1
 · exact absurd h (by show ¬ (9 : Int) = 0; decide)
theorem cells6D {w : World} {X : Nat} {v0 v1 v2 v3 v4 v5 : Value} {T : TypeId} (h : w.heap[X]? = some (.cells #[v0, v1, v2, v3, v4, v5] T (0, 0))) : w.cell? ⟨X, 0, none⟩ = some v0 ∧ w.cell? ⟨X, 1, none⟩ = some v1 ∧ w.cell? ⟨X, 2, none⟩ = some v2 ∧ w.cell? ⟨X, 3, none⟩ = some v3 ∧ w.cell? ⟨X, 4, none⟩ = some v4 ∧ w.cell? ⟨X, 5, none⟩ = some v5 := ⟨cellB h, cellB h, cellB h, cellB h, cellB h, cellB h⟩
set_option maxRecDepth 100000 in
set_option maxHeartbeats 16000000 in
theorem keeps_walk {w : World} {p : Pl} {S : Sta} (h : Sv w p S) (hT : Tab w) (hb : Bd S) (c : Cal) (hz : c.data.size ≤ 9223372036854775807) :
   Calls Tryz.prog 4 #[sval p S, calV c] w fun e w' => e = .returned (.bool true) ∧ Kept [] w w' := by
 obtain ⟨W1, X, HX, HKX, HXb⟩ := boxes2 w #[.slice p.a1 S.ino.length p.c1, .slice p.a2 S.opn.length p.c2, .slice p.a3 S.made.length p.c3] #[.int .i64 c.kind, .int .i64 c.core, .int .i64 c.fd, .int .i64 c.off, .int .i64 c.num, .string c.path, .string c.path2, .string c.data] 26 28
 have HS : Hid (Sv W1 p S ∧ Bd S ∧ Tab W1) := ⟨h.kept HKX.out, hb, hT.kept HKX.out⟩
 have HZ : Hid (_) := hz
 clear h hT hb hz
 go_enter Tryz.func4, Tryz.ntmps4
 go_upto_region 1 with fail
 rw [HX.out.1, HX.out.2]
 clear HX
 go_wp2_with fail
 refine (awake_any HS.out.2.2).mono ?_
 rintro e w1 ⟨rfl, k1⟩
 have HK1 : Hid (Kept [] W1 w1) := k1
 have HB1 : Hid (w1.heap[X]? = some (.cells #[.slice p.a1 S.ino.length p.c1, .slice p.a2 S.opn.length p.c2, .slice p.a3 S.made.length p.c3] 26 (0, 0)) ∧ w1.heap[X + 1]? = some (.cells #[.int .i64 c.kind, .int .i64 c.core, .int .i64 c.fd, .int .i64 c.off, .int .i64 c.num, .string c.path, .string c.path2, .string c.data] 28 (0, 0))) := ⟨(k1.block _ (lt_of_heap HXb.out.1) (by simp)).trans HXb.out.1, (k1.block _ (lt_of_heap HXb.out.2.1) (by simp)).trans HXb.out.2.1⟩
 clear k1 HXb
 obtain ⟨x0, x1, x2⟩ := cells3D HB1.out.1
 obtain ⟨y0, y1, y2, y3, y4, y5, y6, y7⟩ := cells8D HB1.out.2
 go_wp2_with fail
 refine (p_Do (HS.out.1.kept HK1.out) (HS.out.2.2.kept HK1.out) HS.out.2.1 c HZ.out).mono ?_
 clear x0 x1 x2 y0 y1 y2 y3 y4 y5 y6 y7
 rintro e w2 ⟨u1, u2, u3, eu, z, l, k, rfl, ho, hsr, -, k2, hbd⟩
 by_cases hc : (playR S c headI).2.code = 0
 · have hm := may_stays (code_may hc) c head_mem
   have HL : Hid ((c.kind = 4 ∨ c.kind = 7 ∨ c.kind = 12 ∨ c.kind = 13 ∨ c.kind = 14 ∨ c.kind = 15 ∨ c.kind = 16) → (playR S c headI).1 = S) := fun hk => keeps_look (by omega)
   obtain ⟨R, hR⟩ : ∃ R, playR S c headI = R := ⟨_, rfl⟩
   rw [hR] at ho hsr hbd hc hm HL
   simp only [hR]
   have HOs : Hid (Os w2 w1.heap.size u1 u2 u3 eu R.1) := ho
   obtain ⟨R1, code, fd, num, dir, data, names⟩ := R
   dsimp only at *
   subst hc
   obtain ⟨q, e1, e2, e3, hsv, -⟩ := ho.sv hbd
   subst e1 e2 e3
   obtain ⟨W3, Z, HZ3, HKZ, HZb⟩ := boxes2 w2 #[.slice q.a1 R1.ino.length q.c1, .slice q.a2 R1.opn.length q.c2, .slice q.a3 R1.made.length q.c3] #[.int .i64 0, .int .i64 fd, .int .i64 num, .bool dir, .string data, .slice z l k] 26 32
   have HSo : Hid (Sv W3 q R1 ∧ Bd R1) := ⟨hsv.kept HKZ.out, hbd⟩
   have HK3 : Hid (Kept [] W1 W3) := (HK1.out.trans k2 (by simp)).trans HKZ.out (by simp)
   have HB3 : Hid (W3.heap[X]? = some (.cells #[.slice p.a1 S.ino.length p.c1, .slice p.a2 S.opn.length p.c2, .slice p.a3 S.made.length p.c3] 26 (0, 0)) ∧ W3.heap[X + 1]? = some (.cells #[.int .i64 c.kind, .int .i64 c.core, .int .i64 c.fd, .int .i64 c.off, .int .i64 c.num, .string c.path, .string c.path2, .string c.data] 28 (0, 0))) := ⟨((k2.trans HKZ.out (by simp)).block _ (lt_of_heap HB1.out.1) (by simp)).trans HB1.out.1, ((k2.trans HKZ.out (by simp)).block _ (lt_of_heap HB1.out.2) (by simp)).trans HB1.out.2⟩
   clear k2 hsv ho hbd
   go_upto_region 4 with fail
   rw [HZ3.out.1, HZ3.out.2]
   clear HZ3 HB1 HK1
   obtain ⟨y0, y1, y2, y3, y4, y5, y6, y7⟩ := cells8D HB3.out.2
   obtain ⟨x0, x1, x2⟩ := cells3D HB3.out.1
   obtain ⟨o0, o1, o2⟩ := cells3D HZb.out.1
   obtain ⟨r0, r1, r2, r3, r4, r5⟩ := cells6D HZb.out.2.1
   go_cut [7] from 16 (fun v wx => ∃ b : Bool, v = .bool b ∧ Hid (b = decide (c.kind = 4 ∨ c.kind = 7 ∨ c.kind = 12 ∨ c.kind = 13 ∨ c.kind = 14 ∨ c.kind = 15 ∨ c.kind = 16)) ∧ wx = W3)
   case first =>
     by_cases b0 : c.kind = 4
     · go_wp2_with fail
       go_meet
       case rel => exact ⟨_, rfl, (decide_eq_true (p := c.kind = 4 ∨ c.kind = 7 ∨ c.kind = 12 ∨ c.kind = 13 ∨ c.kind = 14 ∨ c.kind = 15 ∨ c.kind = 16) (by omega)).symm, rfl⟩
     by_cases b1 : c.kind = 7
     · go_wp2_with fail
       go_meet
       case rel => exact ⟨_, rfl, (decide_eq_true (p := c.kind = 4 ∨ c.kind = 7 ∨ c.kind = 12 ∨ c.kind = 13 ∨ c.kind = 14 ∨ c.kind = 15 ∨ c.kind = 16) (by omega)).symm, rfl⟩
     by_cases b2 : c.kind = 12
     · go_wp2_with fail
       go_meet
       case rel => exact ⟨_, rfl, (decide_eq_true (p := c.kind = 4 ∨ c.kind = 7 ∨ c.kind = 12 ∨ c.kind = 13 ∨ c.kind = 14 ∨ c.kind = 15 ∨ c.kind = 16) (by omega)).symm, rfl⟩
     by_cases b3 : c.kind = 13
     · go_wp2_with fail
       go_meet
       case rel => exact ⟨_, rfl, (decide_eq_true (p := c.kind = 4 ∨ c.kind = 7 ∨ c.kind = 12 ∨ c.kind = 13 ∨ c.kind = 14 ∨ c.kind = 15 ∨ c.kind = 16) (by omega)).symm, rfl⟩
     by_cases b4 : c.kind = 14
     · go_wp2_with fail
       go_meet
       case rel => exact ⟨_, rfl, (decide_eq_true (p := c.kind = 4 ∨ c.kind = 7 ∨ c.kind = 12 ∨ c.kind = 13 ∨ c.kind = 14 ∨ c.kind = 15 ∨ c.kind = 16) (by omega)).symm, rfl⟩
     by_cases b5 : c.kind = 15
     · go_wp2_with fail
       go_meet
       case rel => exact ⟨_, rfl, (decide_eq_true (p := c.kind = 4 ∨ c.kind = 7 ∨ c.kind = 12 ∨ c.kind = 13 ∨ c.kind = 14 ∨ c.kind = 15 ∨ c.kind = 16) (by omega)).symm, rfl⟩
     by_cases b6 : c.kind = 16
     · go_wp2_with fail
       go_meet
       case rel => exact ⟨_, rfl, (decide_eq_true (p := c.kind = 4 ∨ c.kind = 7 ∨ c.kind = 12 ∨ c.kind = 13 ∨ c.kind = 14 ∨ c.kind = 15 ∨ c.kind = 16) (by omega)).symm, rfl⟩
     go_wp2_with fail
     go_meet
     case rel => exact ⟨_, rfl, (by show _ = _; simp [b0, b1, b2, b3, b4, b5, b6]), rfl⟩
   case rest =>
     obtain ⟨b, rfl, Hb, rfl⟩ := hcut
     have HM : Hid (Calls Tryz.prog 12 #[.agg #[.slice q.a1 R1.ino.length q.c1, .slice q.a2 R1.opn.length q.c2, .slice q.a3 R1.made.length q.c3]] wc fun e w' => e = .returned (.bool true) ∧ Kept [] wc w') := by
       have := p_may HSo.out.1 (HS.out.2.2.kept HK3.out) (fun x hx => by have := HSo.out.2.d1 x hx; omega)
       rw [hm] at this
       exact this
     rcases b with _ | _
     · go_wp2_with fail
       refine (HM.out).mono ?_
       rintro e w4 ⟨rfl, k4⟩
       go_wp2_with fail
       go_ret
       exact ⟨rfl, (HKX.out.trans HK3.out (by simp)).trans k4 (by simp)⟩
     · have hk : c.kind = 4 ∨ c.kind = 7 ∨ c.kind = 12 ∨ c.kind = 13 ∨ c.kind = 14 ∨ c.kind = 15 ∨ c.kind = 16 := by have := Hb.out; exact of_decide_eq_true this.symm
       have hRS : R1 = S := HL.out hk
       subst hRS
       have HP : Hid (Calls Tryz.prog 10 #[.agg #[.slice q.a1 R1.ino.length q.c1, .slice q.a2 R1.opn.length q.c2, .slice q.a3 R1.made.length q.c3], .agg #[.slice p.a1 R1.ino.length p.c1, .slice p.a2 R1.opn.length p.c2, .slice p.a3 R1.made.length p.c3]] wc fun e w' => e = .returned (.bool true) ∧ Kept [] wc w') := r_plain HSo.out.1 (HS.out.1.kept HK3.out)
       clear hk
       go_wp2_with fail
       refine (HP.out).mono ?_
       rintro e w4 ⟨rfl, k4⟩
       have HM4 : Hid (Calls Tryz.prog 12 #[.agg #[.slice q.a1 R1.ino.length q.c1, .slice q.a2 R1.opn.length q.c2, .slice q.a3 R1.made.length q.c3]] w4 fun e w' => e = .returned (.bool true) ∧ Kept [] w4 w') := by
         have := p_may (HSo.out.1.kept k4) ((HS.out.2.2.kept HK3.out).kept k4) (fun x hx => by have := HSo.out.2.d1 x hx; omega)
         rw [hm] at this
         exact this
       obtain ⟨s0, s1, s2⟩ := cells3D ((k4.block _ (lt_of_heap HZb.out.1) (by simp)).trans HZb.out.1)
       have HK4 : Hid (Kept [] wc w4) := k4
       clear k4 x0 x1 x2 o0 o1 o2 r0 r1 r2 r3 r4 r5 y0 y1 y2 y3 y4 y5 y6 y7
       go_wp2_with fail
       refine (HM4.out).mono ?_
       rintro e w5 ⟨rfl, k5⟩
       go_wp2_with fail
       go_ret
       exact ⟨rfl, ((HKX.out.trans HK3.out (by simp)).trans HK4.out (by simp)).trans k5 (by simp)⟩
 · obtain ⟨code, hk0⟩ : ∃ code, (playR S c headI).2.code = code := ⟨_, rfl⟩
   have e : playR S c headI = (S, ansC code) := (keeps_code hc).trans (by rw [hk0])
   rw [hk0] at hc
   rw [e] at ho hsr hbd
   simp only [e]
   clear hk0 e
   dsimp only at *
   obtain ⟨za, ca, hv, -⟩ := row_form hsr
   replace hv : Value.slice z l k = .slice za 0 ca := hv
   simp only [Value.slice.injEq] at hv
   obtain ⟨rfl, rfl, rfl⟩ := hv
   obtain ⟨q, e1, e2, e3, hsv, -⟩ := ho.sv hbd
   subst e1 e2 e3
   obtain ⟨W3, Z, HZ3, HKZ, HZb⟩ := boxes2 w2 #[.slice q.a1 S.ino.length q.c1, .slice q.a2 S.opn.length q.c2, .slice q.a3 S.made.length q.c3] #[.int .i64 code, .int .i64 0, .int .i64 0, .bool false, .string ⟨#[]⟩, .slice z 0 k] 26 32
   have HSo : Hid (Sv W3 q S ∧ Bd S) := ⟨hsv.kept HKZ.out, hbd⟩
   have HK3 : Hid (Kept [] W1 W3) := (HK1.out.trans k2 (by simp)).trans HKZ.out (by simp)
   have HB3 : Hid (W3.heap[X]? = some (.cells #[.slice p.a1 S.ino.length p.c1, .slice p.a2 S.opn.length p.c2, .slice p.a3 S.made.length p.c3] 26 (0, 0)) ∧ W3.heap[X + 1]? = some (.cells #[.int .i64 c.kind, .int .i64 c.core, .int .i64 c.fd, .int .i64 c.off, .int .i64 c.num, .string c.path, .string c.path2, .string c.data] 28 (0, 0))) := ⟨((k2.trans HKZ.out (by simp)).block _ (lt_of_heap HB1.out.1) (by simp)).trans HB1.out.1, ((k2.trans HKZ.out (by simp)).block _ (lt_of_heap HB1.out.2) (by simp)).trans HB1.out.2⟩
   clear k2 hsv ho hbd
   go_upto_region 4 with fail
   rw [HZ3.out.1, HZ3.out.2]
   clear HZ3 HB1 HK1
   obtain ⟨y0, y1, y2, y3, y4, y5, y6, y7⟩ := cells8D HB3.out.2
   obtain ⟨x0, x1, x2⟩ := cells3D HB3.out.1
   obtain ⟨o0, o1, o2⟩ := cells3D HZb.out.1
   obtain ⟨r0, r1, r2, r3, r4, r5⟩ := cells6D HZb.out.2.1
   have tc : (code != 0) = true := by simpa using hc
   go_cut [7] from 16 (fun v wx => ∃ b : Bool, v = .bool b ∧ Hid (b = decide (c.kind = 4 ∨ c.kind = 7 ∨ c.kind = 12 ∨ c.kind = 13 ∨ c.kind = 14 ∨ c.kind = 15 ∨ c.kind = 16)) ∧ wx = W3)
   case first =>
     by_cases b0 : c.kind = 4
     · go_wp2_with fail
       go_meet
       case rel => exact ⟨_, rfl, (decide_eq_true (p := c.kind = 4 ∨ c.kind = 7 ∨ c.kind = 12 ∨ c.kind = 13 ∨ c.kind = 14 ∨ c.kind = 15 ∨ c.kind = 16) (by omega)).symm, rfl⟩
     by_cases b1 : c.kind = 7
     · go_wp2_with fail
       go_meet
       case rel => exact ⟨_, rfl, (decide_eq_true (p := c.kind = 4 ∨ c.kind = 7 ∨ c.kind = 12 ∨ c.kind = 13 ∨ c.kind = 14 ∨ c.kind = 15 ∨ c.kind = 16) (by omega)).symm, rfl⟩
     by_cases b2 : c.kind = 12
     · go_wp2_with fail
       go_meet
       case rel => exact ⟨_, rfl, (decide_eq_true (p := c.kind = 4 ∨ c.kind = 7 ∨ c.kind = 12 ∨ c.kind = 13 ∨ c.kind = 14 ∨ c.kind = 15 ∨ c.kind = 16) (by omega)).symm, rfl⟩
     by_cases b3 : c.kind = 13
     · go_wp2_with fail
       go_meet
       case rel => exact ⟨_, rfl, (decide_eq_true (p := c.kind = 4 ∨ c.kind = 7 ∨ c.kind = 12 ∨ c.kind = 13 ∨ c.kind = 14 ∨ c.kind = 15 ∨ c.kind = 16) (by omega)).symm, rfl⟩
     by_cases b4 : c.kind = 14
     · go_wp2_with fail
       go_meet
       case rel => exact ⟨_, rfl, (decide_eq_true (p := c.kind = 4 ∨ c.kind = 7 ∨ c.kind = 12 ∨ c.kind = 13 ∨ c.kind = 14 ∨ c.kind = 15 ∨ c.kind = 16) (by omega)).symm, rfl⟩
     by_cases b5 : c.kind = 15
     · go_wp2_with fail
       go_meet
       case rel => exact ⟨_, rfl, (decide_eq_true (p := c.kind = 4 ∨ c.kind = 7 ∨ c.kind = 12 ∨ c.kind = 13 ∨ c.kind = 14 ∨ c.kind = 15 ∨ c.kind = 16) (by omega)).symm, rfl⟩
     by_cases b6 : c.kind = 16
     · go_wp2_with fail
       go_meet
       case rel => exact ⟨_, rfl, (decide_eq_true (p := c.kind = 4 ∨ c.kind = 7 ∨ c.kind = 12 ∨ c.kind = 13 ∨ c.kind = 14 ∨ c.kind = 15 ∨ c.kind = 16) (by omega)).symm, rfl⟩
     go_wp2_with fail
     go_meet
     case rel => exact ⟨_, rfl, (by show _ = _; simp [b0, b1, b2, b3, b4, b5, b6]), rfl⟩
   case rest =>
     obtain ⟨b, rfl, Hb, rfl⟩ := hcut
     have HP : Hid (Calls Tryz.prog 10 #[.agg #[.slice q.a1 S.ino.length q.c1, .slice q.a2 S.opn.length q.c2, .slice q.a3 S.made.length q.c3], .agg #[.slice p.a1 S.ino.length p.c1, .slice p.a2 S.opn.length p.c2, .slice p.a3 S.made.length p.c3]] wc fun e w' => e = .returned (.bool true) ∧ Kept [] wc w') := r_plain HSo.out.1 (HS.out.1.kept HK3.out)
     go_wp2_with fail
     refine (HP.out).mono ?_
     rintro e w4 ⟨rfl, k4⟩
     obtain ⟨s0, s1, s2, s3, s4, s5⟩ := cells6D ((k4.block _ (lt_of_heap HZb.out.2.1) (by simp)).trans HZb.out.2.1)
     have HK4 : Hid (Kept [] wc w4) := k4
     clear k4 x0 x1 x2 o0 o1 o2 r0 r1 r2 r3 r4 r5 y0 y1 y2 y3 y4 y5 y6 y7
     go_wp2_with fail
     refine (r_same code z k).mono ?_
     rintro e w5 ⟨rfl, k5⟩
     go_wp2_with fail
     go_ret
     exact ⟨rfl, ((HKX.out.trans HK3.out (by simp)).trans HK4.out (by simp)).trans k5 (by simp)⟩
end Go.Proofs.YtmeafancgmkfkaaGreatDoor
