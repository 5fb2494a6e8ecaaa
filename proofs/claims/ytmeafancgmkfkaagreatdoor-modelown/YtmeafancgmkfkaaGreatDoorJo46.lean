/-
  Joined of my texts Oz.
-/
import Derived.Test.YtmeafancgmkfkaaGreatDoorJo45
import Derived.Deep.CutRange
import Derived.Deep.CutBlock
import Derived.BigQuiet
namespace Go.Proofs.YtmeafancgmkfkaaGreatDoor
open Go.RowKit
set_option linter.unusedVariables false
set_option linter.unusedSimpArgs false
theorem forms_any {w : World} {H : Nat} {v1 v2 v3 : Value} {ev : List Value} {S : Sta} (h : Os w H v1 v2 v3 ev S) : ∃ a l c a' l' c' a'' l'' c'', v1 = .slice a l c ∧ v2 = .slice a' l' c' ∧ v3 = .slice a'' l'' c'' := by
 obtain ⟨p, m, hu, -⟩ := row_form h.ino
 obtain ⟨q, n, hv, -⟩ := row_form h.opn
 obtain ⟨r, t, hw, -⟩ := row_form h.mad
 exact ⟨_, _, _, _, _, _, _, _, _, hu, hv, hw⟩
set_option maxRecDepth 100000 in
set_option maxHeartbeats 16000000 in
theorem own_walk {w : World} {p : Pl} {S : Sta} (h : Sv w p S) (hT : Tab w) (hb : Bd S) (c : Cal) (hz : c.data.size ≤ 9223372036854775807) :
   Calls Tryz.prog 3 #[sval p S, calV c] w fun e w' => e = .returned (.bool true) ∧ Kept [] w w' := by
 obtain ⟨W1, X, HX, HKX, HXb⟩ := boxes2 w #[.slice p.a1 S.ino.length p.c1, .slice p.a2 S.opn.length p.c2, .slice p.a3 S.made.length p.c3] #[.int .i64 c.kind, .int .i64 c.core, .int .i64 c.fd, .int .i64 c.off, .int .i64 c.num, .string c.path, .string c.path2, .string c.data] 26 28
 have HS : Hid (Sv W1 p S ∧ Bd S ∧ Tab W1) := ⟨h.kept HKX.out, hb, hT.kept HKX.out⟩
 have HZ : Hid (_) := hz
 clear h hT hb hz
 go_enter Tryz.func3, Tryz.ntmps3
 go_upto_region 1 with fail
 rw [HX.out.1, HX.out.2]
 clear HX
 go_wp2_with fail
 refine (awake_any HS.out.2.2).mono ?_
 rintro e w1 ⟨rfl, k1⟩
 have HK1 : Hid (Kept [] W1 w1) := k1
 have HB1 : Hid (w1.heap[X]? = some (.cells #[.slice p.a1 S.ino.length p.c1, .slice p.a2 S.opn.length p.c2, .slice p.a3 S.made.length p.c3] 26 (0, 0)) ∧ w1.heap[X + 1]? = some (.cells #[.int .i64 c.kind, .int .i64 c.core, .int .i64 c.fd, .int .i64 c.off, .int .i64 c.num, .string c.path, .string c.path2, .string c.data] 28 (0, 0))) := ⟨(k1.block _ (lt_of_heap HXb.out.1) (by simp)).trans HXb.out.1, (k1.block _ (lt_of_heap HXb.out.2.1) (by simp)).trans HXb.out.2.1⟩
 clear k1 HXb
 obtain ⟨x0, x1, x2⟩ := cells3D HB1.out.1
 obtain ⟨y0, y1, y2, y3, y4, y5, y6, y7⟩ := cells8D HB1.out.2
 go_wp2_with fail
 refine (p_Do (HS.out.1.kept HK1.out) (HS.out.2.2.kept HK1.out) HS.out.2.1 c HZ.out).mono ?_
 clear x0 x1 x2 y0 y1 y2 y3 y4 y5 y6 y7
 rintro e w2 ⟨u1, u2, u3, eu, z, l, k, rfl, ho, hsr, -, k2, hbd⟩
 have hal := own_allowed S c
 have HF : Hid (c.kind = 2 → (playR S c headI).2.code = 0 → ∀ fd, (allowsR S c { (playR S c headI).2 with fd := fd }).2 = true ↔ 0 ≤ fd ∧ fd < 4 ∧ ∀ d ∈ S.opn, d.1 ≠ c.core ∨ d.2.1 ≠ fd) := fun hk h fd => own_free hk h fd
 obtain ⟨R, hR⟩ : ∃ R, playR S c headI = R := ⟨_, rfl⟩
 rw [hR] at ho hsr hbd hal HF
 simp only [hR]
 clear hR
 obtain ⟨R1, code, fd, num, dir, data, names⟩ := R
 dsimp only at *
 obtain ⟨za, ca, hv, hss, -⟩ := hsr.read
 simp only [Value.slice.injEq] at hv
 obtain ⟨rfl, rfl, rfl⟩ := hv
 obtain ⟨q, e1, e2, e3, hsv, -⟩ := ho.sv hbd
 subst e1 e2 e3
 obtain ⟨W3, Z, HZ3, HKZ, HZb⟩ := boxes2 w2 #[.slice q.a1 R1.ino.length q.c1, .slice q.a2 R1.opn.length q.c2, .slice q.a3 R1.made.length q.c3] #[.int .i64 code, .int .i64 fd, .int .i64 num, .bool dir, .string data, .slice z names.length k] 26 32
 have HSo : Hid (Sv W3 q R1 ∧ Bd R1) := ⟨hsv.kept HKZ.out, hbd⟩
 have HK3 : Hid (Kept [] W1 W3) := (HK1.out.trans k2 (by simp)).trans HKZ.out (by simp)
 have HB3 : Hid (W3.heap[X]? = some (.cells #[.slice p.a1 S.ino.length p.c1, .slice p.a2 S.opn.length p.c2, .slice p.a3 S.made.length p.c3] 26 (0, 0)) ∧ W3.heap[X + 1]? = some (.cells #[.int .i64 c.kind, .int .i64 c.core, .int .i64 c.fd, .int .i64 c.off, .int .i64 c.num, .string c.path, .string c.path2, .string c.data] 28 (0, 0))) := ⟨((k2.trans HKZ.out (by simp)).block _ (lt_of_heap HB1.out.1) (by simp)).trans HB1.out.1, ((k2.trans HKZ.out (by simp)).block _ (lt_of_heap HB1.out.2) (by simp)).trans HB1.out.2⟩
 clear k2 hsv ho hbd
 go_upto_region 4 with fail
 rw [HZ3.out.1, HZ3.out.2]
 clear HZ3 HB1 HK1
 obtain ⟨y0, y1, y2, y3, y4, y5, y6, y7⟩ := cells8D HB3.out.2
 obtain ⟨x0, x1, x2⟩ := cells3D HB3.out.1
 obtain ⟨o0, o1, o2⟩ := cells3D HZb.out.1
 obtain ⟨r0, r1, r2, r3, r4, r5⟩ := cells6D HZb.out.2.1
 have HSs : Hid (Ss W3 z names) := hss.kept HKZ.out
 have HAl : Hid (Calls Tryz.prog 9 #[.agg #[.slice p.a1 S.ino.length p.c1, .slice p.a2 S.opn.length p.c2, .slice p.a3 S.made.length p.c3], .agg #[.int .i64 c.kind, .int .i64 c.core, .int .i64 c.fd, .int .i64 c.off, .int .i64 c.num, .string c.path, .string c.path2, .string c.data], .agg #[.int .i64 code, .int .i64 fd, .int .i64 num, .bool dir, .string data, .slice z names.length k]] W3 (Tells W3 (R1, true))) := by
   have := p_Allows (HS.out.1.kept HK3.out) (HS.out.2.2.kept HK3.out) HS.out.2.1 c HZ.out ⟨code, fd, num, dir, data, names⟩ (cr := k) rfl HSs.out
   rw [hal] at this
   exact this
 clear hal hsr hss
 go_wp2_with fail
 refine (HAl.out).mono ?_
 clear x0 x1 x2 o0 o1 o2 r0 r1 r2 r3 r4 r5 y0 y1 y2 y3 y4 y5 y6 y7
 rintro e w4 ⟨t1, t2, t3, et, rfl, ho4, k4, hbd4⟩
 dsimp only at ho4 hbd4 ⊢
 obtain ⟨q4, e1, e2, e3, hsv4, -⟩ := ho4.sv hbd4
 subst e1 e2 e3
 obtain ⟨W5, Y, HY, HYk, HYb⟩ := boxR w4 #[.slice q4.a1 R1.ino.length q4.c1, .slice q4.a2 R1.opn.length q4.c2, .slice q4.a3 R1.made.length q4.c3] 26
 have HP5 : Hid (Calls Tryz.prog 10 #[.agg #[.slice q.a1 R1.ino.length q.c1, .slice q.a2 R1.opn.length q.c2, .slice q.a3 R1.made.length q.c3], .agg #[.slice q4.a1 R1.ino.length q4.c1, .slice q4.a2 R1.opn.length q4.c2, .slice q4.a3 R1.made.length q4.c3]] W5 fun e w' => e = .returned (.bool true) ∧ Kept [] W5 w') := r_plain ((HSo.out.1.kept k4).kept HYk.out) (hsv4.kept HYk.out)
 have HK35 : Hid (Kept [] W3 W5) := k4.trans HYk.out (by simp)
 obtain ⟨o0, o1, o2⟩ := cells3D ((HK35.out.block _ (lt_of_heap HZb.out.1) (by simp)).trans HZb.out.1)
 obtain ⟨g0, g1, g2⟩ := cells3D HYb.out
 clear k4 hsv4 ho4 hbd4
 go_upto_region 5 with fail
 rw [HY.out.1, HY.out.2]
 clear HY HYk HYb
 go_wp2_with fail
 refine (HP5.out).mono ?_
 rintro e w6 ⟨rfl, k6⟩
 have HK6 : Hid (Kept [] W1 w6 ∧ Kept [] w w6 ∧ Ss w6 z names) := ⟨(HK3.out.trans HK35.out (by simp)).trans k6 (by simp), HKX.out.trans ((HK3.out.trans HK35.out (by simp)).trans k6 (by simp)) (by simp), (HSs.out.kept HK35.out).kept k6⟩
 have HB6 : Hid (w6.heap[X]? = some (.cells #[.slice p.a1 S.ino.length p.c1, .slice p.a2 S.opn.length p.c2, .slice p.a3 S.made.length p.c3] 26 (0, 0)) ∧ w6.heap[X + 1]? = some (.cells #[.int .i64 c.kind, .int .i64 c.core, .int .i64 c.fd, .int .i64 c.off, .int .i64 c.num, .string c.path, .string c.path2, .string c.data] 28 (0, 0)) ∧ w6.heap[Z + 1]? = some (.cells #[.int .i64 code, .int .i64 fd, .int .i64 num, .bool dir, .string data, .slice z names.length k] 32 (0, 0))) := by
   have kk := HK35.out.trans k6 (by simp)
   exact ⟨(kk.block _ (lt_of_heap HB3.out.1) (by simp)).trans HB3.out.1, (kk.block _ (lt_of_heap HB3.out.2) (by simp)).trans HB3.out.2, (kk.block _ (lt_of_heap HZb.out.2.1) (by simp)).trans HZb.out.2.1⟩
 clear o0 o1 o2 g0 g1 g2 k6 HP5 HAl HK35 HSs HKX HB3 HZb HKZ HSo HK3
 obtain ⟨y0, -⟩ := cells8D HB6.out.2.1
 obtain ⟨r0, -⟩ := cells6D HB6.out.2.2
 by_cases hk : c.kind = 2
 · have tk : (c.kind != 2) = false := by simpa using hk
   by_cases hc : code = 0
   · have tc : (code != 0) = false := by simpa using hc
     have HFr : Hid (∀ fd, (allowsR S c ⟨code, fd, num, dir, data, names⟩).2 = true ↔ 0 ≤ fd ∧ fd < 4 ∧ ∀ d ∈ S.opn, d.1 ≠ c.core ∨ d.2.1 ≠ fd) := HF.out hk hc
     have n2 : S.opn.length ≤ 5864062014634 := HS.out.2.1.n2
     clear HF hk hc
     go_wp2_with fail
     clear y0 r0 tk tc
     go_loopw [9] (fun i wr => ∃ f : Int, i = .int .i64 f ∧ -1 ≤ f ∧ f ≤ 5 ∧ Hid (Kept [] w6 wr)) (fun i _ => (5 - intOf i).toNat)
     case atStart => exact ⟨-1, rfl, by omega, by omega, Kept.refl _ _⟩
     case round =>
       obtain ⟨f, rfl, hf0, hf1, HJ⟩ := hrel
       by_cases hlt : f ≤ 4
       · go_upto_region 12 with fail
         go_cut [10] from 46 to 97 (fun v wx => ∃ b : Bool, v = .bool b ∧ Hid (b = decide (0 ≤ f ∧ f < 4)) ∧ wx = wr)
         case first =>
           by_cases g0 : 0 ≤ f
           · by_cases g1 : f < 4
             · go_wp2_with fail
               go_meet
               case rel => exact ⟨_, rfl, (decide_eq_true (p := 0 ≤ f ∧ f < 4) (by omega)).symm, rfl⟩
             · go_wp2_with fail
               go_meet
               case rel => exact ⟨_, rfl, (decide_eq_false (p := 0 ≤ f ∧ f < 4) (by omega)).symm, rfl⟩
           · go_wp2_with fail
             go_meet
             case rel => exact ⟨_, rfl, (decide_eq_false (p := 0 ≤ f ∧ f < 4) (by omega)).symm, rfl⟩
         case rest =>
           obtain ⟨b0, rfl, Hb0, rfl⟩ := hcut
           go_wp2_with fail
           go_loopw [10, 11] (fun v i wr => ∃ (m : Nat) (b : Bool), v = .bool b ∧ i = .int .i64 (m : Int) ∧ m ≤ S.opn.length ∧ Hid (Kept [] w6 wr ∧ (b = true ↔ (0 ≤ f ∧ f < 4) ∧ ∀ d ∈ S.opn.take m, d.1 ≠ c.core ∨ d.2.1 ≠ f))) (fun _ i _ => (S.opn.length - intOf i).toNat)
           case atStart => exact ⟨0, b0, rfl, rfl, by omega, HJ.out, by rw [Hb0.out]; simp⟩
           case round =>
             obtain ⟨m, b, rfl, rfl, hm, HQ⟩ := hrel
             obtain ⟨x0, x1, x2⟩ := cells3D ((HQ.out.1.block _ (lt_of_heap HB6.out.1) (by simp)).trans HB6.out.1)
             by_cases hlm : m < S.opn.length
             · have l0 : (0 : Int) ≤ (m : Int) := by omega
               have l1 : (m : Int) < (S.opn.length : Int) := by omega
               rcases b with _ | _
               · have HN : Hid (Kept [] w6 wr ∧ (false = true ↔ (0 ≤ f ∧ f < 4) ∧ ∀ d ∈ S.opn.take (m + 1), d.1 ≠ c.core ∨ d.2.1 ≠ f)) := ⟨HQ.out.1, ⟨fun h => (by cases h), fun h => HQ.out.2.2 ⟨h.1, fun d hd => h.2 d (List.mem_of_mem_take (i := m) (by rw [List.take_take, Nat.min_eq_left (by omega)]; exact hd))⟩⟩⟩
                 clear HQ
                 go_wp2_with fail
                 go_quiet (fail)
                 go_wp2
                 go_roundw
                 case rel => exact ⟨m + 1, false, rfl, by go_num, by omega, HN.out.1.drewN _, HN.out.2⟩
                 case measure => simp [intOf]; omega
               · obtain ⟨g, og, hg, e0, e1, -⟩ := (HS.out.1.kept (HK6.out.1.trans HQ.out.1 (by simp))).des m hlm
                 obtain ⟨y0, y1, -⟩ := cells8D ((HQ.out.1.block _ (lt_of_heap HB6.out.2.1) (by simp)).trans HB6.out.2.1)
                 rw [hg] at x1
                 have HTk : Hid (S.opn.take (m + 1) = S.opn.take m ++ [S.opn[m]]) := List.take_succ_eq_append_getElem hlm
                 obtain ⟨d, hd⟩ : ∃ d, S.opn[m] = d := ⟨_, rfl⟩
                 rw [hd] at e0 e1 HTk
                 have HG : Hid (_) := hg
                 clear hg hd
                 have HW : Hid (Kept [] w6 wr ∧ ((0 ≤ f ∧ f < 4) ∧ ∀ d ∈ S.opn.take m, d.1 ≠ c.core ∨ d.2.1 ≠ f)) := ⟨HQ.out.1, HQ.out.2.1 rfl⟩
                 clear HQ
                 by_cases hcore : d.1 = c.core
                 · have tq : (d.1 != c.core) = false := by simpa using hcore
                   by_cases hfd : d.2.1 = f
                   · have tr : (d.2.1 != f) = false := by simpa using hfd
                     have HN : Hid (false = true ↔ (0 ≤ f ∧ f < 4) ∧ ∀ d ∈ S.opn.take (m + 1), d.1 ≠ c.core ∨ d.2.1 ≠ f) := ⟨fun h => (by cases h), fun h => by
                       have := h.2 d (by rw [HTk.out]; simp)
                       rcases this with e | e
                       · exact absurd hcore e
                       · exact absurd hfd e⟩
                     clear hcore hfd
                     go_wp2_with fail
                     go_quiet (fail)
                     go_wp2
                     go_roundw
                     case rel => exact ⟨m + 1, false, rfl, by go_num, by omega, HW.out.1.drewN _, HN.out⟩
                     case measure => simp [intOf]; omega
                   · have tr : (d.2.1 != f) = true := by simpa using hfd
                     have HN : Hid (true = true ↔ (0 ≤ f ∧ f < 4) ∧ ∀ d ∈ S.opn.take (m + 1), d.1 ≠ c.core ∨ d.2.1 ≠ f) := ⟨fun _ => ⟨HW.out.2.1, fun x hx => by
                       rw [HTk.out, List.mem_append, List.mem_singleton] at hx
                       rcases hx with hx | rfl
                       · exact HW.out.2.2 x hx
                       · exact Or.inr hfd⟩, fun _ => rfl⟩
                     clear hcore hfd
                     go_wp2_with fail
                     go_quiet (fail)
                     go_wp2
                     go_roundw
                     case rel => exact ⟨m + 1, true, rfl, by go_num, by omega, HW.out.1.drewN _, by simpa using HN.out⟩
                     case measure => simp [intOf]; omega
                 · have tq : (d.1 != c.core) = true := by simpa using hcore
                   have HN : Hid (true = true ↔ (0 ≤ f ∧ f < 4) ∧ ∀ d ∈ S.opn.take (m + 1), d.1 ≠ c.core ∨ d.2.1 ≠ f) := ⟨fun _ => ⟨HW.out.2.1, fun x hx => by
                     rw [HTk.out, List.mem_append, List.mem_singleton] at hx
                     rcases hx with hx | rfl
                     · exact HW.out.2.2 x hx
                     · exact Or.inl hcore⟩, fun _ => rfl⟩
                   clear hcore
                   go_wp2_with fail
                   go_quiet (fail)
                   go_wp2
                   go_roundw
                   case rel => exact ⟨m + 1, true, rfl, by go_num, by omega, HW.out.1.drewN _, by simpa using HN.out⟩
                   case measure => simp [intOf]; omega
             · have l1 : ¬ (m : Int) < (S.opn.length : Int) := by omega
               have hbm : b = (allowsR S c ⟨code, f, num, dir, data, names⟩).2 := by
                 rw [Bool.eq_iff_iff, HQ.out.2, HFr.out f, List.take_of_length_le (by omega), and_assoc]
               obtain ⟨may, hmay⟩ : ∃ may, (allowsR S c ⟨code, f, num, dir, data, names⟩) = may := ⟨_, rfl⟩
               rw [hmay] at hbm
               subst hbm
               obtain ⟨r0, r1, r2, r3, r4, r5⟩ := cells6D ((HQ.out.1.block _ (lt_of_heap HB6.out.2.2) (by simp)).trans HB6.out.2.2)
               obtain ⟨V1, Q, HQ1, HQk, HQb⟩ := boxR wr #[.int .i64 code, .int .i64 f, .int .i64 num, .bool dir, .string data, .slice z names.length k] 32
               have HKq : Hid (Kept [] w6 V1) := HQ.out.1.trans HQk.out (by simp)
               have HAl : Hid (Calls Tryz.prog 9 #[.agg #[.slice p.a1 S.ino.length p.c1, .slice p.a2 S.opn.length p.c2, .slice p.a3 S.made.length p.c3], .agg #[.int .i64 c.kind, .int .i64 c.core, .int .i64 c.fd, .int .i64 c.off, .int .i64 c.num, .string c.path, .string c.path2, .string c.data], .agg #[.int .i64 code, .int .i64 f, .int .i64 num, .bool dir, .string data, .slice z names.length k]] V1 (Tells V1 may)) := by
                 have kk := HK6.out.1.trans HKq.out (by simp)
                 have := p_Allows (HS.out.1.kept kk) (HS.out.2.2.kept kk) HS.out.2.1 c HZ.out ⟨code, f, num, dir, data, names⟩ (cr := k) rfl (HK6.out.2.2.kept HKq.out)
                 rw [hmay] at this
                 exact this
               clear hmay HQ
               go_upto_region 19 with fail
               rw [HQ1.out.1, HQ1.out.2]
               clear x0 x1 x2 r0 r1 r2 r3 r4 r5
               obtain ⟨x0, x1, x2⟩ := cells3D ((HKq.out.block _ (lt_of_heap HB6.out.1) (by simp)).trans HB6.out.1)
               obtain ⟨y0, y1, y2, y3, y4, y5, y6, y7⟩ := cells8D ((HKq.out.block _ (lt_of_heap HB6.out.2.1) (by simp)).trans HB6.out.2.1)
               obtain ⟨r0, r1, r2, r3, r4, r5⟩ := cells6D HQb.out
               clear HQ1
               go_wp2_with fail
               refine (HAl.out).mono ?_
               rintro e w8 ⟨t1, t2, t3, et, rfl, ho8, k8, -⟩
               have hform := forms_any ho8
               obtain ⟨za1, zl1, zc1, za2, zl2, zc2, za3, zl3, zc3, rfl, rfl, rfl⟩ := hform
               have HK8 : Hid (Kept [] w6 w8) := HKq.out.trans k8 (by simp)
               obtain ⟨mS, mB⟩ := may
               dsimp only at *
               have tm : (mB != mB) = false := by simp
               clear x0 x1 x2 r0 r1 r2 r3 r4 r5 y0 y1 y2 y3 y4 y5 y6 y7 ho8 k8 HAl
               go_wp2_with fail
               go_roundw
               case rel => exact ⟨f + 1, by go_num, by omega, by omega, HK8.out.alloc _⟩
               case measure => simp [intOf]; omega
       · go_wp2_with fail
         go_ret
         exact ⟨rfl, HK6.out.2.1.trans HJ.out (by simp)⟩
   · have tc : (code != 0) = true := by simpa using hc
     go_wp2_with fail
     go_ret
     exact ⟨rfl, HK6.out.2.1⟩
 · have tk : (c.kind != 2) = true := by simpa using hk
   go_wp2_with fail
   go_ret
   exact ⟨rfl, HK6.out.2.1⟩
end Go.Proofs.YtmeafancgmkfkaaGreatDoor
