/-
  Joined of my texts Deep Sm Pn Fo Kv Kw Kx Ky Kz La Lb Lc Ld Le Lf Lg Lh Li Lj Lk Kp.
-/
import Derived.Test.YtmeafancgmkfkaaGreatDoorJo44
import Derived.Test.YtmeafancgmkfkaaGreatDoorJo3
import Derived.Test.YtmeafancgmkfkaaGreatDoorJo4
import Derived.Deep.RegionHeld3
import Derived.Deep.CutRange
import Derived.BigQuiet
import Derived.Test.YtmeafancgmkfkaaGreatDoorJo26
import Derived.Test.YtmeafancgmkfkaaGreatDoorJo37
import Derived.Test.YtmeafancgmkfkaaGreatDoorJo42
import Derived.Deep.CutBlock
namespace Go.Proofs.YtmeafancgmkfkaaGreatDoor
open Go.RowKit
set_option linter.unusedVariables false
set_option linter.unusedSimpArgs false
theorem cells3D {w : World} {X : Nat} {v1 v2 v3 : Value} {T : TypeId} (h : w.heap[X]? = some (.cells #[v1, v2, v3] T (0, 0))) : w.cell? ⟨X, 0, none⟩ = some v1 ∧ w.cell? ⟨X, 1, none⟩ = some v2 ∧ w.cell? ⟨X, 2, none⟩ = some v3 := ⟨cellB h, cellB h, cellB h⟩
theorem cells8D {w : World} {X : Nat} {v0 v1 v2 v3 v4 v5 v6 v7 : Value} {T : TypeId} (h : w.heap[X]? = some (.cells #[v0, v1, v2, v3, v4, v5, v6, v7] T (0, 0))) : w.cell? ⟨X, 0, none⟩ = some v0 ∧ w.cell? ⟨X, 1, none⟩ = some v1 ∧ w.cell? ⟨X, 2, none⟩ = some v2 ∧ w.cell? ⟨X, 3, none⟩ = some v3 ∧ w.cell? ⟨X, 4, none⟩ = some v4 ∧ w.cell? ⟨X, 5, none⟩ = some v5 ∧ w.cell? ⟨X, 6, none⟩ = some v6 ∧ w.cell? ⟨X, 7, none⟩ = some v7 := ⟨cellB h, cellB h, cellB h, cellB h, cellB h, cellB h, cellB h, cellB h⟩
end Go.Proofs.YtmeafancgmkfkaaGreatDoor

namespace Go.Proofs.YtmeafancgmkfkaaGreatDoor
open Go.RowKit
set_option linter.unusedVariables false
end Go.Proofs.YtmeafancgmkfkaaGreatDoor

namespace Go.Proofs.YtmeafancgmkfkaaGreatDoor
open Go.RowKit
set_option linter.unusedVariables false
set_option linter.unusedSimpArgs false
theorem neq_enP (a b : ByteArray) (x y : Int) (w : World) : (binOp .neq 66 (.agg #[.string a, .int .i64 x]) (.agg #[.string b, .int .i64 y])).run Tryz.prog w = .ok (.bool (!(a.toList == b.toList && x == y))) w := by
 have u3 := Tryz.underlying3
 have a3 := Tryz.isAgg3
 have z3 := Tryz.sizeOf3
 have u9 := Tryz.underlying9
 have a9 := Tryz.isAgg9
 have z9 := Tryz.sizeOf9
 have hS : Tryz.prog.underlying 66 = some (.struct (Tryz.prog.fieldsOf 66)) := by kernel_rfl
 have hp : Tryz.prog.stoodInHeld 66 = false := by kernel_rfl
 rw [run_neq_struct, show (10000 : Nat) = 9999 + 1 from rfl, run_equalIn_agg w 9999 66 _ _ hS hp]
 simp only [Program.fieldsOf, Tryz.underlying66]
 go_simp
 by_cases h1 : a.toList = b.toList <;> by_cases h2 : x = y <;> simp [h1, h2]
theorem neq_enS (e : En) (w : World) : (binOp .neq 66 (.agg #[.string e.1, .int .i64 e.2]) (.agg #[.string e.1, .int .i64 e.2])).run Tryz.prog w = .ok (.bool false) w := by
 rw [neq_enP]
 simp
theorem neq_deP (a b c x y z : Int) (w : World) : (binOp .neq 39 (.agg #[.int .i64 a, .int .i64 b, .int .i64 c]) (.agg #[.int .i64 x, .int .i64 y, .int .i64 z])).run Tryz.prog w = .ok (.bool (!(a == x && (b == y && c == z)))) w := by
 have u3 := Tryz.underlying3
 have a3 := Tryz.isAgg3
 have z3 := Tryz.sizeOf3
 have hS : Tryz.prog.underlying 39 = some (.struct (Tryz.prog.fieldsOf 39)) := by kernel_rfl
 have hp : Tryz.prog.stoodInHeld 39 = false := by kernel_rfl
 rw [run_neq_struct, show (10000 : Nat) = 9999 + 1 from rfl, run_equalIn_agg w 9999 39 _ _ hS hp]
 simp only [Program.fieldsOf, Tryz.underlying39]
 go_simp
 by_cases h1 : a = x <;> by_cases h2 : b = y <;> by_cases h3 : c = z <;> simp [h1, h2, h3]
theorem neq_deS (e : Ds) (w : World) : (binOp .neq 39 (.agg #[.int .i64 e.1, .int .i64 e.2.1, .int .i64 e.2.2]) (.agg #[.int .i64 e.1, .int .i64 e.2.1, .int .i64 e.2.2])).run Tryz.prog w = .ok (.bool false) w := by
 rw [neq_deP]
 simp
theorem twoP (w : World) (c1 c2 : Array Value) (t1 t2 : TypeId) : ∃ W X, Hid ((w.alloc (.cells c1 t1 (0, 0))).alloc (.cells c2 t2 (0, 0)) = W ∧ w.heap.size = X) ∧ Hid (Kept [] w W) ∧ Hid (W.heap[X]? = some (.cells c1 t1 (0, 0)) ∧ W.heap[X + 1]? = some (.cells c2 t2 (0, 0)) ∧ W.heap.size = X + 1 + 1) := by
 have s1 : (w.alloc (.cells c1 t1 (0, 0))).heap.size = w.heap.size + 1 := by simp
 refine ⟨_, _, ⟨rfl, rfl⟩, ((Kept.refl [] w).alloc _).alloc _, ?_, ?_, by simp⟩
 · rw [Below.heap_alloc _ _ _ (by omega)]
   exact Go.heap_alloc_new _ _
 · have := Go.heap_alloc_new (w.alloc (.cells c1 t1 (0, 0))) (.cells c2 t2 (0, 0))
   rw [s1] at this
   exact this
theorem twoR (w : World) (o1 o2 : Obj) : Kept [] w ((w.alloc o1).alloc o2).drew ∧ ((w.alloc o1).alloc o2).drew.heap[w.heap.size]? = some o1 ∧ ((w.alloc o1).alloc o2).drew.heap[w.heap.size + 1]? = some o2 := by
 have s1 : (w.alloc o1).heap.size = w.heap.size + 1 := by simp
 refine ⟨(((Kept.refl [] w).alloc _).alloc _).drew, ?_, ?_⟩
 · show ((w.alloc o1).alloc o2).heap[w.heap.size]? = some o1
   rw [Below.heap_alloc _ _ _ (by omega)]
   exact Go.heap_alloc_new _ _
 · show ((w.alloc o1).alloc o2).heap[w.heap.size + 1]? = some o2
   have := Go.heap_alloc_new (w.alloc o1) o2
   rw [s1] at this
   exact this
set_option maxRecDepth 100000 in
set_option maxHeartbeats 8000000 in
theorem r_plain {w : World} {p q : Pl} {S : Sta} (h1 : Sv w p S) (h2 : Sv w q S) :
   Calls Tryz.prog 10 #[sval p S, sval q S] w fun e w' => e = .returned (.bool true) ∧ Kept [] w w' := by
 obtain ⟨W1, X, HX, HKX, HXb⟩ := twoP w #[.slice p.a1 S.ino.length p.c1, .slice p.a2 S.opn.length p.c2, .slice p.a3 S.made.length p.c3] #[.slice q.a1 S.ino.length q.c1, .slice q.a2 S.opn.length q.c2, .slice q.a3 S.made.length q.c3] 26 26
 have HS1 : Hid (Sv W1 p S) := h1.kept HKX.out
 have HS2 : Hid (Sv W1 q S) := h2.kept HKX.out
 have n1 : S.ino.length ≤ 140737488355328 := h1.n1
 have n2 : S.opn.length ≤ 140737488355328 := h1.n2
 have n3 : S.made.length ≤ 140737488355328 := h1.n3
 have HN4 : Hid (∀ x ∈ S.ino, x.ents.length ≤ 140737488355328) := h1.n4
 have t1 : (((S.ino.length : Nat) : Int) != ((S.ino.length : Nat) : Int)) = false := by simp
 have t2 : (((S.opn.length : Nat) : Int) != ((S.opn.length : Nat) : Int)) = false := by simp
 have t3 : (((S.made.length : Nat) : Int) != ((S.made.length : Nat) : Int)) = false := by simp
 clear h1 h2
 go_enter Tryz.func10, Tryz.ntmps10
 go_upto_region 1 with fail
 rw [HX.out.1, HX.out.2]
 have a0 : W1.cell? ⟨X, 0, none⟩ = some (.slice p.a1 S.ino.length p.c1) := cellB HXb.out.1
 have a1 : W1.cell? ⟨X, 1, none⟩ = some (.slice p.a2 S.opn.length p.c2) := cellB HXb.out.1
 have a2 : W1.cell? ⟨X, 2, none⟩ = some (.slice p.a3 S.made.length p.c3) := cellB HXb.out.1
 have b0 : W1.cell? ⟨X + 1, 0, none⟩ = some (.slice q.a1 S.ino.length q.c1) := cellB HXb.out.2.1
 have b1 : W1.cell? ⟨X + 1, 1, none⟩ = some (.slice q.a2 S.opn.length q.c2) := cellB HXb.out.2.1
 have b2 : W1.cell? ⟨X + 1, 2, none⟩ = some (.slice q.a3 S.made.length q.c3) := cellB HXb.out.2.1
 go_wp2_with fail
 have HA : Hid ((W1.cell? ⟨X, 0, none⟩ = some (.slice p.a1 S.ino.length p.c1) ∧ W1.cell? ⟨X, 1, none⟩ = some (.slice p.a2 S.opn.length p.c2) ∧ W1.cell? ⟨X, 2, none⟩ = some (.slice p.a3 S.made.length p.c3)) ∧ (W1.cell? ⟨X + 1, 0, none⟩ = some (.slice q.a1 S.ino.length q.c1) ∧ W1.cell? ⟨X + 1, 1, none⟩ = some (.slice q.a2 S.opn.length q.c2) ∧ W1.cell? ⟨X + 1, 2, none⟩ = some (.slice q.a3 S.made.length q.c3))) := ⟨⟨a0, a1, a2⟩, b0, b1, b2⟩
 clear a0 a1 a2 b0 b1 b2
 go_loopw [5] (fun i wr => ∃ n : Nat, i = .int .i64 (n : Int) ∧ n ≤ S.ino.length ∧ Hid (Kept [] W1 wr)) (fun i _ => (S.ino.length - intOf i).toNat)
 case atStart => exact ⟨0, rfl, by omega, Kept.refl _ _⟩
 case round =>
   obtain ⟨n, rfl, hn, HK⟩ := hrel
   have a0 := HK.out.cell HA.out.1.1 (by simp)
   have b0 := HK.out.cell HA.out.2.1 (by simp)
   by_cases hlt : n < S.ino.length
   · have j0 : (0 : Int) ≤ (n : Int) := by omega
     have j1 : (n : Int) < (S.ino.length : Int) := by omega
     obtain ⟨b, o, ae, ce, ha, q0, q1, q2, q3, q4, -, -⟩ := (HS1.out.kept HK.out).ino n hlt
     obtain ⟨c, u, be, de, hb, p0, p1, p2, p3, p4, -, -⟩ := (HS2.out.kept HK.out).ino n hlt
     rw [ha] at a0
     rw [hb] at b0
     have hel : (S.ino[n]).ents.length ≤ 140737488355328 := HN4.out _ (List.getElem_mem hlt)
     obtain ⟨x, hx⟩ : ∃ x, S.ino[n] = x := ⟨_, rfl⟩
     rw [hx] at q0 q1 q2 q3 q4 p0 p1 p2 p3 p4 hel
     have HE : Hid (EntA wr ae x.ents ∧ EntA wr be x.ents) := ⟨q4, p4⟩
     have HP : Hid (p.a1 = some ⟨b, o, none⟩ ∧ q.a1 = some ⟨c, u, none⟩) := ⟨ha, hb⟩
     have t4 : (x.num != x.num) = false := by simp
     have t5 : (x.dir != x.dir) = false := by simp
     have t6 : (((x.ents.length : Nat) : Int) != ((x.ents.length : Nat) : Int)) = false := by simp
     have HXX : Hid (_) := hx
     clear q4 p4 ha hb hx
     go_upto_region 6 with fail
     go_cut [6, 7] from 36 to 98 (fun s t wx => ∃ Y Z : Nat, s = .pointer (some ⟨Y, 0, none⟩) ∧ t = .pointer (some ⟨Z, 0, none⟩) ∧ Hid (Kept [] wr wx ∧ wx.heap[Y]? = some (.cells #[.int .i64 x.num, .bool x.dir, .slice ae x.ents.length ce, .string x.data] 64 (0, 0)) ∧ wx.heap[Z]? = some (.cells #[.int .i64 x.num, .bool x.dir, .slice be x.ents.length de, .string x.data] 64 (0, 0))))
     case first =>
       go_region_held3 (fun w' => w'.cell? ⟨X, 0, none⟩ = some (.slice (some ⟨b, o, none⟩) S.ino.length p.c1) ∧ w'.cell? ⟨X + 1, 0, none⟩ = some (.slice (some ⟨c, u, none⟩) S.ino.length q.c1) ∧ w'.cell? ⟨b, o + n * 4, none⟩ = some (.int .i64 x.num) ∧ w'.cell? ⟨b, o + n * 4 + 1, none⟩ = some (.bool x.dir) ∧ w'.cell? ⟨b, o + n * 4 + 2, none⟩ = some (.slice ae x.ents.length ce) ∧ w'.cell? ⟨b, o + n * 4 + 3, none⟩ = some (.string x.data) ∧ w'.cell? ⟨c, u + n * 4, none⟩ = some (.int .i64 x.num) ∧ w'.cell? ⟨c, u + n * 4 + 1, none⟩ = some (.bool x.dir) ∧ w'.cell? ⟨c, u + n * 4 + 2, none⟩ = some (.slice be x.ents.length de) ∧ w'.cell? ⟨c, u + n * 4 + 3, none⟩ = some (.string x.data)) (go_keep) (fail)
       · go_wp2
         go_meet
         case rel => exact ⟨_, _, rfl, rfl, twoR wr _ _⟩
       · go_wp2
         go_meet
         case rel => exact ⟨_, _, rfl, rfl, (twoR wr _ _).1, (twoR wr _ _).2.2, (twoR wr _ _).2.1⟩
     case rest =>
       obtain ⟨Y, Z, rfl, rfl, HC⟩ := hcut
       have c0 : wc.cell? ⟨Y, 0, none⟩ = some (.int .i64 x.num) := cellB HC.out.2.1
       have c1 : wc.cell? ⟨Y, 1, none⟩ = some (.bool x.dir) := cellB HC.out.2.1
       have c2 : wc.cell? ⟨Y, 2, none⟩ = some (.slice ae x.ents.length ce) := cellB HC.out.2.1
       have c3 : wc.cell? ⟨Y, 3, none⟩ = some (.string x.data) := cellB HC.out.2.1
       have d0 : wc.cell? ⟨Z, 0, none⟩ = some (.int .i64 x.num) := cellB HC.out.2.2
       have d1 : wc.cell? ⟨Z, 1, none⟩ = some (.bool x.dir) := cellB HC.out.2.2
       have d2 : wc.cell? ⟨Z, 2, none⟩ = some (.slice be x.ents.length de) := cellB HC.out.2.2
       have d3 : wc.cell? ⟨Z, 3, none⟩ = some (.string x.data) := cellB HC.out.2.2
       clear a0 b0 q0 q1 q2 q3 p0 p1 p2 p3
       go_wp2_with fail
       have HD : Hid (wc.cell? ⟨Y, 2, none⟩ = some (.slice ae x.ents.length ce) ∧ wc.cell? ⟨Z, 2, none⟩ = some (.slice be x.ents.length de)) := ⟨c2, d2⟩
       clear c0 c1 c2 c3 d0 d1 d2 d3
       go_loopw [8] (fun k wq => ∃ m : Nat, k = .int .i64 (m : Int) ∧ m ≤ x.ents.length ∧ Hid (Kept [] wc wq)) (fun k _ => (x.ents.length - intOf k).toNat)
       case atStart => exact ⟨0, rfl, by omega, Kept.refl _ _⟩
       case round =>
         obtain ⟨m, rfl, hm, HQ⟩ := hrel
         have c2 := HQ.out.cell HD.out.1 (by simp)
         have d2 := HQ.out.cell HD.out.2 (by simp)
         by_cases hlm : m < x.ents.length
         · have l0 : (0 : Int) ≤ (m : Int) := by omega
           have l1 : (m : Int) < (x.ents.length : Int) := by omega
           obtain ⟨g, og, hg, e0, e1⟩ := ((HE.out.1.kept HC.out.1).kept HQ.out) m hlm
           obtain ⟨h, oh, hh, f0, f1⟩ := ((HE.out.2.kept HC.out.1).kept HQ.out) m hlm
           rw [hg] at c2
           rw [hh] at d2
           have hne := neq_enS x.ents[m]
           have HG : Hid (_ ∧ _) := ⟨hg, hh⟩
           clear hg hh
           obtain ⟨y, hy⟩ : ∃ y, x.ents[m] = y := ⟨_, rfl⟩
           rw [hy] at hne e0 e1 f0 f1
           clear hy
           go_wp2_with fail
           go_quiet (fail)
           go_wp2
           go_roundw
           case rel => exact ⟨m + 1, by go_num, by omega, HQ.out.drewN _⟩
           case measure => simp [intOf]; omega
         · have l1 : ¬ (m : Int) < (x.ents.length : Int) := by omega
           have HK2 : Hid (Kept [] W1 wr) := (HK.out.trans HC.out.1 (by simp)).trans HQ.out (by simp)
           go_wp2_with fail
           go_roundw
           case rel => exact ⟨n + 1, by go_num, by omega, HK2.out⟩
           case measure => simp [intOf]; omega
   · have j1 : ¬ (n : Int) < (S.ino.length : Int) := by omega
     go_wp2_with fail
     clear a0 b0
     have HKa := HK
     go_loopw [9] (fun i wr => ∃ m : Nat, i = .int .i64 (m : Int) ∧ m ≤ S.opn.length ∧ Hid (Kept [] W1 wr)) (fun i _ => (S.opn.length - intOf i).toNat)
     case atStart => exact ⟨0, rfl, by omega, HKa.out⟩
     case round =>
       obtain ⟨m, rfl, hm, HQ⟩ := hrel
       have a1 := HQ.out.cell HA.out.1.2.1 (by simp)
       have b1 := HQ.out.cell HA.out.2.2.1 (by simp)
       by_cases hlm : m < S.opn.length
       · have l0 : (0 : Int) ≤ (m : Int) := by omega
         have l1 : (m : Int) < (S.opn.length : Int) := by omega
         obtain ⟨g, og, hg, e0, e1, e2⟩ := (HS1.out.kept HQ.out).des m hlm
         obtain ⟨h, oh, hh, f0, f1, f2⟩ := (HS2.out.kept HQ.out).des m hlm
         rw [hg] at a1
         rw [hh] at b1
         have hne := neq_deS S.opn[m]
         have HG : Hid (_ ∧ _) := ⟨hg, hh⟩
         clear hg hh
         obtain ⟨y, hy⟩ : ∃ y, S.opn[m] = y := ⟨_, rfl⟩
         rw [hy] at hne e0 e1 e2 f0 f1 f2
         clear hy
         go_wp2_with fail
         go_quiet (fail)
         go_wp2
         go_roundw
         case rel => exact ⟨m + 1, by go_num, by omega, HQ.out.drewN _⟩
         case measure => simp [intOf]; omega
       · have l1 : ¬ (m : Int) < (S.opn.length : Int) := by omega
         go_wp2_with fail
         clear a1 b1
         have HKb := HQ
         go_loopw [10] (fun i wv => ∃ k : Nat, i = .int .i64 (k : Int) ∧ k ≤ S.made.length ∧ Hid (Kept [] W1 wv)) (fun i _ => (S.made.length - intOf i).toNat)
         case atStart => exact ⟨0, rfl, by omega, HKb.out⟩
         case round =>
           obtain ⟨k, rfl, hk, HV⟩ := hrel
           have a2 := HV.out.cell HA.out.1.2.2 (by simp)
           have b2 := HV.out.cell HA.out.2.2.2 (by simp)
           by_cases hlk : k < S.made.length
           · have k0 : (0 : Int) ≤ (k : Int) := by omega
             have k1 : (k : Int) < (S.made.length : Int) := by omega
             obtain ⟨g, og, hg, e0⟩ := (HS1.out.kept HV.out).mad k hlk
             obtain ⟨h, oh, hh, f0⟩ := (HS2.out.kept HV.out).mad k hlk
             rw [hg] at a2
             rw [hh] at b2
             have HG : Hid (_ ∧ _) := ⟨hg, hh⟩
             clear hg hh
             obtain ⟨y, hy⟩ : ∃ y, S.made[k] = y := ⟨_, rfl⟩
             rw [hy] at e0 f0
             have t9 : (y != y) = false := by simp
             clear hy
             go_wp2_with fail
             go_quiet (fail)
             go_wp2
             go_roundw
             case rel => exact ⟨k + 1, by go_num, by omega, HV.out.drewN _⟩
             case measure => simp [intOf]; omega
           · have k1 : ¬ (k : Int) < (S.made.length : Int) := by omega
             go_wp2_with fail
             go_ret
             exact ⟨rfl, HKX.out.trans HV.out (by simp)⟩
end Go.Proofs.YtmeafancgmkfkaaGreatDoor

namespace Go.Proofs.YtmeafancgmkfkaaGreatDoor
open Go.RowKit
set_option linter.unusedVariables false
end Go.Proofs.YtmeafancgmkfkaaGreatDoor

namespace Go.Proofs.YtmeafancgmkfkaaGreatDoor
open Go.RowKit
set_option linter.unusedVariables false
end Go.Proofs.YtmeafancgmkfkaaGreatDoor

namespace Go.Proofs.YtmeafancgmkfkaaGreatDoor
open Go.RowKit
set_option linter.unusedVariables false
end Go.Proofs.YtmeafancgmkfkaaGreatDoor

namespace Go.Proofs.YtmeafancgmkfkaaGreatDoor
open Go.RowKit
set_option linter.unusedVariables false
end Go.Proofs.YtmeafancgmkfkaaGreatDoor

namespace Go.Proofs.YtmeafancgmkfkaaGreatDoor
open Go.RowKit
set_option linter.unusedVariables false
end Go.Proofs.YtmeafancgmkfkaaGreatDoor

namespace Go.Proofs.YtmeafancgmkfkaaGreatDoor
open Go.RowKit
set_option linter.unusedVariables false
end Go.Proofs.YtmeafancgmkfkaaGreatDoor

namespace Go.Proofs.YtmeafancgmkfkaaGreatDoor
open Go.RowKit
set_option linter.unusedVariables false
end Go.Proofs.YtmeafancgmkfkaaGreatDoor

namespace Go.Proofs.YtmeafancgmkfkaaGreatDoor
open Go.RowKit
set_option linter.unusedVariables false
end Go.Proofs.YtmeafancgmkfkaaGreatDoor

namespace Go.Proofs.YtmeafancgmkfkaaGreatDoor
open Go.RowKit
set_option linter.unusedVariables false
end Go.Proofs.YtmeafancgmkfkaaGreatDoor

namespace Go.Proofs.YtmeafancgmkfkaaGreatDoor
open Go.RowKit
set_option linter.unusedVariables false
theorem head_mem (l : List Int) (h : l ≠ []) : headI l ∈ l := by
 cases l with
 | nil => exact absurd rfl h
 | cons a l => exact List.mem_cons_self
end Go.Proofs.YtmeafancgmkfkaaGreatDoor

namespace Go.Proofs.YtmeafancgmkfkaaGreatDoor
open Go.RowKit
set_option linter.unusedVariables false
end Go.Proofs.YtmeafancgmkfkaaGreatDoor

namespace Go.Proofs.YtmeafancgmkfkaaGreatDoor
open Go.RowKit
set_option linter.unusedVariables false
end Go.Proofs.YtmeafancgmkfkaaGreatDoor

namespace Go.Proofs.YtmeafancgmkfkaaGreatDoor
open Go.RowKit
set_option linter.unusedVariables false
end Go.Proofs.YtmeafancgmkfkaaGreatDoor

namespace Go.Proofs.YtmeafancgmkfkaaGreatDoor
open Go.RowKit
set_option linter.unusedVariables false
end Go.Proofs.YtmeafancgmkfkaaGreatDoor

namespace Go.Proofs.YtmeafancgmkfkaaGreatDoor
open Go.RowKit
set_option linter.unusedVariables false
end Go.Proofs.YtmeafancgmkfkaaGreatDoor

namespace Go.Proofs.YtmeafancgmkfkaaGreatDoor
open Go.RowKit
set_option linter.unusedVariables false
theorem play_pick {S : Sta} {c : Cal} {p q : List Int → Int} (h : c.kind = 2 → p (freeR S.opn c.core) = q (freeR S.opn c.core)) : playR S c p = playR S c q := by
 have : doR S c p = doR S c q := by
   unfold doR
   by_cases e : c.kind = 2
   · simp only [e]
     unfold openR
     rw [h e]
   · simp only [e, if_false]
 unfold playR
 rw [this]
theorem told_in {xs : List Int} {z : Int} (h : z ∈ xs) : toldI xs z = z := by
 unfold toldI ixW
 rw [if_pos]
 rw [List.findIdx?_isSome]
 simpa using h
theorem told_mem {xs : List Int} (h : xs ≠ []) (z : Int) : toldI xs z ∈ xs := by
 unfold toldI
 split
 · rename_i q
   unfold ixW at q
   rw [List.findIdx?_isSome] at q
   simpa using q
 · exact head_mem xs h
theorem sameA_refl (a : Ans) : sameA a a = true := by unfold sameA; simp
theorem open_ok {S : Sta} {c : Cal} {pick : List Int → Int} (hk : c.kind = 2) (h : (playR S c pick).2.code = 0) : freeR S.opn c.core ≠ [] ∧ ∀ p : List Int → Int, (playR S c p).2 = ⟨0, p (freeR S.opn c.core), 0, false, ⟨#[]⟩, []⟩ := by
 have hd : ∀ p, doR S c p = openR S c p := fun p => by unfold doR; simp [hk]
 have e0 : ∀ e : Int, (ansR S (.error e)).2.code = e := fun e => rfl
 by_cases hq : mayB S = true ∧ 0 ≤ c.core ∧ c.core < (S.made.length : Int)
 · have hp : ∀ p, playR S c p = ansR S (openR S c p) := fun p => by unfold playR; rw [if_pos hq, hd p]
   rw [hp] at h
   unfold openR at h
   by_cases c1 : (findR S.ino c.path).2 = 0
   · rw [if_neg (fun x => x c1)] at h
     by_cases c2 : dirOf S.ino (findR S.ino c.path).1 = true
     · rw [if_pos c2, e0] at h; cases h
     · rw [if_neg c2] at h
       by_cases c3 : freeR S.opn c.core = []
       · rw [if_pos c3, e0] at h; cases h
       · refine ⟨c3, fun p => ?_⟩
         rw [hp]
         unfold openR
         rw [if_neg (fun x => x c1), if_neg c2, if_neg c3]
         rfl
   · rw [if_pos c1, e0] at h
     exact absurd h c1
 · unfold playR at h
   rw [if_neg hq] at h
   cases h
theorem open_err {S : Sta} {c : Cal} {q : List Int → Int} (hk : c.kind = 2) (h : (playR S c q).2.code ≠ 0) (p : List Int → Int) : playR S c p = playR S c q := by
 have hd : ∀ p, doR S c p = openR S c p := fun p => by unfold doR; simp [hk]
 by_cases hq : mayB S = true ∧ 0 ≤ c.core ∧ c.core < (S.made.length : Int)
 · have hp : ∀ p, playR S c p = ansR S (openR S c p) := fun p => by unfold playR; rw [if_pos hq, hd p]
   rw [hp] at h
   rw [hp, hp]
   unfold openR at h ⊢
   by_cases c1 : (findR S.ino c.path).2 = 0
   · have c1' : ¬ (findR S.ino c.path).2 ≠ 0 := fun x => x c1
     simp only [if_neg c1'] at h ⊢
     by_cases c2 : dirOf S.ino (findR S.ino c.path).1 = true
     · simp only [if_pos c2]
     · simp only [if_neg c2] at h ⊢
       by_cases c3 : freeR S.opn c.core = []
       · simp only [if_pos c3]
       · simp only [if_neg c3] at h
         exact absurd rfl h
   · simp only [if_pos c1]
 · unfold playR
   rw [if_neg hq, if_neg hq]
theorem own_allowed (S : Sta) (c : Cal) : allowsR S c (playR S c headI).2 = ((playR S c headI).1, true) := by
 have e : playR S c (fun xs => toldI xs (playR S c headI).2.fd) = playR S c headI := by
   by_cases hk : c.kind = 2
   · by_cases hc : (playR S c headI).2.code = 0
     · refine play_pick fun _ => ?_
       obtain ⟨hf, ho⟩ := open_ok hk hc
       rw [ho headI]
       exact told_in (head_mem _ hf)
     · exact open_err hk hc _
   · exact play_pick fun q => absurd q hk
 unfold allowsR
 rw [e, sameA_refl]
 rfl
theorem free_mem {D : List Ds} {c f : Int} : ∀ {n : Nat}, f ∈ freeN D c n ↔ 0 ≤ f ∧ f < n ∧ fdP D c f = none
 | 0 => by unfold freeN; simp; omega
 | n + 1 => by
   unfold freeN
   split
   · rename_i hq
     rw [List.mem_append, free_mem, List.mem_singleton]
     constructor
     · rintro (⟨a, b, c⟩ | rfl)
       · exact ⟨a, by omega, c⟩
       · exact ⟨by omega, by omega, by simpa using hq⟩
     · rintro ⟨a, b, c⟩
       by_cases e : f = n
       · exact Or.inr e
       · exact Or.inl ⟨a, by omega, c⟩
   · rename_i hq
     rw [free_mem]
     constructor
     · rintro ⟨a, b, c⟩
       exact ⟨a, by omega, c⟩
     · rintro ⟨a, b, c⟩
       refine ⟨a, ?_, c⟩
       by_cases e : f = n
       · exfalso
         subst e
         rw [c] at hq
         exact hq rfl
       · omega
theorem own_free {S : Sta} {c : Cal} (hk : c.kind = 2) (h : (playR S c headI).2.code = 0) (fd : Int) : (allowsR S c { (playR S c headI).2 with fd := fd }).2 = true ↔ 0 ≤ fd ∧ fd < 4 ∧ ∀ d ∈ S.opn, d.1 ≠ c.core ∨ d.2.1 ≠ fd := by
 obtain ⟨hf, ho⟩ := open_ok hk h
 have e1 : ((allowsR S c { (playR S c headI).2 with fd := fd }).2 = true) ↔ fd ∈ freeR S.opn c.core := by
   unfold allowsR
   dsimp only
   rw [ho headI, ho (fun xs => toldI xs fd)]
   dsimp only
   have e2 : sameA ⟨0, toldI (freeR S.opn c.core) fd, 0, false, ⟨#[]⟩, []⟩ ⟨0, fd, 0, false, ⟨#[]⟩, []⟩ = (toldI (freeR S.opn c.core) fd == fd) := by
     unfold sameA
     simp
   rw [e2]
   constructor
   · intro q
     split at q
     · rename_i q2
       have q3 : toldI (freeR S.opn c.core) fd = fd := by simpa using q2
       rw [← q3]
       exact told_mem hf fd
     · cases q
   · intro q
     rw [told_in q]
     simp
 rw [e1]
 unfold freeR
 rw [free_mem]
 refine and_congr_right fun _ => and_congr (by omega) ?_
 unfold fdP
 rw [List.findIdx?_eq_none_iff]
 refine forall_congr' fun d => imp_congr_right fun _ => ?_
 rw [Bool.and_eq_false_iff, beq_eq_false_iff_ne, beq_eq_false_iff_ne]
end Go.Proofs.YtmeafancgmkfkaaGreatDoor

namespace Go.Proofs.YtmeafancgmkfkaaGreatDoor
open Go.RowKit
set_option linter.unusedVariables false
end Go.Proofs.YtmeafancgmkfkaaGreatDoor

namespace Go.Proofs.YtmeafancgmkfkaaGreatDoor
open Go.RowKit
set_option linter.unusedVariables false
set_option linter.unusedSimpArgs false
theorem cells6D {w : World} {X : Nat} {v0 v1 v2 v3 v4 v5 : Value} {T : TypeId} (h : w.heap[X]? = some (.cells #[v0, v1, v2, v3, v4, v5] T (0, 0))) : w.cell? ⟨X, 0, none⟩ = some v0 ∧ w.cell? ⟨X, 1, none⟩ = some v1 ∧ w.cell? ⟨X, 2, none⟩ = some v2 ∧ w.cell? ⟨X, 3, none⟩ = some v3 ∧ w.cell? ⟨X, 4, none⟩ = some v4 ∧ w.cell? ⟨X, 5, none⟩ = some v5 := ⟨cellB h, cellB h, cellB h, cellB h, cellB h, cellB h⟩
end Go.Proofs.YtmeafancgmkfkaaGreatDoor
