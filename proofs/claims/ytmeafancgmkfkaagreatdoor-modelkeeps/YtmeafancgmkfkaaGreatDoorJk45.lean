/-
  Joined of my texts Deep Sm Pn Fo Kv.
-/
import Derived.Test.YtmeafancgmkfkaaGreatDoorJk44
import Derived.Test.YtmeafancgmkfkaaGreatDoorJk3
import Derived.Test.YtmeafancgmkfkaaGreatDoorJk4
import Derived.Deep.RegionHeld3
import Derived.Deep.CutRange
import Derived.BigQuiet
import Derived.Test.YtmeafancgmkfkaaGreatDoorJk26
import Derived.Test.YtmeafancgmkfkaaGreatDoorJk37
namespace Go.Proofs.YtmeafancgmkfkaaGreatDoor
open Go.RowKit
set_option linter.unusedVariables false
set_option linter.unusedSimpArgs false
theorem cells3D {w : World} {X : Nat} {v1 v2 v3 : Value} {T : TypeId} (h : w.heap[X]? = some (.cells #[v1, v2, v3] T (0, 0))) : w.cell? ⟨X, 0, none⟩ = some v1 ∧ w.cell? ⟨X, 1, none⟩ = some v2 ∧ w.cell? ⟨X, 2, none⟩ = some v3 := ⟨cellB h, cellB h, cellB h⟩
theorem cells8D {w : World} {X : Nat} {v0 v1 v2 v3 v4 v5 v6 v7 : Value} {T : TypeId} (h : w.heap[X]? = some (.cells #[v0, v1, v2, v3, v4, v5, v6, v7] T (0, 0))) : w.cell? ⟨X, 0, none⟩ = some v0 ∧ w.cell? ⟨X, 1, none⟩ = some v1 ∧ w.cell? ⟨X, 2, none⟩ = some v2 ∧ w.cell? ⟨X, 3, none⟩ = some v3 ∧ w.cell? ⟨X, 4, none⟩ = some v4 ∧ w.cell? ⟨X, 5, none⟩ = some v5 ∧ w.cell? ⟨X, 6, none⟩ = some v6 ∧ w.cell? ⟨X, 7, none⟩ = some v7 := ⟨cellB h, cellB h, cellB h, cellB h, cellB h, cellB h, cellB h, cellB h⟩
structure Hb (w0 w : World) (X : Nat) (v1 v2 v3 : Value) (ev : List Value) (S : Sta) : Prop where
 box : w.heap[X]? = some (.cells #[v1, v2, v3] 26 (0, 0))
 os : Os w w0.heap.size v1 v2 v3 ev S
 off : Off [X] v1 v2 v3 ev
 lo : w0.heap.size ≤ X
 k : Kept [] w0 w
end Go.Proofs.YtmeafancgmkfkaaGreatDoor

namespace Go.Proofs.YtmeafancgmkfkaaGreatDoor
open Go.RowKit
set_option linter.unusedVariables false
set_option maxRecDepth 100000 in
set_option maxHeartbeats 8000000 in
theorem r_same {w : World} (code : Int) (z : Option Addr) (k : Nat) :
   Calls Tryz.prog 11 #[.agg #[.int .i64 code, .int .i64 0, .int .i64 0, .bool false, .string ⟨#[]⟩, .slice z 0 k], .agg #[.int .i64 code, .int .i64 0, .int .i64 0, .bool false, .string ⟨#[]⟩, .slice none 0 0]] w fun e w' => e = .returned (.bool true) ∧ Kept [] w w' := by
 obtain ⟨W1, X, HX, HKX, HXb⟩ := boxes2 w #[.int .i64 code, .int .i64 0, .int .i64 0, .bool false, .string ⟨#[]⟩, .slice z 0 k] #[.int .i64 code, .int .i64 0, .int .i64 0, .bool false, .string ⟨#[]⟩, .slice none 0 0] 32 32
 go_enter Tryz.func11, Tryz.ntmps11
 go_upto_region 1 with fail
 rw [HX.out.1, HX.out.2]
 have a0 : W1.cell? ⟨X, 0, none⟩ = some (.int .i64 code) := cellB HXb.out.1
 have a1 : W1.cell? ⟨X, 1, none⟩ = some (.int .i64 0) := cellB HXb.out.1
 have a2 : W1.cell? ⟨X, 2, none⟩ = some (.int .i64 0) := cellB HXb.out.1
 have a3 : W1.cell? ⟨X, 3, none⟩ = some (.bool false) := cellB HXb.out.1
 have a4 : W1.cell? ⟨X, 4, none⟩ = some (.string ⟨#[]⟩) := cellB HXb.out.1
 have a5 : W1.cell? ⟨X, 5, none⟩ = some (.slice z 0 k) := cellB HXb.out.1
 have b0 : W1.cell? ⟨X + 1, 0, none⟩ = some (.int .i64 code) := cellB HXb.out.2.1
 have b1 : W1.cell? ⟨X + 1, 1, none⟩ = some (.int .i64 0) := cellB HXb.out.2.1
 have b2 : W1.cell? ⟨X + 1, 2, none⟩ = some (.int .i64 0) := cellB HXb.out.2.1
 have b3 : W1.cell? ⟨X + 1, 3, none⟩ = some (.bool false) := cellB HXb.out.2.1
 have b4 : W1.cell? ⟨X + 1, 4, none⟩ = some (.string ⟨#[]⟩) := cellB HXb.out.2.1
 have b5 : W1.cell? ⟨X + 1, 5, none⟩ = some (.slice none 0 0) := cellB HXb.out.2.1
 go_wp2_with fail
 go_loopw [5] (fun i wr => i = .int .i64 0 ∧ W1 = wr) (fun _ _ => 0)
 case atStart => exact ⟨rfl, rfl⟩
 case round =>
   obtain ⟨rfl, rfl⟩ := hrel
   go_wp2_with fail
   go_ret
   exact ⟨rfl, HKX.out⟩
end Go.Proofs.YtmeafancgmkfkaaGreatDoor

namespace Go.Proofs.YtmeafancgmkfkaaGreatDoor
open Go.RowKit
set_option linter.unusedVariables false
set_option linter.unusedSimpArgs false
theorem neq_enP (a b : ByteArray) (x y : Int) (w : World) : (binOp .neq 66 (.agg #[.string a, .int .i64 x]) (.agg #[.string b, .int .i64 y])).run Tryz.prog w = .ok (.bool (!(a.toList == b.toList && x == y))) w := by
 have u3 := Tryz.underlying3
 have a3 := Tryz.isAgg3
 have z3 := Tryz.sizeOf3
 have u9 := Tryz.underlying9
 have a9 := Tryz.isAgg9
 have z9 := Tryz.sizeOf9
 have hS : Tryz.prog.underlying 66 = some (.struct (Tryz.prog.fieldsOf 66)) := by kernel_rfl
 have hp : Tryz.prog.stoodInHeld 66 = false := by kernel_rfl
 rw [run_neq_struct, show (10000 : Nat) = 9999 + 1 from rfl, run_equalIn_agg w 9999 66 _ _ hS hp]
 simp only [Program.fieldsOf, Tryz.underlying66]
 go_simp
 by_cases h1 : a.toList = b.toList <;> by_cases h2 : x = y <;> simp [h1, h2]
theorem neq_enS (e : En) (w : World) : (binOp .neq 66 (.agg #[.string e.1, .int .i64 e.2]) (.agg #[.string e.1, .int .i64 e.2])).run Tryz.prog w = .ok (.bool false) w := by
 rw [neq_enP]
 simp
theorem neq_deP (a b c x y z : Int) (w : World) : (binOp .neq 39 (.agg #[.int .i64 a, .int .i64 b, .int .i64 c]) (.agg #[.int .i64 x, .int .i64 y, .int .i64 z])).run Tryz.prog w = .ok (.bool (!(a == x && (b == y && c == z)))) w := by
 have u3 := Tryz.underlying3
 have a3 := Tryz.isAgg3
 have z3 := Tryz.sizeOf3
 have hS : Tryz.prog.underlying 39 = some (.struct (Tryz.prog.fieldsOf 39)) := by kernel_rfl
 have hp : Tryz.prog.stoodInHeld 39 = false := by kernel_rfl
 rw [run_neq_struct, show (10000 : Nat) = 9999 + 1 from rfl, run_equalIn_agg w 9999 39 _ _ hS hp]
 simp only [Program.fieldsOf, Tryz.underlying39]
 go_simp
 by_cases h1 : a = x <;> by_cases h2 : b = y <;> by_cases h3 : c = z <;> simp [h1, h2, h3]
theorem neq_deS (e : Ds) (w : World) : (binOp .neq 39 (.agg #[.int .i64 e.1, .int .i64 e.2.1, .int .i64 e.2.2]) (.agg #[.int .i64 e.1, .int .i64 e.2.1, .int .i64 e.2.2])).run Tryz.prog w = .ok (.bool false) w := by
 rw [neq_deP]
 simp
theorem twoP (w : World) (c1 c2 : Array Value) (t1 t2 : TypeId) : ∃ W X, Hid ((w.alloc (.cells c1 t1 (0, 0))).alloc (.cells c2 t2 (0, 0)) = W ∧ w.heap.size = X) ∧ Hid (Kept [] w W) ∧ Hid (W.heap[X]? = some (.cells c1 t1 (0, 0)) ∧ W.heap[X + 1]? = some (.cells c2 t2 (0, 0)) ∧ W.heap.size = X + 1 + 1) := by
 have s1 : (w.alloc (.cells c1 t1 (0, 0))).heap.size = w.heap.size + 1 := by simp
 refine ⟨_, _, ⟨rfl, rfl⟩, ((Kept.refl [] w).alloc _).alloc _, ?_, ?_, by simp⟩
 · rw [Below.heap_alloc _ _ _ (by omega)]
   exact Go.heap_alloc_new _ _
 · have := Go.heap_alloc_new (w.alloc (.cells c1 t1 (0, 0))) (.cells c2 t2 (0, 0))
   rw [s1] at this
   exact this
theorem twoR (w : World) (o1 o2 : Obj) : Kept [] w ((w.alloc o1).alloc o2).drew ∧ ((w.alloc o1).alloc o2).drew.heap[w.heap.size]? = some o1 ∧ ((w.alloc o1).alloc o2).drew.heap[w.heap.size + 1]? = some o2 := by
 have s1 : (w.alloc o1).heap.size = w.heap.size + 1 := by simp
 refine ⟨(((Kept.refl [] w).alloc _).alloc _).drew, ?_, ?_⟩
 · show ((w.alloc o1).alloc o2).heap[w.heap.size]? = some o1
   rw [Below.heap_alloc _ _ _ (by omega)]
   exact Go.heap_alloc_new _ _
 · show ((w.alloc o1).alloc o2).heap[w.heap.size + 1]? = some o2
   have := Go.heap_alloc_new (w.alloc o1) o2
   rw [s1] at this
   exact this
set_option maxRecDepth 100000 in
set_option maxHeartbeats 8000000 in
theorem r_plain {w : World} {p q : Pl} {S : Sta} (h1 : Sv w p S) (h2 : Sv w q S) :
   Calls Tryz.prog 10 #[sval p S, sval q S] w fun e w' => e = .returned (.bool true) ∧ Kept [] w w' := by
 obtain ⟨W1, X, HX, HKX, HXb⟩ := twoP w #[.slice p.a1 S.ino.length p.c1, .slice p.a2 S.opn.length p.c2, .slice p.a3 S.made.length p.c3] #[.slice q.a1 S.ino.length q.c1, .slice q.a2 S.opn.length q.c2, .slice q.a3 S.made.length q.c3] 26 26
 have HS1 : Hid (Sv W1 p S) := h1.kept HKX.out
 have HS2 : Hid (Sv W1 q S) := h2.kept HKX.out
 have n1 : S.ino.length ≤ 140737488355328 := h1.n1
 have n2 : S.opn.length ≤ 140737488355328 := h1.n2
 have n3 : S.made.length ≤ 140737488355328 := h1.n3
 have HN4 : Hid (∀ x ∈ S.ino, x.ents.length ≤ 140737488355328) := h1.n4
 have t1 : (((S.ino.length : Nat) : Int) != ((S.ino.length : Nat) : Int)) = false := by simp
 have t2 : (((S.opn.length : Nat) : Int) != ((S.opn.length : Nat) : Int)) = false := by simp
 have t3 : (((S.made.length : Nat) : Int) != ((S.made.length : Nat) : Int)) = false := by simp
 clear h1 h2
 go_enter Tryz.func10, Tryz.ntmps10
 go_upto_region 1 with fail
 rw [HX.out.1, HX.out.2]
 have a0 : W1.cell? ⟨X, 0, none⟩ = some (.slice p.a1 S.ino.length p.c1) := cellB HXb.out.1
 have a1 : W1.cell? ⟨X, 1, none⟩ = some (.slice p.a2 S.opn.length p.c2) := cellB HXb.out.1
 have a2 : W1.cell? ⟨X, 2, none⟩ = some (.slice p.a3 S.made.length p.c3) := cellB HXb.out.1
 have b0 : W1.cell? ⟨X + 1, 0, none⟩ = some (.slice q.a1 S.ino.length q.c1) := cellB HXb.out.2.1
 have b1 : W1.cell? ⟨X + 1, 1, none⟩ = some (.slice q.a2 S.opn.length q.c2) := cellB HXb.out.2.1
 have b2 : W1.cell? ⟨X + 1, 2, none⟩ = some (.slice q.a3 S.made.length q.c3) := cellB HXb.out.2.1
 go_wp2_with fail
 have HA : Hid ((W1.cell? ⟨X, 0, none⟩ = some (.slice p.a1 S.ino.length p.c1) ∧ W1.cell? ⟨X, 1, none⟩ = some (.slice p.a2 S.opn.length p.c2) ∧ W1.cell? ⟨X, 2, none⟩ = some (.slice p.a3 S.made.length p.c3)) ∧ (W1.cell? ⟨X + 1, 0, none⟩ = some (.slice q.a1 S.ino.length q.c1) ∧ W1.cell? ⟨X + 1, 1, none⟩ = some (.slice q.a2 S.opn.length q.c2) ∧ W1.cell? ⟨X + 1, 2, none⟩ = some (.slice q.a3 S.made.length q.c3))) := ⟨⟨a0, a1, a2⟩, b0, b1, b2⟩
 clear a0 a1 a2 b0 b1 b2
 go_loopw [5] (fun i wr => ∃ n : Nat, i = .int .i64 (n : Int) ∧ n ≤ S.ino.length ∧ Hid (Kept [] W1 wr)) (fun i _ => (S.ino.length - intOf i).toNat)
 case atStart => exact ⟨0, rfl, by omega, Kept.refl _ _⟩
 case round =>
   obtain ⟨n, rfl, hn, HK⟩ := hrel
   have a0 := HK.out.cell HA.out.1.1 (by simp)
   have b0 := HK.out.cell HA.out.2.1 (by simp)
   by_cases hlt : n < S.ino.length
   · have j0 : (0 : Int) ≤ (n : Int) := by omega
     have j1 : (n : Int) < (S.ino.length : Int) := by omega
     obtain ⟨b, o, ae, ce, ha, q0, q1, q2, q3, q4, -, -⟩ := (HS1.out.kept HK.out).ino n hlt
     obtain ⟨c, u, be, de, hb, p0, p1, p2, p3, p4, -, -⟩ := (HS2.out.kept HK.out).ino n hlt
     rw [ha] at a0
     rw [hb] at b0
     have hel : (S.ino[n]).ents.length ≤ 140737488355328 := HN4.out _ (List.getElem_mem hlt)
     obtain ⟨x, hx⟩ : ∃ x, S.ino[n] = x := ⟨_, rfl⟩
     rw [hx] at q0 q1 q2 q3 q4 p0 p1 p2 p3 p4 hel
     have HE : Hid (EntA wr ae x.ents ∧ EntA wr be x.ents) := ⟨q4, p4⟩
     have HP : Hid (p.a1 = some ⟨b, o, none⟩ ∧ q.a1 = some ⟨c, u, none⟩) := ⟨ha, hb⟩
     have t4 : (x.num != x.num) = false := by simp
     have t5 : (x.dir != x.dir) = false := by simp
     have t6 : (((x.ents.length : Nat) : Int) != ((x.ents.length : Nat) : Int)) = false := by simp
     have HXX : Hid (_) := hx
     clear q4 p4 ha hb hx
     go_upto_region 6 with fail
     go_cut [6, 7] from 36 to 98 (fun s t wx => ∃ Y Z : Nat, s = .pointer (some ⟨Y, 0, none⟩) ∧ t = .pointer (some ⟨Z, 0, none⟩) ∧ Hid (Kept [] wr wx ∧ wx.heap[Y]? = some (.cells #[.int .i64 x.num, .bool x.dir, .slice ae x.ents.length ce, .string x.data] 64 (0, 0)) ∧ wx.heap[Z]? = some (.cells #[.int .i64 x.num, .bool x.dir, .slice be x.ents.length de, .string x.data] 64 (0, 0))))
     case first =>
       go_region_held3 (fun w' => w'.cell? ⟨X, 0, none⟩ = some (.slice (some ⟨b, o, none⟩) S.ino.length p.c1) ∧ w'.cell? ⟨X + 1, 0, none⟩ = some (.slice (some ⟨c, u, none⟩) S.ino.length q.c1) ∧ w'.cell? ⟨b, o + n * 4, none⟩ = some (.int .i64 x.num) ∧ w'.cell? ⟨b, o + n * 4 + 1, none⟩ = some (.bool x.dir) ∧ w'.cell? ⟨b, o + n * 4 + 2, none⟩ = some (.slice ae x.ents.length ce) ∧ w'.cell? ⟨b, o + n * 4 + 3, none⟩ = some (.string x.data) ∧ w'.cell? ⟨c, u + n * 4, none⟩ = some (.int .i64 x.num) ∧ w'.cell? ⟨c, u + n * 4 + 1, none⟩ = some (.bool x.dir) ∧ w'.cell? ⟨c, u + n * 4 + 2, none⟩ = some (.slice be x.ents.length de) ∧ w'.cell? ⟨c, u + n * 4 + 3, none⟩ = some (.string x.data)) (go_keep) (fail)
       · go_wp2
         go_meet
         case rel => exact ⟨_, _, rfl, rfl, twoR wr _ _⟩
       · go_wp2
         go_meet
         case rel => exact ⟨_, _, rfl, rfl, (twoR wr _ _).1, (twoR wr _ _).2.2, (twoR wr _ _).2.1⟩
     case rest =>
       obtain ⟨Y, Z, rfl, rfl, HC⟩ := hcut
       have c0 : wc.cell? ⟨Y, 0, none⟩ = some (.int .i64 x.num) := cellB HC.out.2.1
       have c1 : wc.cell? ⟨Y, 1, none⟩ = some (.bool x.dir) := cellB HC.out.2.1
       have c2 : wc.cell? ⟨Y, 2, none⟩ = some (.slice ae x.ents.length ce) := cellB HC.out.2.1
       have c3 : wc.cell? ⟨Y, 3, none⟩ = some (.string x.data) := cellB HC.out.2.1
       have d0 : wc.cell? ⟨Z, 0, none⟩ = some (.int .i64 x.num) := cellB HC.out.2.2
       have d1 : wc.cell? ⟨Z, 1, none⟩ = some (.bool x.dir) := cellB HC.out.2.2
       have d2 : wc.cell? ⟨Z, 2, none⟩ = some (.slice be x.ents.length de) := cellB HC.out.2.2
       have d3 : wc.cell? ⟨Z, 3, none⟩ = some (.string x.data) := cellB HC.out.2.2
       clear a0 b0 q0 q1 q2 q3 p0 p1 p2 p3
       go_wp2_with fail
       have HD : Hid (wc.cell? ⟨Y, 2, none⟩ = some (.slice ae x.ents.length ce) ∧ wc.cell? ⟨Z, 2, none⟩ = some (.slice be x.ents.length de)) := ⟨c2, d2⟩
       clear c0 c1 c2 c3 d0 d1 d2 d3
       go_loopw [8] (fun k wq => ∃ m : Nat, k = .int .i64 (m : Int) ∧ m ≤ x.ents.length ∧ Hid (Kept [] wc wq)) (fun k _ => (x.ents.length - intOf k).toNat)
       case atStart => exact ⟨0, rfl, by omega, Kept.refl _ _⟩
       case round =>
         obtain ⟨m, rfl, hm, HQ⟩ := hrel
         have c2 := HQ.out.cell HD.out.1 (by simp)
         have d2 := HQ.out.cell HD.out.2 (by simp)
         by_cases hlm : m < x.ents.length
         · have l0 : (0 : Int) ≤ (m : Int) := by omega
           have l1 : (m : Int) < (x.ents.length : Int) := by omega
           obtain ⟨g, og, hg, e0, e1⟩ := ((HE.out.1.kept HC.out.1).kept HQ.out) m hlm
           obtain ⟨h, oh, hh, f0, f1⟩ := ((HE.out.2.kept HC.out.1).kept HQ.out) m hlm
           rw [hg] at c2
           rw [hh] at d2
           have hne := neq_enS x.ents[m]
           have HG : Hid (_ ∧ _) := ⟨hg, hh⟩
           clear hg hh
           obtain ⟨y, hy⟩ : ∃ y, x.ents[m] = y := ⟨_, rfl⟩
           rw [hy] at hne e0 e1 f0 f1
           clear hy
           go_wp2_with fail
           go_quiet (fail)
           go_wp2
           go_roundw
           case rel => exact ⟨m + 1, by go_num, by omega, HQ.out.drewN _⟩
           case measure => simp [intOf]; omega
         · have l1 : ¬ (m : Int) < (x.ents.length : Int) := by omega
           have HK2 : Hid (Kept [] W1 wr) := (HK.out.trans HC.out.1 (by simp)).trans HQ.out (by simp)
           go_wp2_with fail
           go_roundw
           case rel => exact ⟨n + 1, by go_num, by omega, HK2.out⟩
           case measure => simp [intOf]; omega
   · have j1 : ¬ (n : Int) < (S.ino.length : Int) := by omega
     go_wp2_with fail
     clear a0 b0
     have HKa := HK
     go_loopw [9] (fun i wr => ∃ m : Nat, i = .int .i64 (m : Int) ∧ m ≤ S.opn.length ∧ Hid (Kept [] W1 wr)) (fun i _ => (S.opn.length - intOf i).toNat)
     case atStart => exact ⟨0, rfl, by omega, HKa.out⟩
     case round =>
       obtain ⟨m, rfl, hm, HQ⟩ := hrel
       have a1 := HQ.out.cell HA.out.1.2.1 (by simp)
       have b1 := HQ.out.cell HA.out.2.2.1 (by simp)
       by_cases hlm : m < S.opn.length
       · have l0 : (0 : Int) ≤ (m : Int) := by omega
         have l1 : (m : Int) < (S.opn.length : Int) := by omega
         obtain ⟨g, og, hg, e0, e1, e2⟩ := (HS1.out.kept HQ.out).des m hlm
         obtain ⟨h, oh, hh, f0, f1, f2⟩ := (HS2.out.kept HQ.out).des m hlm
         rw [hg] at a1
         rw [hh] at b1
         have hne := neq_deS S.opn[m]
         have HG : Hid (_ ∧ _) := ⟨hg, hh⟩
         clear hg hh
         obtain ⟨y, hy⟩ : ∃ y, S.opn[m] = y := ⟨_, rfl⟩
         rw [hy] at hne e0 e1 e2 f0 f1 f2
         clear hy
         go_wp2_with fail
         go_quiet (fail)
         go_wp2
         go_roundw
         case rel => exact ⟨m + 1, by go_num, by omega, HQ.out.drewN _⟩
         case measure => simp [intOf]; omega
       · have l1 : ¬ (m : Int) < (S.opn.length : Int) := by omega
         go_wp2_with fail
         clear a1 b1
         have HKb := HQ
         go_loopw [10] (fun i wv => ∃ k : Nat, i = .int .i64 (k : Int) ∧ k ≤ S.made.length ∧ Hid (Kept [] W1 wv)) (fun i _ => (S.made.length - intOf i).toNat)
         case atStart => exact ⟨0, rfl, by omega, HKb.out⟩
         case round =>
           obtain ⟨k, rfl, hk, HV⟩ := hrel
           have a2 := HV.out.cell HA.out.1.2.2 (by simp)
           have b2 := HV.out.cell HA.out.2.2.2 (by simp)
           by_cases hlk : k < S.made.length
           · have k0 : (0 : Int) ≤ (k : Int) := by omega
             have k1 : (k : Int) < (S.made.length : Int) := by omega
             obtain ⟨g, og, hg, e0⟩ := (HS1.out.kept HV.out).mad k hlk
             obtain ⟨h, oh, hh, f0⟩ := (HS2.out.kept HV.out).mad k hlk
             rw [hg] at a2
             rw [hh] at b2
             have HG : Hid (_ ∧ _) := ⟨hg, hh⟩
             clear hg hh
             obtain ⟨y, hy⟩ : ∃ y, S.made[k] = y := ⟨_, rfl⟩
             rw [hy] at e0 f0
             have t9 : (y != y) = false := by simp
             clear hy
             go_wp2_with fail
             go_quiet (fail)
             go_wp2
             go_roundw
             case rel => exact ⟨k + 1, by go_num, by omega, HV.out.drewN _⟩
             case measure => simp [intOf]; omega
           · have k1 : ¬ (k : Int) < (S.made.length : Int) := by omega
             go_wp2_with fail
             go_ret
             exact ⟨rfl, HKX.out.trans HV.out (by simp)⟩
end Go.Proofs.YtmeafancgmkfkaaGreatDoor

namespace Go.Proofs.YtmeafancgmkfkaaGreatDoor
open Go.RowKit
set_option linter.unusedVariables false
inductive Rch (L : List Ino) : Int → Prop
 | root : Rch L 1
 | kid {y z : Int} : Rch L y → z ∈ kids L y → Rch L z
theorem nodup_len {A B : List Int} (hn : A.Nodup) (hs : ∀ x ∈ A, x ∈ B) : A.length ≤ B.length := List.Nodup.length_le_of_subset hn hs
def Jc (L : List Ino) (n : Nat) (F : List Int) : Prop := ∀ i, i < n → ∀ y, F[i]? = some y → ∀ z ∈ kids L y, z ∈ F
theorem bfs_spec {L : List Ino} (h : Tr L) : ∀ (f n : Nat) (F : List Int), Jf L n F → Jc L n F → (∀ z ∈ F, Rch L z) → L.length + 1 ≤ f + n →
   ∃ G, bfs L f n F = G ∧ Jf L G.length G ∧ Jc L G.length G ∧ (∀ z ∈ G, Rch L z)
 | 0, n, F, j, c, r, hf => by
   exfalso
   have h1 := j.few
   have h2 := j.le
   omega
 | f + 1, n, F, j, c, r, hf => by
   by_cases hn : n < F.length
   · have hy : F[n]? = some F[n] := List.getElem?_eq_getElem hn
     rw [bfs_on hy]
     refine bfs_spec h f (n + 1) _ (j.step h hy) ?_ ?_ (by omega)
     · intro i hi y hi2 z hz
       by_cases e : i = n
       · subst e
         rw [List.getElem?_append_left hn, hy] at hi2
         obtain rfl := Option.some.inj hi2
         exact List.mem_append_right _ hz
       · have hiF : i < F.length := by omega
         rw [List.getElem?_append_left hiF] at hi2
         exact List.mem_append_left _ (c i (by omega) y hi2 z hz)
     · intro z hz
       rw [List.mem_append] at hz
       rcases hz with h1 | h1
       · exact r z h1
       · exact Rch.kid (r _ (List.getElem_mem hn)) h1
   · rw [bfs_end (by omega)]
     have e : n = F.length := by have := j.le; omega
     subst e
     exact ⟨F, rfl, j, c, r⟩
def dirNums (L : List Ino) : List Int := (L.filter Ino.dir).map Ino.num
theorem mem_dirNums {L : List Ino} (h : adj ltI L = true) {z : Int} : z ∈ dirNums L ↔ dirOf L z = true := by
 unfold dirNums
 rw [List.mem_map]
 constructor
 · rintro ⟨x, hx, rfl⟩
   rw [List.mem_filter] at hx
   obtain ⟨k, hk, rfl⟩ := List.getElem_of_mem hx.1
   unfold dirOf
   rw [at_num h hk]
   simp [hk, hx.2]
 · intro hd
   obtain ⟨k, hk, -, hn, hdd⟩ := dir_at hd
   exact ⟨L[k], List.mem_filter.2 ⟨List.getElem_mem hk, hdd⟩, hn⟩
theorem found_iff {L : List Ino} (h : Tr L) : foundB L = true ↔ ∀ z, dirOf L z = true → Rch L z := by
 obtain ⟨G, hG, j, c, r⟩ := bfs_spec h (L.length + 1) 0 [1] (Jf.start h) (fun i hi => by omega) (fun z hz => by rw [List.mem_singleton] at hz; subst hz; exact Rch.root) (by omega)
 have one : (1 : Int) ∈ G := List.mem_of_getElem? j.hd
 have comp : ∀ z, Rch L z → z ∈ G := fun z hz => by
   induction hz with
   | root => exact one
   | kid hy hk ih =>
     obtain ⟨i, hi, e⟩ := List.getElem_of_mem ih
     exact c i hi _ (by rw [List.getElem?_eq_getElem hi, e]) _ hk
 have hl : dirN L = (dirNums L).length := by unfold dirN dirNums; rw [List.length_map, List.countP_eq_length_filter]
 unfold foundB
 rw [hG, beq_iff_eq, hl]
 constructor
 · intro e z hz
   rcases Classical.em (z ∈ G) with h1 | h1
   · exact r z h1
   · exfalso
     have hn : (z :: G).Nodup := List.nodup_cons.2 ⟨h1, j.nd⟩
     have := nodup_len hn (B := dirNums L) fun x hx => by
       rcases List.mem_cons.1 hx with rfl | h2
       · exact (mem_dirNums h.row).2 hz
       · exact (mem_dirNums h.row).2 (j.dr x h2)
     rw [List.length_cons] at this
     omega
 · intro hr
   have h1 := nodup_len j.nd (B := dirNums L) fun x hx => (mem_dirNums h.row).2 (j.dr x hx)
   have hnd : (dirNums L).Nodup := by
     unfold dirNums
     rw [List.nodup_iff_pairwise_ne, List.pairwise_map]
     have hp : L.Pairwise fun a b => a.num ≠ b.num := by
       rw [List.pairwise_iff_getElem]
       intro i k hi hk hik e
       have := adj_lt h.row i k hi hk hik
       omega
     exact hp.sublist List.filter_sublist
   have h2 := nodup_len hnd (B := G) fun x hx => comp x (hr x ((mem_dirNums h.row).1 hx))
   omega
end Go.Proofs.YtmeafancgmkfkaaGreatDoor

namespace Go.Proofs.YtmeafancgmkfkaaGreatDoor
open Go.RowKit
set_option linter.unusedVariables false
def look (L : List Ino) (z : Int) : Option Ino := (atR L z).bind fun k => L[k]?
theorem look_mem {L : List Ino} (h : adj ltI L = true) {z : Int} {x : Ino} : look L z = some x ↔ x ∈ L ∧ x.num = z := by
 unfold look
 constructor
 · intro e
   rcases ha : atR L z with _ | k
   · rw [ha] at e; cases e
   · rw [ha] at e
     obtain ⟨hk, hn⟩ := at_get ha
     simp only [Option.bind_some, List.getElem?_eq_getElem hk, Option.some.injEq] at e
     subst e
     exact ⟨List.getElem_mem hk, hn⟩
 · rintro ⟨hx, rfl⟩
   obtain ⟨k, hk, rfl⟩ := List.getElem_of_mem hx
   rw [at_num h hk]
   simp [hk]
theorem look_dir (L : List Ino) (z : Int) : dirOf L z = ((look L z).map Ino.dir).getD false := by
 unfold dirOf look
 rcases ha : atR L z with _ | k
 · rfl
 · obtain ⟨hk, -⟩ := at_get ha
   simp [hk]
theorem look_ents (L : List Ino) (z : Int) : entsOf L z = ((look L z).map Ino.ents).getD [] := by
 unfold entsOf look
 rcases ha : atR L z with _ | k
 · rfl
 · obtain ⟨hk, -⟩ := at_get ha
   simp [hk]
structure Vw (S : Sta) : Prop where
 made : madeB S.made = true
 row : adj ltI S.ino = true
 root : ∃ x, S.ino[0]? = some x ∧ x.num = 1 ∧ x.dir = true
 gv : ∀ x ∈ S.ino, x.num ≠ 1 → 2 ≤ x.num ∧ givenB S.made x.num = true
 ino : ∀ x ∈ S.ino, inoB S.ino x = true
 opn : adj ltD S.opn = true
 des : ∀ d ∈ S.opn, desB S d = true
 held : ∀ x ∈ S.ino, x.num ≠ 1 → helB S x = true
 fnd : ∀ z, dirOf S.ino z = true → Rch S.ino z
theorem may_view {S : Sta} : mayB S = true ↔ Vw S := by
 constructor
 · intro h
   have hw := wel_of h
   obtain ⟨hM, hN, hI, hO, hH, hF⟩ := may_iff.1 h
   obtain ⟨h0, n0, d0, ha, hg⟩ := nums_iff.1 hN
   unfold opensB at hO
   rw [Bool.and_eq_true] at hO
   have tl : ∀ x ∈ S.ino, x.num ≠ 1 → ∃ j, ∃ hj : j + 1 < S.ino.length, x = S.ino[j + 1] := fun x hx hn => by
     obtain ⟨k, hk, rfl⟩ := List.getElem_of_mem hx
     cases k with
     | zero => exact absurd n0 hn
     | succ j => exact ⟨j, hk, rfl⟩
   refine ⟨hM, ha, ⟨S.ino[0], List.getElem?_eq_getElem h0, n0, d0⟩, fun x hx hn => ?_, fun x hx => List.all_eq_true.1 hI x hx, hO.1, fun d hd => List.all_eq_true.1 hO.2 d hd, fun x hx hn => ?_, (found_iff hw.tr).1 hF⟩
   · obtain ⟨j, hj, rfl⟩ := tl x hx hn
     have := adj_lt ha 0 (j + 1) h0 hj (by omega)
     exact ⟨by omega, hg j hj⟩
   · obtain ⟨j, hj, rfl⟩ := tl x hx hn
     exact (held_iff.1 hH) j hj
 · intro v
   obtain ⟨x0, hx0, n0, d0⟩ := v.root
   obtain ⟨h0, e0⟩ := List.getElem?_eq_some_iff.1 hx0
   subst e0
   have ne : ∀ j (hj : j + 1 < S.ino.length), (S.ino[j + 1]).num ≠ 1 := fun j hj e => by
     have := adj_lt v.row 0 (j + 1) h0 hj (by omega)
     omega
   have hN : numsB S.ino S.made = true := nums_iff.2 ⟨h0, n0, d0, v.row, fun j hj => (v.gv _ (List.getElem_mem hj) (ne j hj)).2⟩
   have hI : inosB S.ino = true := List.all_eq_true.2 v.ino
   have hH : heldB S = true := held_iff.2 fun j hj => v.held _ (List.getElem_mem hj) (ne j hj)
   have hO : opensB S = true := by unfold opensB; rw [Bool.and_eq_true]; exact ⟨v.opn, List.all_eq_true.2 v.des⟩
   exact may_iff.2 ⟨v.made, hN, hI, hO, hH, (found_iff (tr_of hN hI hH)).2 v.fnd⟩
theorem cnt_append (A B : List En) (z : Int) : cnt (A ++ B) z = cnt A z + cnt B z := by unfold cnt; rw [List.countP_append]
theorem cnt_ins (E : List En) (e : En) (z : Int) : cnt (insR ltE E e) z = cnt E z + if e.2 = z then 1 else 0 := by
 unfold insR
 have h : cnt E z = cnt (E.take (whereR ltE E e)) z + cnt (E.drop (whereR ltE E e)) z := by rw [← cnt_append, List.take_append_drop]
 have h1 : cnt (e :: E.drop (whereR ltE E e)) z = cnt (E.drop (whereR ltE E e)) z + if e.2 = z then 1 else 0 := by
   unfold cnt
   rw [List.countP_cons]
   by_cases c : e.2 = z
   · simp [c]
   · simp [c]
 rw [cnt_append, h1, h]
 omega
theorem entN_append (A B : List Ino) (z : Int) : entN (A ++ B) z = entN A z + entN B z := by unfold entN; rw [List.map_append, List.sum_append]
theorem entN_ins (L : List Ino) (x : Ino) (z : Int) : entN (insR ltI L x) z = entN L z + cnt x.ents z := by
 unfold insR
 have h : entN L z = entN (L.take (whereR ltI L x)) z + entN (L.drop (whereR ltI L x)) z := by rw [← entN_append, List.take_append_drop]
 have h1 : entN (x :: L.drop (whereR ltI L x)) z = entN (L.drop (whereR ltI L x)) z + cnt x.ents z := by unfold entN; rw [List.map_cons, List.sum_cons]; omega
 rw [entN_append, h1, h]
 omega
theorem entN_set : ∀ (L : List Ino) (k : Nat) (hk : k < L.length) (y : Ino) (z : Int), entN (L.set k y) z + cnt (L[k]).ents z = entN L z + cnt y.ents z
 | x :: l, 0, _, y, z => by simp only [List.set_cons_zero, List.getElem_cons_zero]; unfold entN; rw [List.map_cons, List.map_cons, List.sum_cons, List.sum_cons]; omega
 | x :: l, k + 1, hk, y, z => by
   have := entN_set l k (by simpa using hk) y z
   simp only [List.set_cons_succ, List.getElem_cons_succ]
   unfold entN at this ⊢
   rw [List.map_cons, List.map_cons, List.sum_cons, List.sum_cons]
   omega
theorem mem_ins {α : Type} {f : α → α → Bool} {L : List α} {x y : α} : y ∈ insR f L x ↔ y = x ∨ y ∈ L := by
 unfold insR
 rw [List.mem_append, List.mem_cons]
 have : y ∈ L ↔ y ∈ L.take (whereR f L x) ∨ y ∈ L.drop (whereR f L x) := by rw [← List.mem_append, List.take_append_drop]
 rw [this]
 constructor
 · rintro (h | h | h)
   · exact Or.inr (Or.inl h)
   · exact Or.inl h
   · exact Or.inr (Or.inr h)
 · rintro (h | h | h)
   · exact Or.inr (Or.inl h)
   · exact Or.inl h
   · exact Or.inr (Or.inr h)
theorem adj_ins {α : Type} {f : α → α → Bool} {L : List α} {x : α} (ht : ∀ a b c, f a b = true → f b c = true → f a c = true) (h : adj f L = true) (hx : ∀ y ∈ L, f y x = false → f x y = true) : adj f (insR f L x) = true := by
 have hp : L.Pairwise fun a b => f a b = true := by
   rw [List.pairwise_iff_getElem]
   exact fun i j hi hj hij => adj_all ht h i j hi hj hij
 have hq : (insR f L x).Pairwise fun a b => f a b = true := by
   unfold insR
   have hsp : (L.take (whereR f L x) ++ L.drop (whereR f L x)).Pairwise fun a b => f a b = true := by rw [List.take_append_drop]; exact hp
   rw [List.pairwise_append] at hsp ⊢
   have ahead : ∀ a ∈ L.take (whereR f L x), f a x = true := fun a ha => by
     obtain ⟨i, hi, rfl⟩ := List.getElem_of_mem ha
     rw [List.length_take] at hi
     rw [List.getElem_take]
     have : i < L.findIdx fun y => !(f y x) := by unfold whereR at hi; omega
     have := List.not_of_lt_findIdx this
     simpa using this
   have behind : ∀ b ∈ L.drop (whereR f L x), f x b = true := fun b hb => by
     have hbL := List.mem_of_mem_drop hb
     refine hx b hbL ?_
     rcases hfb : f b x with _ | _
     · rfl
     · exfalso
       have hlen : whereR f L x < L.length := by
         rcases Nat.lt_or_ge (whereR f L x) L.length with h1 | h1
         · exact h1
         · rw [List.drop_of_length_le h1] at hb; cases hb
       have h0 : f (L[whereR f L x]'hlen) x = false := by
         have h9 : (!(f (L[L.findIdx fun y => !(f y x)]'hlen) x)) = true := List.findIdx_getElem (w := hlen) (p := fun y => !(f y x)) (xs := L)
         have h8 : (!(f (L[whereR f L x]'hlen) x)) = true := h9
         simpa using h8
       obtain ⟨i, hi, rfl⟩ := List.getElem_of_mem hb
       rw [List.getElem_drop] at hfb
       by_cases e : i = 0
       · subst e
         simp only [Nat.add_zero] at hfb
         rw [h0] at hfb
         cases hfb
       · rw [List.length_drop] at hi
         have := adj_all ht h (whereR f L x) (whereR f L x + i) hlen (by omega) (by omega)
         rw [ht _ _ _ this hfb] at h0
         cases h0
   refine ⟨hsp.1, List.pairwise_cons.2 ⟨behind, hsp.2.1⟩, fun a ha b hb => ?_⟩
   rcases List.mem_cons.1 hb with rfl | hb
   · exact ahead a ha
   · exact hsp.2.2 a ha b hb
 rw [adj_iff]
 intro j hj
 exact List.pairwise_iff_getElem.1 hq j (j + 1) (by omega) hj (by omega)
end Go.Proofs.YtmeafancgmkfkaaGreatDoor
