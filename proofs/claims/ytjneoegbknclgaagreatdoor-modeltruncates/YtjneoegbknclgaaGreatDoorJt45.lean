/-
  Joined of my texts Pn Kw Kx.
-/
import Derived.Test.YtjneoegbknclgaaGreatDoorJt5
import Derived.Deep.RegionHeld3
import Derived.Deep.CutRange
import Derived.BigQuiet
import Derived.Test.YtjneoegbknclgaaGreatDoorJt44
import Derived.Test.YtjneoegbknclgaaGreatDoorJt28
import Derived.Test.YtjneoegbknclgaaGreatDoorTk
set_option linter.unusedVariables false
set_option linter.unusedSimpArgs false
set_option maxRecDepth 100000
set_option maxHeartbeats 8000000
namespace Go.Proofs.YtjneoegbknclgaaGreatDoor
open Go.RowKit
theorem neq_enP (a b : ByteArray) (x y : Int) (w : World) : (binOp .neq 64 (.agg #[.string a, .int .i64 x]) (.agg #[.string b, .int .i64 y])).run Tryz.prog w = .ok (.bool (!(a.toList == b.toList && x == y))) w := by
 have u3 := Tryz.underlying3
 have a3 := Tryz.isAgg3
 have z3 := Tryz.sizeOf3
 have u9 := Tryz.underlying9
 have a9 := Tryz.isAgg9
 have z9 := Tryz.sizeOf9
 have hS : Tryz.prog.underlying 64 = some (.struct (Tryz.prog.fieldsOf 64)) := by kernel_rfl
 have hp : Tryz.prog.stoodInHeld 64 = false := by kernel_rfl
 rw [run_neq_struct, show (10000 : Nat) = 9999 + 1 from rfl, run_equalIn_agg w 9999 64 _ _ hS hp]
 simp only [Program.fieldsOf, Tryz.underlying64]
 go_simp
 by_cases h1 : a.toList = b.toList <;> by_cases h2 : x = y <;> simp [h1, h2]
theorem neq_enS (e : En) (w : World) : (binOp .neq 64 (.agg #[.string e.1, .int .i64 e.2]) (.agg #[.string e.1, .int .i64 e.2])).run Tryz.prog w = .ok (.bool false) w := by
 rw [neq_enP]
 simp
theorem neq_deP (a b c x y z : Int) (w : World) : (binOp .neq 66 (.agg #[.int .i64 a, .int .i64 b, .int .i64 c]) (.agg #[.int .i64 x, .int .i64 y, .int .i64 z])).run Tryz.prog w = .ok (.bool (!(a == x && (b == y && c == z)))) w := by
 have u3 := Tryz.underlying3
 have a3 := Tryz.isAgg3
 have z3 := Tryz.sizeOf3
 have hS : Tryz.prog.underlying 66 = some (.struct (Tryz.prog.fieldsOf 66)) := by kernel_rfl
 have hp : Tryz.prog.stoodInHeld 66 = false := by kernel_rfl
 rw [run_neq_struct, show (10000 : Nat) = 9999 + 1 from rfl, run_equalIn_agg w 9999 66 _ _ hS hp]
 simp only [Program.fieldsOf, Tryz.underlying66]
 go_simp
 by_cases h1 : a = x <;> by_cases h2 : b = y <;> by_cases h3 : c = z <;> simp [h1, h2, h3]
theorem neq_deS (e : Ds) (w : World) : (binOp .neq 66 (.agg #[.int .i64 e.1, .int .i64 e.2.1, .int .i64 e.2.2]) (.agg #[.int .i64 e.1, .int .i64 e.2.1, .int .i64 e.2.2])).run Tryz.prog w = .ok (.bool false) w := by
 rw [neq_deP]
 simp
theorem twoP (w : World) (c1 c2 : Array Value) (t1 t2 : TypeId) : ∃ W X, Hid ((w.alloc (.cells c1 t1 (0, 0))).alloc (.cells c2 t2 (0, 0)) = W ∧ w.heap.size = X) ∧ Hid (Kept [] w W) ∧ Hid (W.heap[X]? = some (.cells c1 t1 (0, 0)) ∧ W.heap[X + 1]? = some (.cells c2 t2 (0, 0)) ∧ W.heap.size = X + 1 + 1) := by
 have s1 : (w.alloc (.cells c1 t1 (0, 0))).heap.size = w.heap.size + 1 := by simp
 refine ⟨_, _, ⟨rfl, rfl⟩, ((Kept.refl [] w).alloc _).alloc _, ?_, ?_, by simp⟩
 ·
  rw [Below.heap_alloc _ _ _ (by omega)]
  exact Go.heap_alloc_new _ _
 ·
  have := Go.heap_alloc_new (w.alloc (.cells c1 t1 (0, 0))) (.cells c2 t2 (0, 0))
  rw [s1] at this
  exact this
theorem twoR (w : World) (o1 o2 : Obj) : Kept [] w ((w.alloc o1).alloc o2).drew ∧ ((w.alloc o1).alloc o2).drew.heap[w.heap.size]? = some o1 ∧ ((w.alloc o1).alloc o2).drew.heap[w.heap.size + 1]? = some o2 := by
 have s1 : (w.alloc o1).heap.size = w.heap.size + 1 := by simp
 refine ⟨(((Kept.refl [] w).alloc _).alloc _).drew, ?_, ?_⟩
 ·
  show ((w.alloc o1).alloc o2).heap[w.heap.size]? = some o1
  rw [Below.heap_alloc _ _ _ (by omega)]
  exact Go.heap_alloc_new _ _
 ·
  show ((w.alloc o1).alloc o2).heap[w.heap.size + 1]? = some o2
  have := Go.heap_alloc_new (w.alloc o1) o2
  rw [s1] at this
  exact this
theorem r_plain {w : World} {p q : Pl} {S : Sta} (h1 : Sv w p S) (h2 : Sv w q S) :
  Calls Tryz.prog 12 #[sval p S, sval q S] w fun e w' => e = .returned (.bool true) ∧ Kept [] w w' := by
 obtain ⟨W1, X, HX, HKX, HXb⟩ := twoP w #[.slice p.a1 S.ino.length p.c1, .slice p.a2 S.opn.length p.c2, .slice p.a3 S.made.length p.c3] #[.slice q.a1 S.ino.length q.c1, .slice q.a2 S.opn.length q.c2, .slice q.a3 S.made.length q.c3] 27 27
 have HS1 : Hid (Sv W1 p S) := h1.kept HKX.out
 have HS2 : Hid (Sv W1 q S) := h2.kept HKX.out
 have n1 : S.ino.length ≤ 140737488355328 := h1.n1
 have n2 : S.opn.length ≤ 140737488355328 := h1.n2
 have n3 : S.made.length ≤ 140737488355328 := h1.n3
 have HN4 : Hid (∀ x ∈ S.ino, x.ents.length ≤ 140737488355328) := h1.n4
 have t1 : (((S.ino.length : Nat) : Int) != ((S.ino.length : Nat) : Int)) = false := by simp
 have t2 : (((S.opn.length : Nat) : Int) != ((S.opn.length : Nat) : Int)) = false := by simp
 have t3 : (((S.made.length : Nat) : Int) != ((S.made.length : Nat) : Int)) = false := by simp
 clear h1 h2
 go_enter Tryz.func12, Tryz.ntmps12
 go_upto_region 1 with fail
 rw [HX.out.1, HX.out.2]
 obtain ⟨a0, a1, a2⟩ := cz3 HXb.out.1
 obtain ⟨b0, b1, b2⟩ := cz3 HXb.out.2.1
 go_wp2_with fail
 have HA : Hid ((W1.cell? ⟨X, 0, none⟩ = some (.slice p.a1 S.ino.length p.c1) ∧ W1.cell? ⟨X, 1, none⟩ = some (.slice p.a2 S.opn.length p.c2) ∧ W1.cell? ⟨X, 2, none⟩ = some (.slice p.a3 S.made.length p.c3)) ∧ (W1.cell? ⟨X + 1, 0, none⟩ = some (.slice q.a1 S.ino.length q.c1) ∧ W1.cell? ⟨X + 1, 1, none⟩ = some (.slice q.a2 S.opn.length q.c2) ∧ W1.cell? ⟨X + 1, 2, none⟩ = some (.slice q.a3 S.made.length q.c3))) := ⟨⟨a0, a1, a2⟩, b0, b1, b2⟩
 clear a0 a1 a2 b0 b1 b2
 go_loopw [5] (fun i wr => ∃ n : Nat, i = .int .i64 (n : Int) ∧ n ≤ S.ino.length ∧ Hid (Kept [] W1 wr)) (fun i _ => (S.ino.length - intOf i).toNat)
 case atStart => exact ⟨0, rfl, by omega, Kept.refl _ _⟩
 case round =>
  obtain ⟨n, rfl, hn, HK⟩ := hrel
  have a0 := HK.out.cell HA.out.1.1 (by simp)
  have b0 := HK.out.cell HA.out.2.1 (by simp)
  by_cases hlt : n < S.ino.length
  ·
   have j0 : (0 : Int) ≤ (n : Int) := by omega
   have j1 : (n : Int) < (S.ino.length : Int) := by omega
   obtain ⟨b, o, ae, ce, ha, q0, q1, q2, q3, q4, -, -⟩ := (HS1.out.kept HK.out).ino n hlt
   obtain ⟨c, u, be, de, hb, p0, p1, p2, p3, p4, -, -⟩ := (HS2.out.kept HK.out).ino n hlt
   rw [ha] at a0
   rw [hb] at b0
   have hel : (S.ino[n]).ents.length ≤ 140737488355328 := HN4.out _ (List.getElem_mem hlt)
   obtain ⟨x, hx⟩ : ∃ x, S.ino[n] = x := ⟨_, rfl⟩
   rw [hx] at q0 q1 q2 q3 q4 p0 p1 p2 p3 p4 hel
   have HE : Hid (EntA wr ae x.ents ∧ EntA wr be x.ents) := ⟨q4, p4⟩
   have HP : Hid (p.a1 = some ⟨b, o, none⟩ ∧ q.a1 = some ⟨c, u, none⟩) := ⟨ha, hb⟩
   have t4 : (x.num != x.num) = false := by simp
   have t5 : (x.dir != x.dir) = false := by simp
   have t6 : (((x.ents.length : Nat) : Int) != ((x.ents.length : Nat) : Int)) = false := by simp
   have HXX : Hid (_) := hx
   clear q4 p4 ha hb hx
   go_upto_region 6 with fail
   go_cut [6, 7] from 36 to 98 (fun s t wx => ∃ Y Z : Nat, s = .pointer (some ⟨Y, 0, none⟩) ∧ t = .pointer (some ⟨Z, 0, none⟩) ∧ Hid (Kept [] wr wx ∧ wx.heap[Y]? = some (.cells #[.int .i64 x.num, .bool x.dir, .slice ae x.ents.length ce, .string x.data] 62 (0, 0)) ∧ wx.heap[Z]? = some (.cells #[.int .i64 x.num, .bool x.dir, .slice be x.ents.length de, .string x.data] 62 (0, 0))))
   case first =>
    go_region_held3 (fun w' => w'.cell? ⟨X, 0, none⟩ = some (.slice (some ⟨b, o, none⟩) S.ino.length p.c1) ∧ w'.cell? ⟨X + 1, 0, none⟩ = some (.slice (some ⟨c, u, none⟩) S.ino.length q.c1) ∧ w'.cell? ⟨b, o + n * 4, none⟩ = some (.int .i64 x.num) ∧ w'.cell? ⟨b, o + n * 4 + 1, none⟩ = some (.bool x.dir) ∧ w'.cell? ⟨b, o + n * 4 + 2, none⟩ = some (.slice ae x.ents.length ce) ∧ w'.cell? ⟨b, o + n * 4 + 3, none⟩ = some (.string x.data) ∧ w'.cell? ⟨c, u + n * 4, none⟩ = some (.int .i64 x.num) ∧ w'.cell? ⟨c, u + n * 4 + 1, none⟩ = some (.bool x.dir) ∧ w'.cell? ⟨c, u + n * 4 + 2, none⟩ = some (.slice be x.ents.length de) ∧ w'.cell? ⟨c, u + n * 4 + 3, none⟩ = some (.string x.data)) (go_keep) (fail)
    ·
     go_wp2
     go_meet
     case rel => exact ⟨_, _, rfl, rfl, twoR wr _ _⟩
    ·
     go_wp2
     go_meet
     case rel => exact ⟨_, _, rfl, rfl, (twoR wr _ _).1, (twoR wr _ _).2.2, (twoR wr _ _).2.1⟩
   case rest =>
    obtain ⟨Y, Z, rfl, rfl, HC⟩ := hcut
    have c0 : wc.cell? ⟨Y, 0, none⟩ = some (.int .i64 x.num) := cellB HC.out.2.1
    have c1 : wc.cell? ⟨Y, 1, none⟩ = some (.bool x.dir) := cellB HC.out.2.1
    have c2 : wc.cell? ⟨Y, 2, none⟩ = some (.slice ae x.ents.length ce) := cellB HC.out.2.1
    have c3 : wc.cell? ⟨Y, 3, none⟩ = some (.string x.data) := cellB HC.out.2.1
    have d0 : wc.cell? ⟨Z, 0, none⟩ = some (.int .i64 x.num) := cellB HC.out.2.2
    have d1 : wc.cell? ⟨Z, 1, none⟩ = some (.bool x.dir) := cellB HC.out.2.2
    have d2 : wc.cell? ⟨Z, 2, none⟩ = some (.slice be x.ents.length de) := cellB HC.out.2.2
    have d3 : wc.cell? ⟨Z, 3, none⟩ = some (.string x.data) := cellB HC.out.2.2
    clear a0 b0 q0 q1 q2 q3 p0 p1 p2 p3
    go_wp2_with fail
    have HD : Hid (wc.cell? ⟨Y, 2, none⟩ = some (.slice ae x.ents.length ce) ∧ wc.cell? ⟨Z, 2, none⟩ = some (.slice be x.ents.length de)) := ⟨c2, d2⟩
    clear c0 c1 c2 c3 d0 d1 d2 d3
    go_loopw [8] (fun k wq => ∃ m : Nat, k = .int .i64 (m : Int) ∧ m ≤ x.ents.length ∧ Hid (Kept [] wc wq)) (fun k _ => (x.ents.length - intOf k).toNat)
    case atStart => exact ⟨0, rfl, by omega, Kept.refl _ _⟩
    case round =>
     obtain ⟨m, rfl, hm, HQ⟩ := hrel
     have c2 := HQ.out.cell HD.out.1 (by simp)
     have d2 := HQ.out.cell HD.out.2 (by simp)
     by_cases hlm : m < x.ents.length
     ·
      have l0 : (0 : Int) ≤ (m : Int) := by omega
      have l1 : (m : Int) < (x.ents.length : Int) := by omega
      obtain ⟨g, og, hg, e0, e1⟩ := ((HE.out.1.kept HC.out.1).kept HQ.out) m hlm
      obtain ⟨h, oh, hh, f0, f1⟩ := ((HE.out.2.kept HC.out.1).kept HQ.out) m hlm
      rw [hg] at c2
      rw [hh] at d2
      have hne := neq_enS x.ents[m]
      have HG : Hid (_ ∧ _) := ⟨hg, hh⟩
      clear hg hh
      obtain ⟨y, hy⟩ : ∃ y, x.ents[m] = y := ⟨_, rfl⟩
      rw [hy] at hne e0 e1 f0 f1
      clear hy
      go_wp2_with fail
      go_quiet (fail)
      go_wp2
      go_roundw
      case rel => exact ⟨m + 1, by go_num, by omega, HQ.out.drewN _⟩
      case measure => simp [intOf]; omega
     ·
      have l1 : ¬ (m : Int) < (x.ents.length : Int) := by omega
      have HK2 : Hid (Kept [] W1 wr) := (HK.out.trans HC.out.1 (by simp)).trans HQ.out (by simp)
      go_wp2_with fail
      go_roundw
      case rel => exact ⟨n + 1, by go_num, by omega, HK2.out⟩
      case measure => simp [intOf]; omega
  ·
   have j1 : ¬ (n : Int) < (S.ino.length : Int) := by omega
   go_wp2_with fail
   clear a0 b0
   have HKa := HK
   go_loopw [9] (fun i wr => ∃ m : Nat, i = .int .i64 (m : Int) ∧ m ≤ S.opn.length ∧ Hid (Kept [] W1 wr)) (fun i _ => (S.opn.length - intOf i).toNat)
   case atStart => exact ⟨0, rfl, by omega, HKa.out⟩
   case round =>
    obtain ⟨m, rfl, hm, HQ⟩ := hrel
    have a1 := HQ.out.cell HA.out.1.2.1 (by simp)
    have b1 := HQ.out.cell HA.out.2.2.1 (by simp)
    by_cases hlm : m < S.opn.length
    ·
     have l0 : (0 : Int) ≤ (m : Int) := by omega
     have l1 : (m : Int) < (S.opn.length : Int) := by omega
     obtain ⟨g, og, hg, e0, e1, e2⟩ := (HS1.out.kept HQ.out).des m hlm
     obtain ⟨h, oh, hh, f0, f1, f2⟩ := (HS2.out.kept HQ.out).des m hlm
     rw [hg] at a1
     rw [hh] at b1
     have hne := neq_deS S.opn[m]
     have HG : Hid (_ ∧ _) := ⟨hg, hh⟩
     clear hg hh
     obtain ⟨y, hy⟩ : ∃ y, S.opn[m] = y := ⟨_, rfl⟩
     rw [hy] at hne e0 e1 e2 f0 f1 f2
     clear hy
     go_wp2_with fail
     go_quiet (fail)
     go_wp2
     go_roundw
     case rel => exact ⟨m + 1, by go_num, by omega, HQ.out.drewN _⟩
     case measure => simp [intOf]; omega
    ·
     have l1 : ¬ (m : Int) < (S.opn.length : Int) := by omega
     go_wp2_with fail
     clear a1 b1
     have HKb := HQ
     go_loopw [10] (fun i wv => ∃ k : Nat, i = .int .i64 (k : Int) ∧ k ≤ S.made.length ∧ Hid (Kept [] W1 wv)) (fun i _ => (S.made.length - intOf i).toNat)
     case atStart => exact ⟨0, rfl, by omega, HKb.out⟩
     case round =>
      obtain ⟨k, rfl, hk, HV⟩ := hrel
      have a2 := HV.out.cell HA.out.1.2.2 (by simp)
      have b2 := HV.out.cell HA.out.2.2.2 (by simp)
      by_cases hlk : k < S.made.length
      ·
       have k0 : (0 : Int) ≤ (k : Int) := by omega
       have k1 : (k : Int) < (S.made.length : Int) := by omega
       obtain ⟨g, og, hg, e0⟩ := (HS1.out.kept HV.out).mad k hlk
       obtain ⟨h, oh, hh, f0⟩ := (HS2.out.kept HV.out).mad k hlk
       rw [hg] at a2
       rw [hh] at b2
       have HG : Hid (_ ∧ _) := ⟨hg, hh⟩
       clear hg hh
       obtain ⟨y, hy⟩ : ∃ y, S.made[k] = y := ⟨_, rfl⟩
       rw [hy] at e0 f0
       have t9 : (y != y) = false := by simp
       clear hy
       go_wp2_with fail
       go_quiet (fail)
       go_wp2
       go_roundw
       case rel => exact ⟨k + 1, by go_num, by omega, HV.out.drewN _⟩
       case measure => simp [intOf]; omega
      ·
       have k1 : ¬ (k : Int) < (S.made.length : Int) := by omega
       go_wp2_with fail
       go_ret
       exact ⟨rfl, HKX.out.trans HV.out (by simp)⟩
def bare (x : Ino) : Int × Bool × List En := (x.num, x.dir, x.ents)
def Alike (L L' : List Ino) : Prop := L.map bare = L'.map bare
theorem Alike.len {L L' : List Ino} (h : Alike L L') : L.length = L'.length := by
 have := congrArg List.length h
 simpa using this
theorem Alike.get {L L' : List Ino} (h : Alike L L') {k : Nat} (hk : k < L.length) (hk' : k < L'.length) : (L[k]).num = (L'[k]).num ∧ (L[k]).dir = (L'[k]).dir ∧ (L[k]).ents = (L'[k]).ents := by
 have e := congrArg (fun l => l[k]?) h
 simp only [List.getElem?_map, List.getElem?_eq_getElem hk, List.getElem?_eq_getElem hk', Option.map_some, Option.some.injEq] at e
 exact ⟨congrArg (fun t => t.1) e, congrArg (fun t => t.2.1) e, congrArg (fun t => t.2.2) e⟩
theorem Alike.symm {L L' : List Ino} (h : Alike L L') : Alike L' L := Eq.symm h
theorem at_bare (L : List Ino) (z : Int) : atR L z = (L.map bare).findIdx? fun t => t.1 == z := by
 unfold atR
 rw [List.findIdx?_map]
 rfl
theorem Alike.at {L L' : List Ino} (h : Alike L L') (z : Int) : atR L z = atR L' z := by rw [at_bare, at_bare, h]
theorem Alike.dirOf {L L' : List Ino} (h : Alike L L') (z : Int) : dirOf L z = dirOf L' z := by
 rw [look_dir, look_dir]
 unfold look
 rw [h.at z]
 rcases ha : atR L' z with _ | k
 · rfl
 ·
  obtain ⟨hk', -⟩ := at_get ha
  have hk : k < L.length := by rw [h.len]; exact hk'
  simp [hk, hk', (h.get hk hk').2.1]
theorem Alike.entsOf {L L' : List Ino} (h : Alike L L') (z : Int) : entsOf L z = entsOf L' z := by
 rw [look_ents, look_ents]
 unfold look
 rw [h.at z]
 rcases ha : atR L' z with _ | k
 · rfl
 ·
  obtain ⟨hk', -⟩ := at_get ha
  have hk : k < L.length := by rw [h.len]; exact hk'
  simp [hk, hk', (h.get hk hk').2.2]
theorem Alike.kids {L L' : List Ino} (h : Alike L L') (z : Int) : kids L z = kids L' z := by
 unfold Go.Proofs.YtjneoegbknclgaaGreatDoor.kids kidsE
 rw [h.entsOf z]
 congr 1
 refine List.filter_congr fun e _ => ?_
 exact h.dirOf e.2
theorem Alike.rch {L L' : List Ino} (h : Alike L L') {z : Int} (r : Rch L z) : Rch L' z := by
 induction r with
 | root => exact Rch.root
 | kid _ hz ih => exact Rch.kid ih (by rw [← h.kids]; exact hz)
theorem Alike.entN {L L' : List Ino} (h : Alike L L') (z : Int) : entN L z = entN L' z := by
 have e : ∀ M : List Ino, Go.Proofs.YtjneoegbknclgaaGreatDoor.entN M z = ((M.map bare).map fun t => cnt t.2.2 z).sum := fun M => by
  unfold Go.Proofs.YtjneoegbknclgaaGreatDoor.entN
  rw [List.map_map]
  rfl
 rw [e, e, h]
theorem Alike.adj {L L' : List Ino} (h : Alike L L') (ha : adj ltI L = true) : adj ltI L' = true := by
 rw [adj_iff] at ha ⊢
 intro j hj
 have hl := h.len
 have h1 := ha j (by omega)
 have g0 := h.get (k := j) (by omega) (by omega)
 have g1 := h.get (k := j + 1) (by omega) hj
 unfold ltI at h1 ⊢
 rw [← g0.1, ← g1.1]
 exact h1
theorem Alike.mem {L L' : List Ino} (h : Alike L L') {x' : Ino} (hx : x' ∈ L') : ∃ x ∈ L, x.num = x'.num ∧ x.dir = x'.dir ∧ x.ents = x'.ents := by
 obtain ⟨k, hk', rfl⟩ := List.getElem_of_mem hx
 have hk : k < L.length := by rw [h.len]; exact hk'
 exact ⟨L[k], List.getElem_mem hk, h.get hk hk'⟩
theorem Alike.entsB {L L' : List Ino} (h : Alike L L') (E : List En) : entsB L E = entsB L' E := by
 have : entB L = entB L' := funext fun e => by unfold entB; rw [h.at]
 unfold Go.Proofs.YtjneoegbknclgaaGreatDoor.entsB
 rw [this]
theorem Vw.alike {S : Sta} (v : Vw S) {L' : List Ino} (h : Alike S.ino L') (hd : ∀ x ∈ L', if x.dir then x.data.toList.isEmpty = true else x.data.size ≤ 256) : Vw ⟨L', S.opn, S.made⟩ := by
 refine ⟨v.made, h.adj v.row, ?_, fun x hx hn => ?_, fun x hx => ?_, v.opn, fun d hq => ?_, fun x hx hn => ?_, fun z hz => ?_⟩
 ·
  obtain ⟨x, hx, n1, d1⟩ := v.root
  obtain ⟨h0, rfl⟩ := List.getElem?_eq_some_iff.1 hx
  have h0' : 0 < L'.length := by rw [← h.len]; exact h0
  obtain ⟨e1, e2, -⟩ := h.get h0 h0'
  exact ⟨L'[0], List.getElem?_eq_getElem h0', by rw [← e1]; exact n1, by rw [← e2]; exact d1⟩
 ·
  obtain ⟨y, hy, e1, -, -⟩ := h.mem hx
  have := v.gv y hy (by rw [e1]; exact hn)
  rw [e1] at this
  exact this
 ·
  obtain ⟨y, hy, e1, e2, e3⟩ := h.mem hx
  have g := v.ino y hy
  have q := hd x hx
  unfold inoB at g ⊢
  rw [e2, e3] at g
  cases hxd : x.dir with
  | true =>
   rw [hxd] at g q
   simp only [if_true, Bool.and_eq_true] at g q ⊢
   exact ⟨q, by rw [← h.entsB]; exact g.2⟩
  | false =>
   rw [hxd] at g q
   simp only [Bool.false_eq_true, if_false, Bool.and_eq_true, decide_eq_true_eq] at g q ⊢
   exact ⟨g.1, q⟩
 ·
  have g := v.des d hq
  unfold desB at g ⊢
  dsimp only
  rw [← h.at]
  rw [Bool.and_eq_true] at g ⊢
  refine ⟨g.1, ?_⟩
  have g2 := g.2
  rcases ha : atR S.ino d.2.2 with _ | k
  · rw [ha] at g2; exact g2
  ·
   rw [ha] at g2
   obtain ⟨hk, -⟩ := at_get ha
   have hk' : k < L'.length := by rw [← h.len]; exact hk
   have e2 := (h.get hk hk').2.1
   simp only [List.getElem?_eq_getElem hk, List.getElem?_eq_getElem hk'] at g2 ⊢
   simpa [e2] using g2
 ·
  obtain ⟨y, hy, e1, e2, -⟩ := h.mem hx
  have g := v.held y hy (by rw [e1]; exact hn)
  unfold helB at g ⊢
  rw [e1, e2] at g
  dsimp only
  rw [← h.entN]
  exact g
 ·
  have hz' : Go.Proofs.YtjneoegbknclgaaGreatDoor.dirOf S.ino z = true := by rw [h.dirOf]; exact hz
  exact h.rch (v.fnd z hz')
theorem alike_set (L : List Ino) {k : Nat} (hk : k < L.length) (y : Ino) (hy : bare y = bare L[k]) : Alike L (L.set k y) := by
 unfold Alike
 rw [List.map_set, hy]
 have : bare L[k] = (L.map bare)[k]'(by simpa using hk) := by simp
 rw [this, List.set_getElem_self]
theorem Vw.data {S : Sta} (v : Vw S) {k : Nat} (hk : k < S.ino.length) (hf : (S.ino[k]).dir = false) {d : ByteArray} (hd : d.size ≤ 256) : Vw (setD S k hk d) := by
 refine v.alike (alike_set S.ino hk (withD (S.ino[k]) d) rfl) fun x hx => ?_
 rcases List.mem_or_eq_of_mem_set hx with h1 | rfl
 ·
  have g := v.ino x h1
  unfold inoB at g
  cases hxd : x.dir with
  | true => rw [hxd] at g; simp only [if_true, Bool.and_eq_true] at g ⊢; exact g.1
  | false => rw [hxd] at g; simp only [Bool.false_eq_true, if_false, Bool.and_eq_true, decide_eq_true_eq] at g ⊢; exact g.2
 ·
  have : (withD (S.ino[k]) d).dir = false := hf
  rw [this]
  simp only [Bool.false_eq_true, if_false]
  exact hd
theorem fd_get {D : List Ds} {c f : Int} {j : Nat} (h : fdP D c f = some j) : ∃ hj : j < D.length, (D[j]).1 = c ∧ (D[j]).2.1 = f := by
 unfold fdP at h
 rw [List.findIdx?_eq_some_iff_getElem] at h
 obtain ⟨hj, h1, -⟩ := h
 simp only [Bool.and_eq_true, beq_iff_eq] at h1
 exact ⟨hj, h1⟩
theorem des_file {S : Sta} {d : Ds} (h : desB S d = true) : ∃ k, atR S.ino d.2.2 = some k ∧ ∃ hk : k < S.ino.length, (S.ino[k]).dir = false := by
 unfold desB at h
 rw [Bool.and_eq_true] at h
 have h2 := h.2
 rcases ha : atR S.ino d.2.2 with _ | k
 · rw [ha] at h2; cases h2
 ·
  obtain ⟨hk, -⟩ := at_get ha
  rw [ha] at h2
  exact ⟨k, rfl, hk, by simpa [hk] using h2⟩
theorem Vw.file {S : Sta} (v : Vw S) {c : Cal} {k : Nat} (h : fileR S c = .ok k) : ∃ hk : k < S.ino.length, (S.ino[k]).dir = false := by
 unfold fileR at h
 rcases hf : fdP S.opn c.core c.fd with _ | j
 · rw [hf] at h; cases h
 ·
  rw [hf] at h
  obtain ⟨hj, -, -⟩ := fd_get hf
  have e : desNum S.opn j = (S.opn[j]).2.2 := by unfold desNum; simp [hj]
  obtain ⟨k', ha, hk, hd⟩ := des_file (v.des _ (List.getElem_mem hj))
  simp only [e, ha] at h
  cases h
  exact ⟨hk, hd⟩
theorem Vw.setDS {S : Sta} (v : Vw S) {c : Cal} {k : Nat} (h : fileR S c = .ok k) {d : ByteArray} (hd : d.size ≤ 256) : Vw (setDS S k d) := by
 obtain ⟨hk, hf⟩ := v.file h
 unfold Go.Proofs.YtjneoegbknclgaaGreatDoor.setDS
 rw [dif_pos hk]
 exact v.data hk hf hd
end Go.Proofs.YtjneoegbknclgaaGreatDoor
