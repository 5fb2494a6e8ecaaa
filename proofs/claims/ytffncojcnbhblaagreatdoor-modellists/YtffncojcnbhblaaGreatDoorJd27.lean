/-
  Joined of my texts Pl Pd Al Aw2.
-/
import Derived.Test.YtffncojcnbhblaaGreatDoorJd20
import Derived.Test.YtffncojcnbhblaaGreatDoorJd25
import Derived.Test.YtffncojcnbhblaaGreatDoorJd26
import Derived.Test.YtffncojcnbhblaaGreatDoorTk
set_option linter.unusedVariables false
set_option linter.unusedSimpArgs false
set_option maxRecDepth 100000
set_option maxHeartbeats 8000000
namespace Go.Proofs.YtffncojcnbhblaaGreatDoor
open List renaming setIfInBounds_toArray → lz0, set_cons_zero → lz1, set_cons_succ → lz2, getElem_toArray → lz3, getElem_cons_zero → lz4, getElem_cons_succ → lz5
open Go.RowKit
@[reducible] def calV (c : Cal) : Value := .agg #[.int .i64 c.kind, .int .i64 c.core, .int .i64 c.fd, .int .i64 c.off, .int .i64 c.num, .string c.path, .string c.path2, .string c.data]
def Plays (w : World) (x : Sta × Ans) (e : Ending) (w' : World) : Prop :=
 ∃ (u1 u2 u3 : Value) (eu : List Value) (z : Option Addr) (l k : Nat), e = .returned (.tuple #[.agg #[u1, u2, u3], ansV x.2 (.slice z l k)]) ∧ Os w' w.heap.size u1 u2 u3 eu x.1 ∧ Sr w' w.heap.size (.slice z l k) x.2.names ∧ (∀ b, (Value.slice z l k).ownBlock = some b → Off [b] u1 u2 u3 eu) ∧ Kept [] w w' ∧ Bd x.1
theorem boxes4 (w : World) (c1 c2 c3 c4 : Array Value) (t1 t2 t3 t4 : TypeId) : ∃ W X, Hid ((((w.alloc (.cells c1 t1 (0, 0))).alloc (.cells c2 t2 (0, 0))).alloc (.cells c3 t3 (0, 0))).alloc (.cells c4 t4 (0, 0)) = W ∧ w.heap.size = X) ∧ Hid (Kept [] w W) ∧
  Hid (W.heap[X]? = some (.cells c1 t1 (0, 0)) ∧ W.heap[X + 1]? = some (.cells c2 t2 (0, 0)) ∧ W.heap[X + 1 + 1]? = some (.cells c3 t3 (0, 0)) ∧ W.heap[X + 1 + 1 + 1]? = some (.cells c4 t4 (0, 0)) ∧ W.heap.size = X + 1 + 1 + 1 + 1) := by
 have s1 : (w.alloc (.cells c1 t1 (0, 0))).heap.size = w.heap.size + 1 := by simp
 have s2 : ((w.alloc (.cells c1 t1 (0, 0))).alloc (.cells c2 t2 (0, 0))).heap.size = w.heap.size + 1 + 1 := by simp
 have s3 : (((w.alloc (.cells c1 t1 (0, 0))).alloc (.cells c2 t2 (0, 0))).alloc (.cells c3 t3 (0, 0))).heap.size = w.heap.size + 1 + 1 + 1 := by simp
 refine ⟨_, _, ⟨rfl, rfl⟩, ((((Kept.refl [] w).alloc _).alloc _).alloc _).alloc _, ?_, ?_, ?_, ?_, by simp⟩
 ·
  rw [Below.heap_alloc _ _ _ (by omega), Below.heap_alloc _ _ _ (by omega), Below.heap_alloc _ _ _ (by omega)]
  exact Go.heap_alloc_new _ _
 ·
  rw [Below.heap_alloc _ _ _ (by omega), Below.heap_alloc _ _ _ (by omega)]
  have := Go.heap_alloc_new (w.alloc (.cells c1 t1 (0, 0))) (.cells c2 t2 (0, 0))
  rw [s1] at this
  exact this
 ·
  rw [Below.heap_alloc _ _ _ (by omega)]
  have := Go.heap_alloc_new ((w.alloc (.cells c1 t1 (0, 0))).alloc (.cells c2 t2 (0, 0))) (.cells c3 t3 (0, 0))
  rw [s2] at this
  exact this
 ·
  have := Go.heap_alloc_new (((w.alloc (.cells c1 t1 (0, 0))).alloc (.cells c2 t2 (0, 0))).alloc (.cells c3 t3 (0, 0))) (.cells c4 t4 (0, 0))
  rw [s3] at this
  exact this
theorem s11_kept {w w' : World} {X : Nat} {p : Pl} {S : Sta} {c : Cal} (h : w.cell? ⟨X, 0, none⟩ = some (.slice p.a1 S.ino.length p.c1) ∧ w.cell? ⟨X, 1, none⟩ = some (.slice p.a2 S.opn.length p.c2) ∧ w.cell? ⟨X, 2, none⟩ = some (.slice p.a3 S.made.length p.c3) ∧ w.cell? ⟨X + 1, 0, none⟩ = some (.int .i64 c.kind) ∧ w.cell? ⟨X + 1, 1, none⟩ = some (.int .i64 c.core) ∧ w.cell? ⟨X + 1, 2, none⟩ = some (.int .i64 c.fd) ∧ w.cell? ⟨X + 1, 3, none⟩ = some (.int .i64 c.off) ∧ w.cell? ⟨X + 1, 4, none⟩ = some (.int .i64 c.num) ∧ w.cell? ⟨X + 1, 5, none⟩ = some (.string c.path) ∧ w.cell? ⟨X + 1, 6, none⟩ = some (.string c.path2) ∧ w.cell? ⟨X + 1, 7, none⟩ = some (.string c.data)) (k : Kept [] w w') : w'.cell? ⟨X, 0, none⟩ = some (.slice p.a1 S.ino.length p.c1) ∧ w'.cell? ⟨X, 1, none⟩ = some (.slice p.a2 S.opn.length p.c2) ∧ w'.cell? ⟨X, 2, none⟩ = some (.slice p.a3 S.made.length p.c3) ∧ w'.cell? ⟨X + 1, 0, none⟩ = some (.int .i64 c.kind) ∧ w'.cell? ⟨X + 1, 1, none⟩ = some (.int .i64 c.core) ∧ w'.cell? ⟨X + 1, 2, none⟩ = some (.int .i64 c.fd) ∧ w'.cell? ⟨X + 1, 3, none⟩ = some (.int .i64 c.off) ∧ w'.cell? ⟨X + 1, 4, none⟩ = some (.int .i64 c.num) ∧ w'.cell? ⟨X + 1, 5, none⟩ = some (.string c.path) ∧ w'.cell? ⟨X + 1, 6, none⟩ = some (.string c.path2) ∧ w'.cell? ⟨X + 1, 7, none⟩ = some (.string c.data) := ⟨k.cell (h.1) (by simp), k.cell (h.2.1) (by simp), k.cell (h.2.2.1) (by simp), k.cell (h.2.2.2.1) (by simp), k.cell (h.2.2.2.2.1) (by simp), k.cell (h.2.2.2.2.2.1) (by simp), k.cell (h.2.2.2.2.2.2.1) (by simp), k.cell (h.2.2.2.2.2.2.2.1) (by simp), k.cell (h.2.2.2.2.2.2.2.2.1) (by simp), k.cell (h.2.2.2.2.2.2.2.2.2.1) (by simp), k.cell (h.2.2.2.2.2.2.2.2.2.2) (by simp)⟩
theorem results_two {P : Program} {fn : Func} {p q : Tmp} {ty uy : TypeId} (h : fn.results = #[.cell p ty, .cell q uy]) (tmps : Array Value) (w : World) (g k : Nat) (t u : TypeId) (cs ds : Array Value) (fr : Nat × Nat) (d e : TypeDesc)
  (hp : tmps.getD p undef = .pointer (some ⟨g, 0, none⟩)) (hq : tmps.getD q undef = .pointer (some ⟨k, 0, none⟩)) (hg : w.heap[g]? = some (.cells cs t fr)) (hk : w.heap[k]? = some (.cells ds u fr))
  (hu : P.underlying ty = some d) (hd : (match d with | .struct _ | .array _ _ => true | _ => false) = true) (hi : (P.info? ty).map (·.size) = some cs.size)
  (hu' : P.underlying uy = some e) (hd' : (match e with | .struct _ | .array _ _ => true | _ => false) = true) (hi' : (P.info? uy).map (·.size) = some ds.size) :
  (results fn tmps).run P w = .ok (.tuple #[.agg cs, .agg ds]) w := by
 have hp' : tmps[p]?.getD undef = .pointer (some ⟨g, 0, none⟩) := by simpa using hp
 have hq' : tmps[q]?.getD undef = .pointer (some ⟨k, 0, none⟩) := by simpa using hq
 simp [results, h, hp', hq', asAddr, run_loadVar_row w g t ty cs fr d hg hu hd hi, run_loadVar_row w k u uy ds fr e hk hu' hd' hi']
theorem Os.below {w : World} {H : Nat} {v1 v2 v3 : Value} {ev : List Value} {S : Sta} (h : Os w H v1 v2 v3 ev S) {Z : Nat} (hZ : Z < H) (i : Nat) (v : Value) : Os (w.setCell ⟨Z, i, none⟩ v) H v1 v2 v3 ev S :=
 h.keep kept_set (off_of ⟨fun e => by have := (h.ino.lt Z e).1; omega, fun e => by have := (h.opn.lt Z e).1; omega, fun e => by have := (h.mad.lt Z e).1; omega, fun u hu e => by
  obtain ⟨j, hj, rfl⟩ := List.getElem_of_mem hu
  have := ((h.ent j (by rw [← h.evl]; exact hj) hj).lt Z e).1
  omega⟩)
@[reducible] def laidS (w : World) (R : Nat) (a b c : Value) : World := ((w.setCell ⟨R, 0, none⟩ a).setCell ⟨R, 1, none⟩ b).setCell ⟨R, 2, none⟩ c
theorem block_sta {w : World} {R : Nat} {T : TypeId} {c0 c1 c2 : Value} (h : w.heap[R]? = some (.cells #[c0, c1, c2] T (0, 0))) (a b c : Value) : (laidS w R a b c).heap[R]? = some (.cells #[a, b, c] T (0, 0)) := by
 unfold laidS
 rw [block_set (block_set (block_set h 0 _) 1 _) 2 _]
 rfl
theorem sta_other {w : World} {R Z : Nat} {a b c : Value} (h : Z ≠ R) : (laidS w R a b c).heap[Z]? = w.heap[Z]? := by
 unfold laidS
 rw [block_other h, block_other h, block_other h]
theorem Os.sta {w : World} {H : Nat} {v1 v2 v3 : Value} {ev : List Value} {S : Sta} (h : Os w H v1 v2 v3 ev S) {Z : Nat} (hZ : Z < H) (a b c : Value) : Os (laidS w Z a b c) H v1 v2 v3 ev S :=
 ((h.below hZ 0 a).below hZ 1 b).below hZ 2 c
theorem Os.res {w : World} {H : Nat} {v1 v2 v3 : Value} {ev : List Value} {S : Sta} (h : Os w H v1 v2 v3 ev S) {Z : Nat} (hZ : Z < H) (a b c d e f : Value) : Os (laidR w Z a b c d e f) H v1 v2 v3 ev S :=
 (((((h.below hZ 0 a).below hZ 1 b).below hZ 2 c).below hZ 3 d).below hZ 4 e).below hZ 5 f
theorem kept_sta {w w' : World} (h : Kept [] w w') {Z : Nat} (hZ : w.heap.size ≤ Z) (a b c : Value) : Kept [] w (laidS w' Z a b c) :=
 ((h.setCell (Or.inr hZ) a).setCell (Or.inr hZ) b).setCell (Or.inr hZ) c
theorem kept_res {w w' : World} (h : Kept [] w w') {Z : Nat} (hZ : w.heap.size ≤ Z) (a b c d e f : Value) : Kept [] w (laidR w' Z a b c d e f) :=
 (((((h.setCell (Or.inr hZ) a).setCell (Or.inr hZ) b).setCell (Or.inr hZ) c).setCell (Or.inr hZ) d).setCell (Or.inr hZ) e).setCell (Or.inr hZ) f
theorem plays_end {w W1 W7 : World} {B X : Nat} {c : Cal} {pk v1 v2 v3 : Value} {eu : List Value} {S' : Sta} {A : Ans} {z : Option Addr} {l k : Nat} (kk : Kept [] w W1) (h : Cb W1 W7 B c pk v1 v2 v3 eu S') (hX : w.heap.size = X) (hs : W1.heap.size = X + 1 + 1 + 1 + 1) (hsr : Sr W7 W1.heap.size (.slice z l k) A.names) (hof : ∀ b, (Value.slice z l k).ownBlock = some b → Off [b] v1 v2 v3 eu) (a1 a2 a3 a4 a5 a6 : Value) :
  Plays w (S', A) (.returned (.tuple #[.agg #[v1, v2, v3], ansV A (.slice z l k)])) (laidR (laidS W7 (X + 1 + 1) v1 v2 v3) (X + 1 + 1 + 1) a1 a2 a3 a4 a5 a6).drew := by
 refine ⟨v1, v2, v3, eu, z, l, k, rfl, Os.less (((h.os.sta (by omega) v1 v2 v3).res (by omega) a1 a2 a3 a4 a5 a6).kept (Kept.refl _ _).drew) kk.size, ?_, hof, (kept_res (kept_sta (kk.trans h.k (by simp)) (by omega) v1 v2 v3) (by omega) a1 a2 a3 a4 a5 a6).drew, h.bd⟩
 refine (hsr.same fun q hq => ?_).less kk.size
 have := (hsr.block q hq).1
 rw [heap_drew9, res_other (by omega), sta_other (by omega)]
theorem cell_drew9 {w : World} {a : Addr} : w.drew.cell? a = w.cell? a := rfl
theorem p_play {w : World} {p : Pl} {S : Sta} (h : Sv w p S) (hT : Tab w) (hb : Bd S) (c : Cal) (fn : Fn) (fa fb : Array Value) {x : Sta × Ans}
  (hca : ∀ w0 W B v1 v2 v3 ev, Kept [] w w0 → Cb w0 W B c (.func fn fa fb) v1 v2 v3 ev S → Calls Tryz.prog 38 #[.pointer (some ⟨B, 0, none⟩)] W (Oks w0 W B c (.func fn fa fb) v1 v2 v3 ev x)) :
  Calls Tryz.prog 23 #[sval p S, calV c, .func fn fa fb] w (Plays w x) := by
 obtain ⟨W1, X, HW, HKW, HBx⟩ := boxes4 w #[.slice p.a1 S.ino.length p.c1, .slice p.a2 S.opn.length p.c2, .slice p.a3 S.made.length p.c3] #[.int .i64 c.kind, .int .i64 c.core, .int .i64 c.fd, .int .i64 c.off, .int .i64 c.num, .string c.path, .string c.path2, .string c.data] #[.slice none 0 0, .slice none 0 0, .slice none 0 0] #[.int .i64 0, .int .i64 0, .int .i64 0, .bool false, .string ⟨#[]⟩, .slice none 0 0] 27 35 27 31
 have HSv1 : Hid (Sv W1 p S) := h.kept HKW.out
 have HT1 : Hid (Tab W1) := hT.kept HKW.out
 have HBd : Hid (_) := hb
 have HCa : Hid (_) := hca
 have HS : Hid (W1.cell? ⟨X, 0, none⟩ = some (.slice p.a1 S.ino.length p.c1) ∧ W1.cell? ⟨X, 1, none⟩ = some (.slice p.a2 S.opn.length p.c2) ∧ W1.cell? ⟨X, 2, none⟩ = some (.slice p.a3 S.made.length p.c3) ∧ W1.cell? ⟨X + 1, 0, none⟩ = some (.int .i64 c.kind) ∧ W1.cell? ⟨X + 1, 1, none⟩ = some (.int .i64 c.core) ∧ W1.cell? ⟨X + 1, 2, none⟩ = some (.int .i64 c.fd) ∧ W1.cell? ⟨X + 1, 3, none⟩ = some (.int .i64 c.off) ∧ W1.cell? ⟨X + 1, 4, none⟩ = some (.int .i64 c.num) ∧ W1.cell? ⟨X + 1, 5, none⟩ = some (.string c.path) ∧ W1.cell? ⟨X + 1, 6, none⟩ = some (.string c.path2) ∧ W1.cell? ⟨X + 1, 7, none⟩ = some (.string c.data)) := ⟨cellB HBx.out.1, cellB HBx.out.1, cellB HBx.out.1, cellB HBx.out.2.1, cellB HBx.out.2.1, cellB HBx.out.2.1, cellB HBx.out.2.1, cellB HBx.out.2.1, cellB HBx.out.2.1, cellB HBx.out.2.1, cellB HBx.out.2.1⟩
 clear h hT hb hca
 go_enter Tryz.func23, Tryz.ntmps23
 go_upto_region 1 with fail
 rw [HW.out.1, HW.out.2]
 refine wp_region_held_drew (S := fun w' => w'.cell? ⟨X, 0, none⟩ = some (.slice p.a1 S.ino.length p.c1) ∧ w'.cell? ⟨X, 1, none⟩ = some (.slice p.a2 S.opn.length p.c2) ∧ w'.cell? ⟨X, 2, none⟩ = some (.slice p.a3 S.made.length p.c3) ∧ w'.cell? ⟨X + 1, 0, none⟩ = some (.int .i64 c.kind) ∧ w'.cell? ⟨X + 1, 1, none⟩ = some (.int .i64 c.core) ∧ w'.cell? ⟨X + 1, 2, none⟩ = some (.int .i64 c.fd) ∧ w'.cell? ⟨X + 1, 3, none⟩ = some (.int .i64 c.off) ∧ w'.cell? ⟨X + 1, 4, none⟩ = some (.int .i64 c.num) ∧ w'.cell? ⟨X + 1, 5, none⟩ = some (.string c.path) ∧ w'.cell? ⟨X + 1, 6, none⟩ = some (.string c.path2) ∧ w'.cell? ⟨X + 1, 7, none⟩ = some (.string c.data)) (by kernel_rfl) ?_ (fun hHeld => ?_)
 · exact HS.out
 refine tkA 0 rfl ?_
 refine tkA 1 rfl ?_
 refine tkA 3 rfl ?_
 refine wpAnyH_ready (rs := [2]) (by kernel_rfl) (by simp) ?_
 refine AllReadyH.cons rfl (fun K hK => ?_) AllReadyH.nil
 go_simp
 refine (p_copied (HSv1.out.kept (Kept.refl _ _).drew) HBd.out).mono ?_
 rintro e w4 ⟨v1, v2, v3, ev, rfl, o4, k4⟩
 obtain ⟨a1, c1, hv1, -⟩ := row_form o4.ino
 obtain ⟨a2, c2, hv2, -⟩ := row_form o4.opn
 obtain ⟨a3, c3, hv3, -⟩ := row_form o4.mad
 have z4 := s11_kept hHeld k4
 have HO4 : Hid (Os w4 W1.heap.size v1 v2 v3 ev S ∧ Kept [] W1 w4) := ⟨o4, (Kept.refl _ _).drew.trans k4 (by simp)⟩
 subst hv1 hv2 hv3
 clear o4 k4
 go_wp2_with fail
 refine hK.out _ _ ?_ (fun hHeld => ?_)
 · exact z4
 clear hK K
 try simp only [Act.put, lz0, lz1, lz2, lz3, lz4, lz5]
 refine tkA 4 rfl ?_
 refine wpAnyH_ready (rs := [5]) (by kernel_rfl) (by simp) ?_
 refine AllReadyH.cons rfl (fun K hK => ?_) AllReadyH.nil
 go_simp
 refine hK.out _ _ ?_ (fun hHeld => ?_)
 · exact s11_kept z4 ((Kept.refl _ _).alloc _)
 clear hK K
 try simp only [Act.put, lz0, lz1, lz2, lz3, lz4, lz5]
 refine tkA 6 rfl ?_
 refine wpAnyH_done (by kernel_rfl) ?_ _
 obtain ⟨W5, B, HWB, HKB, HBB⟩ := boxR w4 (callC c (.slice a1 S.ino.length c1) (.slice a2 S.opn.length c2) (.slice a3 S.made.length c3) (.func fn fa fb)) 76
 have HC5 : Hid (Cb W1 W5 B c (.func fn fa fb) (.slice a1 S.ino.length c1) (.slice a2 S.opn.length c2) (.slice a3 S.made.length c3) ev S) := by
  have hB := HWB.out.2
  refine ⟨HO4.out.2.trans HKB.out (by simp), HBB.out, HO4.out.1.kept HKB.out, off_of ⟨fun e => ?_, fun e => ?_, fun e => ?_, fun v hv e => ?_⟩, by rw [← hB]; exact HO4.out.2.size, HT1.out, HBd.out⟩
  · have := (HO4.out.1.ino.lt B e).2; omega
  · have := (HO4.out.1.opn.lt B e).2; omega
  · have := (HO4.out.1.mad.lt B e).2; omega
  ·
   obtain ⟨j, hj, rfl⟩ := List.getElem_of_mem hv
   have := ((HO4.out.1.ent j (by rw [← HO4.out.1.evl]; exact hj) hj).lt B e).2
   omega
 clear hHeld z4
 rw [HWB.out.1, HWB.out.2]
 clear HWB HKB HBB HO4 HS
 go_wp2_with fail
 refine (HCa.out W1 W5 B _ _ _ ev HKW.out HC5.out).mono ?_
 rintro e w6 ⟨y, l, k, u1, u2, u3, eu, rfl, hsr, hof, hcb, -⟩
 obtain ⟨S', a, b, n, d, t, ns⟩ := x
 dsimp only at hsr hof hcb
 have HC6 : Hid (_) := hcb
 dsimp only [ansV]
 obtain ⟨W7, Y, HWY, HKY, HBY⟩ := boxR w6 #[.int .i64 a, .int .i64 b, .int .i64 n, .bool d, .string t, .slice y l k] 31
 obtain ⟨e1, f1, hu1, -⟩ := row_form hcb.os.ino
 obtain ⟨e2, f2, hu2, -⟩ := row_form hcb.os.opn
 obtain ⟨e3, f3, hu3, -⟩ := row_form hcb.os.mad
 have HC7 : Hid (_) := hcb.kept HKY.out
 have HSr7 : Hid (Sr W7 W5.heap.size (.slice y l k) ns) := hsr.kept HKY.out
 have HOf7 : Hid (_) := hof
 have HW5 : Hid (W1.heap.size ≤ W5.heap.size) := HC5.out.k.size
 subst hu1 hu2 hu3
 have HS7 : Hid (W7.cell? ⟨B, 8, none⟩ = some (.slice e1 S'.ino.length f1) ∧ W7.cell? ⟨B, 9, none⟩ = some (.slice e2 S'.opn.length f2) ∧ W7.cell? ⟨B, 10, none⟩ = some (.slice e3 S'.made.length f3) ∧ W7.cell? ⟨Y, 0, none⟩ = some (.int .i64 a) ∧ W7.cell? ⟨Y, 1, none⟩ = some (.int .i64 b) ∧ W7.cell? ⟨Y, 2, none⟩ = some (.int .i64 n) ∧ W7.cell? ⟨Y, 3, none⟩ = some (.bool d) ∧ W7.cell? ⟨Y, 4, none⟩ = some (.string t) ∧ W7.cell? ⟨Y, 5, none⟩ = some (.slice y l k)) := ⟨cellB HC7.out.box, cellB HC7.out.box, cellB HC7.out.box, cellB HBY.out, cellB HBY.out, cellB HBY.out, cellB HBY.out, cellB HBY.out, cellB HBY.out⟩
 have hk7 : Kept [] W1 W7 := HC7.out.k
 have hb2 : W7.heap[X + 1 + 1]? = some (.cells #[.slice none 0 0, .slice none 0 0, .slice none 0 0] 27 (0, 0)) := (hk7.block _ (lt_of_heap HBx.out.2.2.1) (by simp)).trans HBx.out.2.2.1
 have hb3 : W7.heap[X + 1 + 1 + 1]? = some (.cells #[.int .i64 0, .int .i64 0, .int .i64 0, .bool false, .string ⟨#[]⟩, .slice none 0 0] 31 (0, 0)) := (hk7.block _ (lt_of_heap HBx.out.2.2.2.1) (by simp)).trans HBx.out.2.2.2.1
 have HB2 : Hid (_) := hb2
 have HB3 : Hid (_) := hb3
 obtain ⟨g0, g1, g2⟩ := cz3 hb2
 obtain ⟨r0, r1, r2, r3, r4, r5⟩ := cz6 hb3
 obtain ⟨x0, x1, x2⟩ := fz3 hb2
 obtain ⟨y0, y1, y2, y3, y4, y5⟩ := fz6 hb3
 have HXB : Hid (X + 1 + 1 ≠ B ∧ X + 1 + 1 + 1 ≠ B ∧ X + 1 + 1 ≠ Y ∧ X + 1 + 1 + 1 ≠ Y) := by
  have e1 := HBx.out.2.2.2.2
  have e2 := HC6.out.lo
  have e3 := HC6.out.k.size
  have e4 := HWY.out.2
  exact ⟨by omega, by omega, by omega, by omega⟩
 have HKp2 : Hid (∀ (W : World) (a0 a1 a2 : Value), (W.cell? ⟨B, 8, none⟩ = some (.slice e1 S'.ino.length f1) ∧ W.cell? ⟨B, 9, none⟩ = some (.slice e2 S'.opn.length f2) ∧ W.cell? ⟨B, 10, none⟩ = some (.slice e3 S'.made.length f3) ∧ W.cell? ⟨Y, 0, none⟩ = some (.int .i64 a) ∧ W.cell? ⟨Y, 1, none⟩ = some (.int .i64 b) ∧ W.cell? ⟨Y, 2, none⟩ = some (.int .i64 n) ∧ W.cell? ⟨Y, 3, none⟩ = some (.bool d) ∧ W.cell? ⟨Y, 4, none⟩ = some (.string t) ∧ W.cell? ⟨Y, 5, none⟩ = some (.slice y l k)) → (((((W.setCell ⟨X + 1 + 1, 0, none⟩ a0).setCell ⟨X + 1 + 1, 1, none⟩ a1).setCell ⟨X + 1 + 1, 2, none⟩ a2).drew).cell? ⟨B, 8, none⟩ = some (.slice e1 S'.ino.length f1) ∧ ((((W.setCell ⟨X + 1 + 1, 0, none⟩ a0).setCell ⟨X + 1 + 1, 1, none⟩ a1).setCell ⟨X + 1 + 1, 2, none⟩ a2).drew).cell? ⟨B, 9, none⟩ = some (.slice e2 S'.opn.length f2) ∧ ((((W.setCell ⟨X + 1 + 1, 0, none⟩ a0).setCell ⟨X + 1 + 1, 1, none⟩ a1).setCell ⟨X + 1 + 1, 2, none⟩ a2).drew).cell? ⟨B, 10, none⟩ = some (.slice e3 S'.made.length f3) ∧ ((((W.setCell ⟨X + 1 + 1, 0, none⟩ a0).setCell ⟨X + 1 + 1, 1, none⟩ a1).setCell ⟨X + 1 + 1, 2, none⟩ a2).drew).cell? ⟨Y, 0, none⟩ = some (.int .i64 a) ∧ ((((W.setCell ⟨X + 1 + 1, 0, none⟩ a0).setCell ⟨X + 1 + 1, 1, none⟩ a1).setCell ⟨X + 1 + 1, 2, none⟩ a2).drew).cell? ⟨Y, 1, none⟩ = some (.int .i64 b) ∧ ((((W.setCell ⟨X + 1 + 1, 0, none⟩ a0).setCell ⟨X + 1 + 1, 1, none⟩ a1).setCell ⟨X + 1 + 1, 2, none⟩ a2).drew).cell? ⟨Y, 2, none⟩ = some (.int .i64 n) ∧ ((((W.setCell ⟨X + 1 + 1, 0, none⟩ a0).setCell ⟨X + 1 + 1, 1, none⟩ a1).setCell ⟨X + 1 + 1, 2, none⟩ a2).drew).cell? ⟨Y, 3, none⟩ = some (.bool d) ∧ ((((W.setCell ⟨X + 1 + 1, 0, none⟩ a0).setCell ⟨X + 1 + 1, 1, none⟩ a1).setCell ⟨X + 1 + 1, 2, none⟩ a2).drew).cell? ⟨Y, 4, none⟩ = some (.string t) ∧ ((((W.setCell ⟨X + 1 + 1, 0, none⟩ a0).setCell ⟨X + 1 + 1, 1, none⟩ a1).setCell ⟨X + 1 + 1, 2, none⟩ a2).drew).cell? ⟨Y, 5, none⟩ = some (.slice y l k))) := fun W a0 a1 a2 h => by
  simp only [cell_drew9, cellO (Ne.symm HXB.out.1), cellO (Ne.symm HXB.out.2.2.1)]
  exact h
 have HKp3 : Hid (∀ (W : World) (a0 a1 a2 a3 a4 a5 : Value), (W.cell? ⟨B, 8, none⟩ = some (.slice e1 S'.ino.length f1) ∧ W.cell? ⟨B, 9, none⟩ = some (.slice e2 S'.opn.length f2) ∧ W.cell? ⟨B, 10, none⟩ = some (.slice e3 S'.made.length f3) ∧ W.cell? ⟨Y, 0, none⟩ = some (.int .i64 a) ∧ W.cell? ⟨Y, 1, none⟩ = some (.int .i64 b) ∧ W.cell? ⟨Y, 2, none⟩ = some (.int .i64 n) ∧ W.cell? ⟨Y, 3, none⟩ = some (.bool d) ∧ W.cell? ⟨Y, 4, none⟩ = some (.string t) ∧ W.cell? ⟨Y, 5, none⟩ = some (.slice y l k)) → (((laidR W (X + 1 + 1 + 1) a0 a1 a2 a3 a4 a5).drew).cell? ⟨B, 8, none⟩ = some (.slice e1 S'.ino.length f1) ∧ ((laidR W (X + 1 + 1 + 1) a0 a1 a2 a3 a4 a5).drew).cell? ⟨B, 9, none⟩ = some (.slice e2 S'.opn.length f2) ∧ ((laidR W (X + 1 + 1 + 1) a0 a1 a2 a3 a4 a5).drew).cell? ⟨B, 10, none⟩ = some (.slice e3 S'.made.length f3) ∧ ((laidR W (X + 1 + 1 + 1) a0 a1 a2 a3 a4 a5).drew).cell? ⟨Y, 0, none⟩ = some (.int .i64 a) ∧ ((laidR W (X + 1 + 1 + 1) a0 a1 a2 a3 a4 a5).drew).cell? ⟨Y, 1, none⟩ = some (.int .i64 b) ∧ ((laidR W (X + 1 + 1 + 1) a0 a1 a2 a3 a4 a5).drew).cell? ⟨Y, 2, none⟩ = some (.int .i64 n) ∧ ((laidR W (X + 1 + 1 + 1) a0 a1 a2 a3 a4 a5).drew).cell? ⟨Y, 3, none⟩ = some (.bool d) ∧ ((laidR W (X + 1 + 1 + 1) a0 a1 a2 a3 a4 a5).drew).cell? ⟨Y, 4, none⟩ = some (.string t) ∧ ((laidR W (X + 1 + 1 + 1) a0 a1 a2 a3 a4 a5).drew).cell? ⟨Y, 5, none⟩ = some (.slice y l k))) := fun W a0 a1 a2 a3 a4 a5 h => by
  simp only [cell_drew9, cellO (Ne.symm HXB.out.2.1), cellO (Ne.symm HXB.out.2.2.2)]
  exact h
 clear hcb hsr hof hk7 hb2 hb3 HC5
 go_upto_region 3 with fail
 rw [HWY.out.1, HWY.out.2]
 refine wp_region_held_drew (S := fun w' => w'.cell? ⟨B, 8, none⟩ = some (.slice e1 S'.ino.length f1) ∧ w'.cell? ⟨B, 9, none⟩ = some (.slice e2 S'.opn.length f2) ∧ w'.cell? ⟨B, 10, none⟩ = some (.slice e3 S'.made.length f3) ∧ w'.cell? ⟨Y, 0, none⟩ = some (.int .i64 a) ∧ w'.cell? ⟨Y, 1, none⟩ = some (.int .i64 b) ∧ w'.cell? ⟨Y, 2, none⟩ = some (.int .i64 n) ∧ w'.cell? ⟨Y, 3, none⟩ = some (.bool d) ∧ w'.cell? ⟨Y, 4, none⟩ = some (.string t) ∧ w'.cell? ⟨Y, 5, none⟩ = some (.slice y l k)) (by kernel_rfl) ?_ (fun hHeld => ?_)
 · exact HS7.out
 refine tkA 0 rfl ?_
 refine tkA 1 rfl ?_
 refine tkA 2 rfl ?_
 refine tkA 3 rfl ?_
 refine tkA 4 rfl ?_
 refine wpAnyH_ready (rs := [5]) (by kernel_rfl) (by simp) ?_
 refine AllReadyH.cons rfl (fun K hK => ?_) AllReadyH.nil
 go_simp
 refine hK.out _ _ ?_ (fun hHeld => ?_)
 · exact HKp2.out _ _ _ _ HS7.out
 clear hK K
 try simp only [Act.put, lz0, lz1, lz2, lz3, lz4, lz5]
 refine wpAnyH_ready (rs := [6]) (by kernel_rfl) (by simp) ?_
 refine AllReadyH.cons rfl (fun K hK => ?_) AllReadyH.nil
 go_simp
 refine hK.out _ _ ?_ (fun hHeld => ?_)
 · exact HKp3.out _ _ _ _ _ _ _ hHeld
 clear hK K
 try simp only [Act.put, lz0, lz1, lz2, lz3, lz4, lz5]
 refine wpAnyH_done (by kernel_rfl) ?_ _
 obtain ⟨W8, hW8⟩ : ∃ W8, (laidR (laidS W7 (X + 1 + 1) (.slice e1 S'.ino.length f1) (.slice e2 S'.opn.length f2) (.slice e3 S'.made.length f3)) (X + 1 + 1 + 1) (.int .i64 a) (.int .i64 b) (.int .i64 n) (.bool d) (.string t) (.slice y l k)).drew = W8 := ⟨_, rfl⟩
 have HBS : Hid (W8.heap[X + 1 + 1]? = some (.cells #[.slice e1 S'.ino.length f1, .slice e2 S'.opn.length f2, .slice e3 S'.made.length f3] 27 (0, 0))) := by
  rw [← hW8, heap_drew9, res_other (by omega)]; exact block_sta HB2.out _ _ _
 have HBR : Hid (W8.heap[X + 1 + 1 + 1]? = some (.cells #[.int .i64 a, .int .i64 b, .int .i64 n, .bool d, .string t, .slice y l k] 31 (0, 0))) := by
  rw [← hW8, heap_drew9]; exact block_res ((sta_other (by omega)).trans HB3.out) _ _ _ _ _ _
 have HE : Hid (Plays w (S', ⟨a, b, n, d, t, ns⟩) (.returned (.tuple #[.agg #[.slice e1 S'.ino.length f1, .slice e2 S'.opn.length f2, .slice e3 S'.made.length f3], .agg #[.int .i64 a, .int .i64 b, .int .i64 n, .bool d, .string t, .slice y l k]])) W8) := by
  rw [← hW8]
  exact plays_end (A := ⟨a, b, n, d, t, ns⟩) HKW.out HC7.out HW.out.2 HBx.out.2.2.2.2 (HSr7.out.less HW5.out) HOf7.out _ _ _ _ _ _
 clear hHeld x0 x1 x2 y0 y1 y2 y3 y4 y5 g0 g1 g2 r0 r1 r2 r3 r4 r5 HS7 HKp2 HKp3
 rw [hW8]
 clear hW8
 go_wp2_with fail
 (try simp only [Exit.inBlock, Exit.then])
 refine bodyPost_ret (results_two rfl _ _ (X + 1 + 1) (X + 1 + 1 + 1) 27 31 #[.slice e1 S'.ino.length f1, .slice e2 S'.opn.length f2, .slice e3 S'.made.length f3] #[.int .i64 a, .int .i64 b, .int .i64 n, .bool d, .string t, .slice y l k] (0, 0) _ _ rfl rfl HBS.out HBR.out Tryz.underlying27 rfl (by kernel_rfl) Tryz.underlying31 rfl (by kernel_rfl)) rfl ?_
 exact HE.out
def doR (S : Sta) (c : Cal) (pick : List Int → Int) : Except Int (Sta × Ans) :=
 if c.kind = 0 then createR S c c.core.toNat false else
 if c.kind = 1 then createR S c c.core.toNat true else
 if c.kind = 2 then openR S c pick else
 if c.kind = 3 then closeR S c else
 if c.kind = 4 then readR S c else
 if c.kind = 5 then writeR S c else
 if c.kind = 6 then truncR S c else
 if c.kind = 7 then sizeR S c else
 if c.kind = 8 then linkR S c else
 if c.kind = 9 then unlinkR S c else
 if c.kind = 10 then rmdirR S c else
 if c.kind = 11 then renameR S c else
 if c.kind = 12 then listR S c else
 if c.kind = 13 then statR S c else
 if c.kind = 14 then linksC S c else
 if c.kind = 15 then fsyncR S c else
 if c.kind = 16 then .ok (S, ansC 0) else
 .ok (S, ansC 9)
def playR (S : Sta) (c : Cal) (pick : List Int → Int) : Sta × Ans :=
 if mayB S = true ∧ 0 ≤ c.core ∧ c.core < (S.made.length : Int) then ansR S (doR S c pick) else (S, ansC 9)
theorem plays_on {w W1 W7 : World} {X : Nat} {v1 v2 v3 : Value} {eu : List Value} {S' : Sta} {A : Ans} {z : Option Addr} {l k : Nat} (kk : Kept [] w W1) (ho : Os W7 W1.heap.size v1 v2 v3 eu S') (k7 : Kept [] W1 W7) (hb : Bd S') (hX : w.heap.size = X) (hs : W1.heap.size = X + 1 + 1 + 1 + 1) (hsr : Sr W7 W1.heap.size (.slice z l k) A.names) (hof : ∀ b, (Value.slice z l k).ownBlock = some b → Off [b] v1 v2 v3 eu) (a1 a2 a3 a4 a5 a6 : Value) :
  Plays w (S', A) (.returned (.tuple #[.agg #[v1, v2, v3], ansV A (.slice z l k)])) (laidR (laidS W7 (X + 1 + 1) v1 v2 v3) (X + 1 + 1 + 1) a1 a2 a3 a4 a5 a6) := by
 refine ⟨v1, v2, v3, eu, z, l, k, rfl, Os.less ((ho.sta (by omega) v1 v2 v3).res (by omega) a1 a2 a3 a4 a5 a6) kk.size, ?_, hof, kept_res (kept_sta (kk.trans k7 (by simp)) (by omega) v1 v2 v3) (by omega) a1 a2 a3 a4 a5 a6, hb⟩
 refine (hsr.same fun q hq => ?_).less kk.size
 have := (hsr.block q hq).1
 rw [res_other (by omega), sta_other (by omega)]
def sameA (a b : Ans) : Bool := a.code == b.code && a.fd == b.fd && a.num == b.num && a.dir == b.dir && a.data.toList == b.data.toList && decide (a.names = b.names)
theorem boxes2 (w : World) (c1 c2 : Array Value) (t1 t2 : TypeId) : ∃ W X, Hid ((w.alloc (.cells c1 t1 (0, 0))).alloc (.cells c2 t2 (0, 0)) = W ∧ w.heap.size = X) ∧ Hid (Kept [] w W) ∧ Hid (W.heap[X]? = some (.cells c1 t1 (0, 0)) ∧ W.heap[X + 1]? = some (.cells c2 t2 (0, 0)) ∧ W.heap.size = X + 1 + 1) := by
 have s1 : (w.alloc (.cells c1 t1 (0, 0))).heap.size = w.heap.size + 1 := by simp
 refine ⟨_, _, ⟨rfl, rfl⟩, ((Kept.refl [] w).alloc _).alloc _, ?_, ?_, by simp⟩
 ·
  rw [Below.heap_alloc _ _ _ (by omega)]
  exact Go.heap_alloc_new _ _
 ·
  have := Go.heap_alloc_new (w.alloc (.cells c1 t1 (0, 0))) (.cells c2 t2 (0, 0))
  rw [s1] at this
  exact this
theorem p_same {w : World} {a b : Ans} {za zb : Option Addr} {la lb ca cb : Nat} (hla : la = a.names.length) (hlb : lb = b.names.length) (ha : Ss w za a.names) (hb : Ss w zb b.names) :
  Calls Tryz.prog 27 #[ansV a (.slice za la ca), ansV b (.slice zb lb cb)] w fun e w' => e = .returned (.bool (sameA a b)) ∧ Kept [] w w' := by
 obtain ⟨W1, X, HW, HKW, HBx⟩ := boxes2 w #[.int .i64 a.code, .int .i64 a.fd, .int .i64 a.num, .bool a.dir, .string a.data, .slice za la ca] #[.int .i64 b.code, .int .i64 b.fd, .int .i64 b.num, .bool b.dir, .string b.data, .slice zb lb cb] 31 31
 have HA : Hid (la = a.names.length ∧ lb = b.names.length ∧ Ss W1 za a.names ∧ Ss W1 zb b.names) := ⟨hla, hlb, ha.kept HKW.out, hb.kept HKW.out⟩
 obtain ⟨x0, x1, x2, x3, x4, x5⟩ := cz6 HBx.out.1
 obtain ⟨y0, y1, y2, y3, y4, y5⟩ := cz6 HBx.out.2.1
 have HDef : Hid (sameA a b = (a.code == b.code && a.fd == b.fd && a.num == b.num && a.dir == b.dir && a.data.toList == b.data.toList && decide (a.names = b.names))) := rfl
 clear ha hb hla hlb
 obtain ⟨r, hr⟩ : ∃ r, sameA a b = r := ⟨_, rfl⟩
 rw [hr] at HDef ⊢
 clear hr
 go_enter Tryz.func27, Tryz.ntmps27
 go_upto_region 1 with fail
 rw [HW.out.1, HW.out.2]
 clear HW HBx
 by_cases h0 : a.code = b.code
 rotate_left
 ·
  have t0 : (a.code == b.code) = false := by simpa using h0
  have HR : Hid (r = false) := by show _ = _; rw [HDef.out]; simp [h0]
  go_wp2_with fail
  go_ret
  exact ⟨ret_bool HR.out.symm, HKW.out⟩
 have t0 : (a.code == b.code) = true := by simpa using h0
 by_cases h1 : a.fd = b.fd
 rotate_left
 ·
  have t1 : (a.fd == b.fd) = false := by simpa using h1
  have HR : Hid (r = false) := by show _ = _; rw [HDef.out]; simp [h0, h1]
  go_wp2_with fail
  go_ret
  exact ⟨ret_bool HR.out.symm, HKW.out⟩
 have t1 : (a.fd == b.fd) = true := by simpa using h1
 by_cases h2 : a.num = b.num
 rotate_left
 ·
  have t2 : (a.num == b.num) = false := by simpa using h2
  have HR : Hid (r = false) := by show _ = _; rw [HDef.out]; simp [h0, h1, h2]
  go_wp2_with fail
  go_ret
  exact ⟨ret_bool HR.out.symm, HKW.out⟩
 have t2 : (a.num == b.num) = true := by simpa using h2
 by_cases h3 : a.dir = b.dir
 rotate_left
 ·
  have t3 : (a.dir == b.dir) = false := by simpa using h3
  have HR : Hid (r = false) := by show _ = _; rw [HDef.out]; simp [h0, h1, h2, h3]
  go_wp2_with fail
  go_ret
  exact ⟨ret_bool HR.out.symm, HKW.out⟩
 have t3 : (a.dir == b.dir) = true := by simpa using h3
 by_cases h4 : a.data.toList = b.data.toList
 rotate_left
 ·
  have t4 : (a.data.toList == b.data.toList) = false := by simpa using h4
  have HR : Hid (r = false) := by show _ = _; rw [HDef.out, t4]; simp
  go_wp2_with fail
  go_ret
  exact ⟨ret_bool HR.out.symm, HKW.out⟩
 have t4 : (a.data.toList == b.data.toList) = true := by simpa using h4
 have HR : Hid (r = decide (a.names = b.names)) := by show _ = _; rw [HDef.out, t0, t1, t2, t3, t4]; simp
 go_wp2_with fail
 refine (slices_equal za zb la lb ca cb a.names b.names W1 HA.out.1 HA.out.2.1 HA.out.2.2.1 HA.out.2.2.2).mono ?_
 rintro e w2 ⟨rfl, q, hq⟩
 have HK2 : Hid (Kept [] w w2) := by rw [hq]; exact HKW.out.drewN q
 rw [← HR.out]
 clear hq
 go_wp2_with fail
 go_ret
 exact ⟨rfl, HK2.out⟩
def allowsR (S : Sta) (c : Cal) (r : Ans) : Sta × Bool :=
 if sameA (playR S c (fun xs => toldI xs r.fd)).2 r then ((playR S c (fun xs => toldI xs r.fd)).1, true) else (S, false)
def Tells (w : World) (x : Sta × Bool) (e : Ending) (w' : World) : Prop :=
 ∃ (u1 u2 u3 : Value) (eu : List Value), e = .returned (.tuple #[.agg #[u1, u2, u3], .bool x.2]) ∧ Os w' w.heap.size u1 u2 u3 eu x.1 ∧ Kept [] w w' ∧ Bd x.1
theorem results_ct {P : Program} {fn : Func} {p q : Tmp} {ty : TypeId} (h : fn.results = #[.cell p ty, .tmp q]) (tmps : Array Value) (w : World) (g : Nat) (t : TypeId) (cs : Array Value) (fr : Nat × Nat) (d : TypeDesc) (v : Value)
  (hp : tmps.getD p undef = .pointer (some ⟨g, 0, none⟩)) (hq : tmps.getD q undef = v) (hg : w.heap[g]? = some (.cells cs t fr))
  (hu : P.underlying ty = some d) (hd : (match d with | .struct _ | .array _ _ => true | _ => false) = true) (hi : (P.info? ty).map (·.size) = some cs.size) :
  (results fn tmps).run P w = .ok (.tuple #[.agg cs, v]) w := by
 have hp' : tmps[p]?.getD undef = .pointer (some ⟨g, 0, none⟩) := by simpa using hp
 have hq' : tmps[q]?.getD undef = v := by simpa using hq
 simp [results, h, hp', hq', asAddr, run_loadVar_row w g t ty cs fr d hg hu hd hi]
end Go.Proofs.YtffncojcnbhblaaGreatDoor
