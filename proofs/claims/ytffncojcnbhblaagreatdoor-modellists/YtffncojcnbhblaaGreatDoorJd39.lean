/-
  Joined of my texts Yr.
-/
import Derived.Test.YtffncojcnbhblaaGreatDoorJd37
import Derived.Test.YtffncojcnbhblaaGreatDoorJd38
import Derived.Test.YtffncojcnbhblaaGreatDoorJd34
import Derived.Test.YtffncojcnbhblaaGreatDoorTk
set_option linter.unusedVariables false
set_option linter.unusedSimpArgs false
set_option maxRecDepth 100000
set_option maxHeartbeats 8000000
namespace Go.Proofs.YtffncojcnbhblaaGreatDoor
open List renaming setIfInBounds_toArray → lz0, set_cons_zero → lz1, set_cons_succ → lz2, getElem_toArray → lz3, getElem_cons_zero → lz4, getElem_cons_succ → lz5
open Go.RowKit
theorem results_cctY {P : Program} {fn : Func} {p q r : Tmp} {ty uy : TypeId} (h : fn.results = #[.cell p ty, .cell q uy, .tmp r]) (tmps : Array Value) (w : World) (g k : Nat) (t u : TypeId) (cs ds : Array Value) (fr : Nat × Nat) (d e : TypeDesc) (v : Value)
  (hp : tmps.getD p undef = .pointer (some ⟨g, 0, none⟩)) (hq : tmps.getD q undef = .pointer (some ⟨k, 0, none⟩)) (hr : tmps.getD r undef = v) (hg : w.heap[g]? = some (.cells cs t fr)) (hk : w.heap[k]? = some (.cells ds u fr))
  (hu : P.underlying ty = some d) (hd : (match d with | .struct _ | .array _ _ => true | _ => false) = true) (hi : (P.info? ty).map (·.size) = some cs.size)
  (hu' : P.underlying uy = some e) (hd' : (match e with | .struct _ | .array _ _ => true | _ => false) = true) (hi' : (P.info? uy).map (·.size) = some ds.size) :
  (results fn tmps).run P w = .ok (.tuple #[.agg cs, .agg ds, v]) w := by
 have hp' : tmps[p]?.getD undef = .pointer (some ⟨g, 0, none⟩) := by simpa using hp
 have hq' : tmps[q]?.getD undef = .pointer (some ⟨k, 0, none⟩) := by simpa using hq
 have hr' : tmps[r]?.getD undef = v := by simpa using hr
 simp [results, h, hp', hq', hr', asAddr, run_loadVar_row w g t ty cs fr d hg hu hd hi, run_loadVar_row w k u uy ds fr e hk hu' hd' hi']
theorem results_ccY {P : Program} {fn : Func} {p q : Tmp} {ty uy : TypeId} (h : fn.results = #[.cell p ty, .cell q uy]) (tmps : Array Value) (w : World) (g k : Nat) (t u : TypeId) (cs ds : Array Value) (fr : Nat × Nat) (d e : TypeDesc)
  (hp : tmps.getD p undef = .pointer (some ⟨g, 0, none⟩)) (hq : tmps.getD q undef = .pointer (some ⟨k, 0, none⟩)) (hg : w.heap[g]? = some (.cells cs t fr)) (hk : w.heap[k]? = some (.cells ds u fr))
  (hu : P.underlying ty = some d) (hd : (match d with | .struct _ | .array _ _ => true | _ => false) = true) (hi : (P.info? ty).map (·.size) = some cs.size)
  (hu' : P.underlying uy = some e) (hd' : (match e with | .struct _ | .array _ _ => true | _ => false) = true) (hi' : (P.info? uy).map (·.size) = some ds.size) :
  (results fn tmps).run P w = .ok (.tuple #[.agg cs, .agg ds]) w := by
 have hp' : tmps[p]?.getD undef = .pointer (some ⟨g, 0, none⟩) := by simpa using hp
 have hq' : tmps[q]?.getD undef = .pointer (some ⟨k, 0, none⟩) := by simpa using hq
 simp [results, h, hp', hq', asAddr, run_loadVar_row w g t ty cs fr d hg hu hd hi, run_loadVar_row w k u uy ds fr e hk hu' hd' hi']
theorem row_type {w : World} {H : Nat} {T : TypeId} {k : Nat} {v : Value} {m : Nat} {xs : List Value} (h : w.ownsRow H T k v m xs) {Y : Nat} {cs : Array Value} {U : TypeId} {fr : Nat × Nat} (hY : w.heap[Y]? = some (.cells cs U fr)) (hn : U ≠ T) : v.ownBlock ≠ some Y := by
 intro e
 rcases h.2 with ⟨rfl, rfl⟩ | ⟨g, cap, cur, rfl, hb, hgg, h4, h5, h6, h7⟩
 · cases e
 ·
  simp only [Value.ownBlock, Option.some.injEq] at e
  subst e
  rw [hgg] at hY
  simp only [Option.some.injEq, Obj.cells.injEq] at hY
  exact hn hY.2.1.symm
theorem off_type {w : World} {H : Nat} {v1 v2 v3 : Value} {ev : List Value} {S : Sta} (h : Os w H v1 v2 v3 ev S) {Y : Nat} {cs : Array Value} {U : TypeId} {fr : Nat × Nat} (hY : w.heap[Y]? = some (.cells cs U fr)) (hn : U ≠ 62 ∧ U ≠ 64 ∧ U ≠ 83 ∧ U ≠ 3) : Off [Y] v1 v2 v3 ev :=
 off_of ⟨row_type h.ino hY hn.1, row_type h.opn hY hn.2.2.1, row_type h.mad hY hn.2.2.2, fun v hv => by
  obtain ⟨j, hj, rfl⟩ := List.getElem_of_mem hv
  exact row_type (h.ent j (by rw [← h.evl]; exact hj) hj) hY hn.2.1⟩
@[reducible] def laidZ (w : World) (R : Nat) (a b c : Value) : World := ((w.setCell ⟨R, 0, none⟩ a).setCell ⟨R, 1, none⟩ b).setCell ⟨R, 2, none⟩ c
theorem blockZ {w : World} {R : Nat} {T : TypeId} {c0 c1 c2 : Value} (h : w.heap[R]? = some (.cells #[c0, c1, c2] T (0, 0))) (a b c : Value) : (laidZ w R a b c).heap[R]? = some (.cells #[a, b, c] T (0, 0)) := by
 unfold Go.Proofs.YtffncojcnbhblaaGreatDoor.laidZ
 rw [block_set (block_set (block_set h 0 _) 1 _) 2 _]
 rfl
theorem otherZ {w : World} {R Z : Nat} {a b c : Value} (h : Z ≠ R) : (laidZ w R a b c).heap[Z]? = w.heap[Z]? := by
 unfold Go.Proofs.YtffncojcnbhblaaGreatDoor.laidZ
 rw [block_other h, block_other h, block_other h]
theorem otherY {w : World} {R Z : Nat} {a b c d e f : Value} (h : Z ≠ R) : (laidY w R a b c d e f).heap[Z]? = w.heap[Z]? := by
 unfold Go.Proofs.YtffncojcnbhblaaGreatDoor.laidY
 rw [block_other h, block_other h, block_other h, block_other h, block_other h, block_other h]
theorem Os.belowZ {w : World} {H : Nat} {v1 v2 v3 : Value} {ev : List Value} {S : Sta} (h : Os w H v1 v2 v3 ev S) {Z : Nat} (hZ : Z < H) (i : Nat) (v : Value) : Os (w.setCell ⟨Z, i, none⟩ v) H v1 v2 v3 ev S :=
 h.keep kept_set (off_of ⟨fun e => by have := (h.ino.lt Z e).1; omega, fun e => by have := (h.opn.lt Z e).1; omega, fun e => by have := (h.mad.lt Z e).1; omega, fun u hu e => by
  obtain ⟨j, hj, rfl⟩ := List.getElem_of_mem hu
  have := ((h.ent j (by rw [← h.evl]; exact hj) hj).lt Z e).1
  omega⟩)
theorem Os.laidZ {w : World} {H : Nat} {v1 v2 v3 : Value} {ev : List Value} {S : Sta} (h : Os w H v1 v2 v3 ev S) {Z : Nat} (hZ : Z < H) (a b c : Value) : Os (laidZ w Z a b c) H v1 v2 v3 ev S :=
 ((h.belowZ hZ 0 a).belowZ hZ 1 b).belowZ hZ 2 c
theorem Os.laidY {w : World} {H : Nat} {v1 v2 v3 : Value} {ev : List Value} {S : Sta} (h : Os w H v1 v2 v3 ev S) {Z : Nat} (hZ : Z < H) (a b c d e f : Value) : Os (laidY w Z a b c d e f) H v1 v2 v3 ev S :=
 (((((h.belowZ hZ 0 a).belowZ hZ 1 b).belowZ hZ 2 c).belowZ hZ 3 d).belowZ hZ 4 e).belowZ hZ 5 f
theorem keptZ {w w' : World} (h : Kept [] w w') {Z : Nat} (hZ : w.heap.size ≤ Z) (a b c : Value) : Kept [] w (laidZ w' Z a b c) :=
 ((h.setCell (Or.inr hZ) a).setCell (Or.inr hZ) b).setCell (Or.inr hZ) c
theorem drew_cell {w : World} {a : Addr} : w.drew.cell? a = w.cell? a := rfl
theorem drew_heap {w : World} : w.drew.heap = w.heap := rfl
theorem boxY (w : World) (cs : Array Value) (t : TypeId) : ∃ W X, Hid (w.alloc (.cells cs t (0, 0)) = W ∧ w.heap.size = X) ∧ Hid (Kept [] w W) ∧ Hid (W.heap[X]? = some (.cells cs t (0, 0))) :=
 ⟨_, _, ⟨rfl, rfl⟩, (Kept.refl [] w).alloc _, Go.heap_alloc_new _ _⟩
theorem zs3 {w : World} {R : Nat} {T : TypeId} {a b c : Value} (h : w.heap[R]? = some (.cells #[a, b, c] T (0, 0))) : w.cell? ⟨R, 0, none⟩ = some a ∧ w.cell? ⟨R, 1, none⟩ = some b ∧ w.cell? ⟨R, 2, none⟩ = some c ∧ w.frozen? ⟨R, 0, none⟩ = false ∧ w.frozen? ⟨R, 1, none⟩ = false ∧ w.frozen? ⟨R, 2, none⟩ = false :=
 ⟨cellB h, cellB h, cellB h, frozen_of h 0, frozen_of h 1, frozen_of h 2⟩
theorem rs6 {w : World} {R : Nat} {T : TypeId} {a b c d e f : Value} (h : w.heap[R]? = some (.cells #[a, b, c, d, e, f] T (0, 0))) : w.cell? ⟨R, 0, none⟩ = some a ∧ w.cell? ⟨R, 1, none⟩ = some b ∧ w.cell? ⟨R, 2, none⟩ = some c ∧ w.cell? ⟨R, 3, none⟩ = some d ∧ w.cell? ⟨R, 4, none⟩ = some e ∧ w.cell? ⟨R, 5, none⟩ = some f ∧ w.frozen? ⟨R, 0, none⟩ = false ∧ w.frozen? ⟨R, 1, none⟩ = false ∧ w.frozen? ⟨R, 2, none⟩ = false ∧ w.frozen? ⟨R, 3, none⟩ = false ∧ w.frozen? ⟨R, 4, none⟩ = false ∧ w.frozen? ⟨R, 5, none⟩ = false :=
 ⟨cellB h, cellB h, cellB h, cellB h, cellB h, cellB h, frozen_of h 0, frozen_of h 1, frozen_of h 2, frozen_of h 3, frozen_of h 4, frozen_of h 5⟩
theorem ys8 {w : World} {R : Nat} {T : TypeId} {a b c d e f g h : Value} (i : w.heap[R]? = some (.cells #[a, b, c, d, e, f, g, h] T (0, 0))) : w.cell? ⟨R, 0, none⟩ = some a ∧ w.cell? ⟨R, 1, none⟩ = some b ∧ w.cell? ⟨R, 2, none⟩ = some c ∧ w.cell? ⟨R, 3, none⟩ = some d ∧ w.cell? ⟨R, 4, none⟩ = some e ∧ w.cell? ⟨R, 5, none⟩ = some f ∧ w.cell? ⟨R, 6, none⟩ = some g ∧ w.cell? ⟨R, 7, none⟩ = some h :=
 ⟨cellB i, cellB i, cellB i, cellB i, cellB i, cellB i, cellB i, cellB i⟩
theorem kb {w w' : World} {b : Nat} {o : Obj} (k : Kept [] w w') (h : w.heap[b]? = some o) : w'.heap[b]? = some o := (k.block _ (lt_of_heap h) (by simp)).trans h
theorem kpZ {W : World} {X Z d1 d2 d3 : Nat} {b1 b2 b3 : Option Addr} {S' : Sta} {n : Int} {a0 a1 a2 : Value} (hz : Z + 1 + 1 + 1 < X) (h : W.drew.cell? ⟨X, 0, none⟩ = some (.slice b1 S'.ino.length d1) ∧ W.drew.cell? ⟨X, 1, none⟩ = some (.slice b2 S'.opn.length d2) ∧ W.drew.cell? ⟨X, 2, none⟩ = some (.slice b3 S'.made.length d3) ∧ W.drew.cell? ⟨X + 1, 0, none⟩ = some (.int .i64 0) ∧ W.drew.cell? ⟨X + 1, 1, none⟩ = some (.int .i64 0) ∧ W.drew.cell? ⟨X + 1, 2, none⟩ = some (.int .i64 n) ∧ W.drew.cell? ⟨X + 1, 3, none⟩ = some (.bool false) ∧ W.drew.cell? ⟨X + 1, 4, none⟩ = some (.string ⟨#[]⟩) ∧ W.drew.cell? ⟨X + 1, 5, none⟩ = some (.slice none 0 0)) : (laidZ W (Z + 1 + 1) a0 a1 a2).drew.cell? ⟨X, 0, none⟩ = some (.slice b1 S'.ino.length d1) ∧ (laidZ W (Z + 1 + 1) a0 a1 a2).drew.cell? ⟨X, 1, none⟩ = some (.slice b2 S'.opn.length d2) ∧ (laidZ W (Z + 1 + 1) a0 a1 a2).drew.cell? ⟨X, 2, none⟩ = some (.slice b3 S'.made.length d3) ∧ (laidZ W (Z + 1 + 1) a0 a1 a2).drew.cell? ⟨X + 1, 0, none⟩ = some (.int .i64 0) ∧ (laidZ W (Z + 1 + 1) a0 a1 a2).drew.cell? ⟨X + 1, 1, none⟩ = some (.int .i64 0) ∧ (laidZ W (Z + 1 + 1) a0 a1 a2).drew.cell? ⟨X + 1, 2, none⟩ = some (.int .i64 n) ∧ (laidZ W (Z + 1 + 1) a0 a1 a2).drew.cell? ⟨X + 1, 3, none⟩ = some (.bool false) ∧ (laidZ W (Z + 1 + 1) a0 a1 a2).drew.cell? ⟨X + 1, 4, none⟩ = some (.string ⟨#[]⟩) ∧ (laidZ W (Z + 1 + 1) a0 a1 a2).drew.cell? ⟨X + 1, 5, none⟩ = some (.slice none 0 0) := by
 simp only [drew_cell] at h ⊢
 have e1 : (laidZ W (Z + 1 + 1) a0 a1 a2).heap[X]? = W.heap[X]? := otherZ (by omega)
 have e2 : (laidZ W (Z + 1 + 1) a0 a1 a2).heap[X + 1]? = W.heap[X + 1]? := otherZ (by omega)
 exact ⟨(World.cell?_of_block (a := ⟨X, 0, none⟩) e1).trans h.1, (World.cell?_of_block (a := ⟨X, 1, none⟩) e1).trans h.2.1, (World.cell?_of_block (a := ⟨X, 2, none⟩) e1).trans h.2.2.1, (World.cell?_of_block (a := ⟨X + 1, 0, none⟩) e2).trans h.2.2.2.1, (World.cell?_of_block (a := ⟨X + 1, 1, none⟩) e2).trans h.2.2.2.2.1, (World.cell?_of_block (a := ⟨X + 1, 2, none⟩) e2).trans h.2.2.2.2.2.1, (World.cell?_of_block (a := ⟨X + 1, 3, none⟩) e2).trans h.2.2.2.2.2.2.1, (World.cell?_of_block (a := ⟨X + 1, 4, none⟩) e2).trans h.2.2.2.2.2.2.2.1, (World.cell?_of_block (a := ⟨X + 1, 5, none⟩) e2).trans h.2.2.2.2.2.2.2.2⟩
theorem kpY {W : World} {X Z d1 d2 d3 : Nat} {b1 b2 b3 : Option Addr} {S' : Sta} {n : Int} {a0 a1 a2 a3 a4 a5 : Value} (hz : Z + 1 + 1 + 1 < X) (h : W.drew.cell? ⟨X, 0, none⟩ = some (.slice b1 S'.ino.length d1) ∧ W.drew.cell? ⟨X, 1, none⟩ = some (.slice b2 S'.opn.length d2) ∧ W.drew.cell? ⟨X, 2, none⟩ = some (.slice b3 S'.made.length d3) ∧ W.drew.cell? ⟨X + 1, 0, none⟩ = some (.int .i64 0) ∧ W.drew.cell? ⟨X + 1, 1, none⟩ = some (.int .i64 0) ∧ W.drew.cell? ⟨X + 1, 2, none⟩ = some (.int .i64 n) ∧ W.drew.cell? ⟨X + 1, 3, none⟩ = some (.bool false) ∧ W.drew.cell? ⟨X + 1, 4, none⟩ = some (.string ⟨#[]⟩) ∧ W.drew.cell? ⟨X + 1, 5, none⟩ = some (.slice none 0 0)) : (laidY W (Z + 1 + 1 + 1) a0 a1 a2 a3 a4 a5).drew.cell? ⟨X, 0, none⟩ = some (.slice b1 S'.ino.length d1) ∧ (laidY W (Z + 1 + 1 + 1) a0 a1 a2 a3 a4 a5).drew.cell? ⟨X, 1, none⟩ = some (.slice b2 S'.opn.length d2) ∧ (laidY W (Z + 1 + 1 + 1) a0 a1 a2 a3 a4 a5).drew.cell? ⟨X, 2, none⟩ = some (.slice b3 S'.made.length d3) ∧ (laidY W (Z + 1 + 1 + 1) a0 a1 a2 a3 a4 a5).drew.cell? ⟨X + 1, 0, none⟩ = some (.int .i64 0) ∧ (laidY W (Z + 1 + 1 + 1) a0 a1 a2 a3 a4 a5).drew.cell? ⟨X + 1, 1, none⟩ = some (.int .i64 0) ∧ (laidY W (Z + 1 + 1 + 1) a0 a1 a2 a3 a4 a5).drew.cell? ⟨X + 1, 2, none⟩ = some (.int .i64 n) ∧ (laidY W (Z + 1 + 1 + 1) a0 a1 a2 a3 a4 a5).drew.cell? ⟨X + 1, 3, none⟩ = some (.bool false) ∧ (laidY W (Z + 1 + 1 + 1) a0 a1 a2 a3 a4 a5).drew.cell? ⟨X + 1, 4, none⟩ = some (.string ⟨#[]⟩) ∧ (laidY W (Z + 1 + 1 + 1) a0 a1 a2 a3 a4 a5).drew.cell? ⟨X + 1, 5, none⟩ = some (.slice none 0 0) := by
 simp only [drew_cell] at h ⊢
 have e1 : (laidY W (Z + 1 + 1 + 1) a0 a1 a2 a3 a4 a5).heap[X]? = W.heap[X]? := otherY (by omega)
 have e2 : (laidY W (Z + 1 + 1 + 1) a0 a1 a2 a3 a4 a5).heap[X + 1]? = W.heap[X + 1]? := otherY (by omega)
 exact ⟨(World.cell?_of_block (a := ⟨X, 0, none⟩) e1).trans h.1, (World.cell?_of_block (a := ⟨X, 1, none⟩) e1).trans h.2.1, (World.cell?_of_block (a := ⟨X, 2, none⟩) e1).trans h.2.2.1, (World.cell?_of_block (a := ⟨X + 1, 0, none⟩) e2).trans h.2.2.2.1, (World.cell?_of_block (a := ⟨X + 1, 1, none⟩) e2).trans h.2.2.2.2.1, (World.cell?_of_block (a := ⟨X + 1, 2, none⟩) e2).trans h.2.2.2.2.2.1, (World.cell?_of_block (a := ⟨X + 1, 3, none⟩) e2).trans h.2.2.2.2.2.2.1, (World.cell?_of_block (a := ⟨X + 1, 4, none⟩) e2).trans h.2.2.2.2.2.2.2.1, (World.cell?_of_block (a := ⟨X + 1, 5, none⟩) e2).trans h.2.2.2.2.2.2.2.2⟩
def Inn (f : Nat) (args : List Value) (r : Value) (S S' : Sta) : Prop :=
 ∀ (w0 w : World) (X : Nat) (v1 v2 v3 : Value) (ev : List Value), Hc w0 w X v1 v2 v3 ev S → Calls Tryz.prog f (#[.pointer (some ⟨X, 0, none⟩)] ++ args.toArray) w fun e w' => e = .returned r ∧
  ∃ u1 u2 u3 eu F, Hc w0 w' X u1 u2 u3 eu S' ∧ Kept F w w' ∧ ∀ x ∈ F, x = X ∨ ¬ Off [x] v1 v2 v3 ev
theorem r_do0 {w : World} {p : Pl} {S S' : Sta} (h : Sv w p S) (hb : Bd S) (ht : tot S ≤ 17592186044000) (hm : MayP S) (c : Cal) (hck : c.kind = 0) {i : Nat} (hci : c.core = (i : Int)) (hil : i < S.made.length) (n : Int)
  (hin : Inn 61 [.agg #[.int .i64 0, .int .i64 (i : Int), .int .i64 c.fd, .int .i64 c.off, .int .i64 c.num, .string c.path, .string c.path2, .string c.data]] (.agg #[.int .i64 0, .int .i64 0, .int .i64 n, .bool false, .string ⟨#[]⟩, .slice none 0 0]) S S') :
  Calls Tryz.prog 37 #[.agg #[.slice p.a1 S.ino.length p.c1, .slice p.a2 S.opn.length p.c2, .slice p.a3 S.made.length p.c3], .agg #[.int .i64 c.kind, .int .i64 c.core, .int .i64 c.fd, .int .i64 c.off, .int .i64 c.num, .string c.path, .string c.path2, .string c.data], .int .i64 (-1)] w fun e w' => ∃ v1 v2 v3 ev, e = .returned (.tuple #[.agg #[v1, v2, v3], .agg #[.int .i64 0, .int .i64 0, .int .i64 n, .bool false, .string ⟨#[]⟩, .slice none 0 0], .bool true]) ∧ Os w' w.heap.size v1 v2 v3 ev S' ∧ Kept [] w w' := by
 rw [hck, hci]
 obtain ⟨Wa, Z, HWa, HKa, HZa⟩ := twoY w #[.slice p.a1 S.ino.length p.c1, .slice p.a2 S.opn.length p.c2, .slice p.a3 S.made.length p.c3] #[.int .i64 0, .int .i64 (i : Int), .int .i64 c.fd, .int .i64 c.off, .int .i64 c.num, .string c.path, .string c.path2, .string c.data] 27 35
 obtain ⟨W1, Z2, HWb, HKb, HZb⟩ := twoY Wa #[.slice none 0 0, .slice none 0 0, .slice none 0 0] #[.int .i64 0, .int .i64 0, .int .i64 0, .bool false, .string ⟨#[]⟩, .slice none 0 0] 27 31
 have hZ2 : Z2 = Z + 1 + 1 := by rw [← HWb.out.2]; exact HZa.out.2.2
 subst hZ2
 have HK1 : Hid (Kept [] w W1) := HKa.out.trans HKb.out (by simp)
 have HSv : Hid (Sv W1 p S) := h.kept HK1.out
 have HBd : Hid (Bd S) := hb
 have HMay : Hid (∀ W, Kept [] W1 W → Calls Tryz.prog 58 #[.agg #[.slice p.a1 S.ino.length p.c1, .slice p.a2 S.opn.length p.c2, .slice p.a3 S.made.length p.c3]] W fun e w' => e = .returned (.bool true) ∧ Kept [] W w') := fun W kW => r_may (HSv.out.kept kW) ht hm
 have HCp : Hid (∀ W, Kept [] W1 W → Calls Tryz.prog 59 #[.agg #[.slice p.a1 S.ino.length p.c1, .slice p.a2 S.opn.length p.c2, .slice p.a3 S.made.length p.c3]] W fun e w' => ∃ v1 v2 v3 ev, e = .returned (.agg #[v1, v2, v3]) ∧ Os w' W.heap.size v1 v2 v3 ev S ∧ Kept [] W w') := fun W kW => r_copy (HSv.out.kept kW) hb
 have HIn : Hid (_) := hin
 have HBx : Hid (W1.heap[Z]? = some (.cells #[.slice p.a1 S.ino.length p.c1, .slice p.a2 S.opn.length p.c2, .slice p.a3 S.made.length p.c3] 27 (0, 0)) ∧ W1.heap[Z + 1]? = some (.cells #[.int .i64 0, .int .i64 (i : Int), .int .i64 c.fd, .int .i64 c.off, .int .i64 c.num, .string c.path, .string c.path2, .string c.data] 35 (0, 0)) ∧ W1.heap[Z + 1 + 1]? = some (.cells #[.slice none 0 0, .slice none 0 0, .slice none 0 0] 27 (0, 0)) ∧ W1.heap[Z + 1 + 1 + 1]? = some (.cells #[.int .i64 0, .int .i64 0, .int .i64 0, .bool false, .string ⟨#[]⟩, .slice none 0 0] 31 (0, 0)) ∧ W1.heap.size = Z + 1 + 1 + 1 + 1 ∧ w.heap.size = Z) :=
  ⟨(HKb.out.block _ (lt_of_heap HZa.out.1) (by simp)).trans HZa.out.1, (HKb.out.block _ (lt_of_heap HZa.out.2.1) (by simp)).trans HZa.out.2.1, HZb.out.1, HZb.out.2.1, HZb.out.2.2, HWa.out.2⟩
 have i0 : decide ((i : Int) < 0) = false := decide_eq_false (by omega)
 have i1 : decide ((S.made.length : Int) ≤ (i : Int)) = false := decide_eq_false (by omega)
 have i2 : ¬ (i : Int) < 0 := by omega
 have i3 : ¬ (S.made.length : Int) ≤ (i : Int) := by omega
 obtain ⟨x0, x1, x2⟩ := cz3 HBx.out.1
 clear h hb ht hm hin hck hci hil HZa HZb HKa HKb
 go_enter Tryz.func37, Tryz.ntmps37
 go_upto_region 1 with fail
 rw [HWa.out.1, HWb.out.1, HWa.out.2]
 clear HWa HWb
 go_wp2_with fail
 refine (HMay.out _ (Kept.refl _ _)).mono ?_
 rintro e w2 ⟨rfl, k2⟩
 have HK2 : Hid (Kept [] W1 w2) := k2
 clear x0 x1 x2 k2
 have x0 := HK2.out.cell (cellB HBx.out.1 (i := 0)) (by simp)
 have x1 := HK2.out.cell (cellB HBx.out.1 (i := 1)) (by simp)
 have x2 := HK2.out.cell (cellB HBx.out.1 (i := 2)) (by simp)
 have y0 := HK2.out.cell (cellB HBx.out.2.1 (i := 0)) (by simp)
 have y1 := HK2.out.cell (cellB HBx.out.2.1 (i := 1)) (by simp)
 go_wp2_with fail
 refine (HCp.out _ HK2.out).mono ?_
 rintro e w3 ⟨v1, v2, v3, ev, rfl, o3, k3⟩
 obtain ⟨a1, c1, hv1, -⟩ := row_form o3.ino
 obtain ⟨a2, c2, hv2, -⟩ := row_form o3.opn
 obtain ⟨a3, c3, hv3, -⟩ := row_form o3.mad
 subst hv1 hv2 hv3
 obtain ⟨W4, X, HX, HKX, HXb⟩ := twoY w3 #[.slice a1 S.ino.length c1, .slice a2 S.opn.length c2, .slice a3 S.made.length c3] #[.int .i64 0, .int .i64 0, .int .i64 0, .bool false, .string ⟨#[]⟩, .slice none 0 0] 27 31
 have HO4 : Hid (Os W4 w2.heap.size (.slice a1 S.ino.length c1) (.slice a2 S.opn.length c2) (.slice a3 S.made.length c3) ev S) := o3.kept HKX.out
 have HK4 : Hid (Kept [] w2 W4) := k3.trans HKX.out (by simp)
 have HC4 : Hid (Hc w2 W4 X (.slice a1 S.ino.length c1) (.slice a2 S.opn.length c2) (.slice a3 S.made.length c3) ev S) :=
  ⟨HXb.out.1, HO4.out, off_type HO4.out HXb.out.1 (by decide), by have := k3.size; rw [← HX.out.2]; exact this, HK4.out⟩
 have HOf : Hid (Off [X + 1] (.slice a1 S.ino.length c1) (.slice a2 S.opn.length c2) (.slice a3 S.made.length c3) ev) := off_type HO4.out HXb.out.2.1 (by decide)
 clear x0 x1 x2 y0 y1 o3 k3
 have hkc := HK2.out.trans HK4.out (by simp)
 obtain ⟨y0, y1, y2, y3, y4, y5, y6, y7⟩ := ys8 (kb hkc HBx.out.2.1)
 clear hkc
 go_upto_region 5 with fail
 rw [HX.out.1, HX.out.2]
 go_wp2_with fail
 refine (HIn.out _ _ _ _ _ _ _ HC4.out).mono ?_
 rintro e w5 ⟨rfl, u1, u2, u3, eu, F, h5, kF, hF⟩
 obtain ⟨b1, d1, hu1, -⟩ := row_form h5.os.ino
 obtain ⟨b2, d2, hu2, -⟩ := row_form h5.os.opn
 obtain ⟨b3, d3, hu3, -⟩ := row_form h5.os.mad
 subst hu1 hu2 hu3
 have hr5 : w5.heap[X + 1]? = some (.cells #[.int .i64 0, .int .i64 0, .int .i64 0, .bool false, .string ⟨#[]⟩, .slice none 0 0] 31 (0, 0)) := (kF.block _ (lt_of_heap HXb.out.2.1) (fun hm => by
  rcases hF _ hm with h | h
  · omega
  · exact h HOf.out)).trans HXb.out.2.1
 have h6 := h5.laidY (Z := X + 1) (Nat.le_trans h5.lo (Nat.le_add_right _ 1)) (by omega) (off_type h5.os hr5 (by decide)) (.int .i64 0) (.int .i64 0) (.int .i64 n) (.bool false) (.string ⟨#[]⟩) (.slice none 0 0)
 have hr6 := blockY hr5 (.int .i64 0) (.int .i64 0) (.int .i64 n) (.bool false) (.string ⟨#[]⟩) (.slice none 0 0)
 obtain ⟨t0, t1, t2, t3, t4, t5, f0, f1, f2, f3, f4, f5⟩ := rs6 hr5
 obtain ⟨W6, hW6⟩ : ∃ W6, laidY w5 (X + 1) (.int .i64 0) (.int .i64 0) (.int .i64 n) (.bool false) (.string ⟨#[]⟩) (.slice none 0 0) = W6 := ⟨_, rfl⟩
 rw [hW6] at h6 hr6
 have HW6 : Hid (_) := hW6
 have HC6 : Hid (_) := h6
 have HR6 : Hid (_) := hr6
 have hk16 : Kept [] W1 W6 := HK2.out.trans h6.k (by simp)
 have hb2 : W6.heap[Z + 1 + 1]? = some (.cells #[.slice none 0 0, .slice none 0 0, .slice none 0 0] 27 (0, 0)) := (hk16.block _ (lt_of_heap HBx.out.2.2.1) (by simp)).trans HBx.out.2.2.1
 have hb3 : W6.heap[Z + 1 + 1 + 1]? = some (.cells #[.int .i64 0, .int .i64 0, .int .i64 0, .bool false, .string ⟨#[]⟩, .slice none 0 0] 31 (0, 0)) := (hk16.block _ (lt_of_heap HBx.out.2.2.2.1) (by simp)).trans HBx.out.2.2.2.1
 have HB2 : Hid (_) := hb2
 have HB3 : Hid (_) := hb3
 have hZX : Z + 1 + 1 + 1 < X := by have h1 := HBx.out.2.2.2.2.1; have h2 := HK2.out.size; have h3 := h6.lo; omega
 have HZX : Hid (_) := hZX
 have HS6 : Hid (W6.cell? ⟨X, 0, none⟩ = some (.slice b1 S'.ino.length d1) ∧ W6.cell? ⟨X, 1, none⟩ = some (.slice b2 S'.opn.length d2) ∧ W6.cell? ⟨X, 2, none⟩ = some (.slice b3 S'.made.length d3) ∧ W6.cell? ⟨X + 1, 0, none⟩ = some (.int .i64 0) ∧ W6.cell? ⟨X + 1, 1, none⟩ = some (.int .i64 0) ∧ W6.cell? ⟨X + 1, 2, none⟩ = some (.int .i64 n) ∧ W6.cell? ⟨X + 1, 3, none⟩ = some (.bool false) ∧ W6.cell? ⟨X + 1, 4, none⟩ = some (.string ⟨#[]⟩) ∧ W6.cell? ⟨X + 1, 5, none⟩ = some (.slice none 0 0)) := ⟨cellB h6.box, cellB h6.box, cellB h6.box, cellB hr6, cellB hr6, cellB hr6, cellB hr6, cellB hr6, cellB hr6⟩
 have m0 : W6.cell? ⟨X + 1, 0, none⟩ = some (.int .i64 0) := HS6.out.2.2.2.1
 obtain ⟨g0, g1, g2, s0, s1, s2⟩ := zs3 hb2
 obtain ⟨r0, r1, r2, r3, r4, r5, q0, q1, q2, q3, q4, q5⟩ := rs6 hb3
 clear hW6 h6 hr6 h5 hr5 kF hF hb2 hb3 hk16 hZX y0 y1 y2 y3 y4 y5 y6 y7
 go_upto_region 29 with fail
 unfold Go.Proofs.YtffncojcnbhblaaGreatDoor.laidY at HW6
 rw [HW6.out]
 clear t0 t1 t2 t3 t4 t5 f0 f1 f2 f3 f4 f5 HW6
 go_upto_region 31 with fail
 refine wp_region_held_drew (S := fun w' => w'.cell? ⟨X, 0, none⟩ = some (.slice b1 S'.ino.length d1) ∧ w'.cell? ⟨X, 1, none⟩ = some (.slice b2 S'.opn.length d2) ∧ w'.cell? ⟨X, 2, none⟩ = some (.slice b3 S'.made.length d3) ∧ w'.cell? ⟨X + 1, 0, none⟩ = some (.int .i64 0) ∧ w'.cell? ⟨X + 1, 1, none⟩ = some (.int .i64 0) ∧ w'.cell? ⟨X + 1, 2, none⟩ = some (.int .i64 n) ∧ w'.cell? ⟨X + 1, 3, none⟩ = some (.bool false) ∧ w'.cell? ⟨X + 1, 4, none⟩ = some (.string ⟨#[]⟩) ∧ w'.cell? ⟨X + 1, 5, none⟩ = some (.slice none 0 0)) (by kernel_rfl) ?_ (fun hHeld => ?_)
 · exact HS6.out
 refine tkA 0 rfl ?_
 refine tkA 1 rfl ?_
 refine wpAnyH_ready (rs := [2]) (by kernel_rfl) (by simp) ?_
 refine AllReadyH.cons rfl (fun K hK => ?_) AllReadyH.nil
 go_simp
 refine hK.out _ _ ?_ (fun hHeld => ?_)
 · exact kpZ HZX.out HS6.out
 clear hK K
 try simp only [Act.put, lz0, lz1, lz2, lz3, lz4, lz5]
 refine wpAnyH_ready (rs := [3]) (by kernel_rfl) (by simp) ?_
 refine AllReadyH.cons rfl (fun K hK => ?_) AllReadyH.nil
 go_simp
 refine hK.out _ _ ?_ (fun hHeld => ?_)
 · exact kpY HZX.out hHeld
 clear hK K
 try simp only [Act.put, lz0, lz1, lz2, lz3, lz4, lz5]
 refine tkA 4 rfl ?_
 refine wpAnyH_done (by kernel_rfl) ?_ _
 obtain ⟨W8, hW8⟩ : ∃ W8, (laidY (laidZ W6 (Z + 1 + 1) (.slice b1 S'.ino.length d1) (.slice b2 S'.opn.length d2) (.slice b3 S'.made.length d3)) (Z + 1 + 1 + 1) (.int .i64 0) (.int .i64 0) (.int .i64 n) (.bool false) (.string ⟨#[]⟩) (.slice none 0 0)).drew = W8 := ⟨_, rfl⟩
 have HBS : Hid (W8.heap[Z + 1 + 1]? = some (.cells #[(.slice b1 S'.ino.length d1), (.slice b2 S'.opn.length d2), (.slice b3 S'.made.length d3)] 27 (0, 0))) := by
  show _ = _
  rw [← hW8, drew_heap, otherY (by omega)]; exact blockZ HB2.out _ _ _
 have HBR : Hid (W8.heap[Z + 1 + 1 + 1]? = some (.cells #[.int .i64 0, .int .i64 0, .int .i64 n, .bool false, .string ⟨#[]⟩, .slice none 0 0] 31 (0, 0))) := by
  show _ = _
  rw [← hW8, drew_heap]; exact blockY ((otherZ (by omega)).trans HB3.out) _ _ _ _ _ _
 have HE : Hid (Os W8 w.heap.size (.slice b1 S'.ino.length d1) (.slice b2 S'.opn.length d2) (.slice b3 S'.made.length d3) eu S' ∧ Kept [] w W8) := by
  have hz := HBx.out.2.2.2.2.2
  have hz1 := HBx.out.2.2.2.2.1
  have hz2 := HK2.out.size
  rw [← hW8]
  refine ⟨Os.less (((HC6.out.os.laidZ (by omega) _ _ _).laidY (by omega) _ _ _ _ _ _).kept (Kept.refl _ _).drew) (by omega), (keptY (keptZ ((HK1.out.trans HK2.out (by simp)).trans HC6.out.k (by simp)) (by omega) _ _ _) (by omega) _ _ _ _ _ _).drew⟩
 clear hHeld g0 g1 g2 s0 s1 s2 r0 r1 r2 r3 r4 r5 q0 q1 q2 q3 q4 q5 m0 HS6
 rw [hW8]
 clear hW8
 go_wp2_with fail
 (try simp only [Exit.inBlock, Exit.then])
 refine bodyPost_ret (results_cctY rfl _ _ (Z + 1 + 1) (Z + 1 + 1 + 1) 27 31 #[(.slice b1 S'.ino.length d1), (.slice b2 S'.opn.length d2), (.slice b3 S'.made.length d3)] #[.int .i64 0, .int .i64 0, .int .i64 n, .bool false, .string ⟨#[]⟩, .slice none 0 0] (0, 0) _ _ (.bool true) rfl rfl rfl HBS.out HBR.out Tryz.underlying27 rfl (by kernel_rfl) Tryz.underlying31 rfl (by kernel_rfl)) rfl ?_
 exact ⟨_, _, _, eu, rfl, HE.out.1, HE.out.2⟩
theorem r_do1 {w : World} {p : Pl} {S S' : Sta} (h : Sv w p S) (hb : Bd S) (ht : tot S ≤ 17592186044000) (hm : MayP S) (c : Cal) (hck : c.kind = 1) {i : Nat} (hci : c.core = (i : Int)) (hil : i < S.made.length) (n : Int)
  (hin : Inn 61 [.agg #[.int .i64 1, .int .i64 (i : Int), .int .i64 c.fd, .int .i64 c.off, .int .i64 c.num, .string c.path, .string c.path2, .string c.data]] (.agg #[.int .i64 0, .int .i64 0, .int .i64 n, .bool false, .string ⟨#[]⟩, .slice none 0 0]) S S') :
  Calls Tryz.prog 37 #[.agg #[.slice p.a1 S.ino.length p.c1, .slice p.a2 S.opn.length p.c2, .slice p.a3 S.made.length p.c3], .agg #[.int .i64 c.kind, .int .i64 c.core, .int .i64 c.fd, .int .i64 c.off, .int .i64 c.num, .string c.path, .string c.path2, .string c.data], .int .i64 (-1)] w fun e w' => ∃ v1 v2 v3 ev, e = .returned (.tuple #[.agg #[v1, v2, v3], .agg #[.int .i64 0, .int .i64 0, .int .i64 n, .bool false, .string ⟨#[]⟩, .slice none 0 0], .bool true]) ∧ Os w' w.heap.size v1 v2 v3 ev S' ∧ Kept [] w w' := by
 rw [hck, hci]
 obtain ⟨Wa, Z, HWa, HKa, HZa⟩ := twoY w #[.slice p.a1 S.ino.length p.c1, .slice p.a2 S.opn.length p.c2, .slice p.a3 S.made.length p.c3] #[.int .i64 1, .int .i64 (i : Int), .int .i64 c.fd, .int .i64 c.off, .int .i64 c.num, .string c.path, .string c.path2, .string c.data] 27 35
 obtain ⟨W1, Z2, HWb, HKb, HZb⟩ := twoY Wa #[.slice none 0 0, .slice none 0 0, .slice none 0 0] #[.int .i64 0, .int .i64 0, .int .i64 0, .bool false, .string ⟨#[]⟩, .slice none 0 0] 27 31
 have hZ2 : Z2 = Z + 1 + 1 := by rw [← HWb.out.2]; exact HZa.out.2.2
 subst hZ2
 have HK1 : Hid (Kept [] w W1) := HKa.out.trans HKb.out (by simp)
 have HSv : Hid (Sv W1 p S) := h.kept HK1.out
 have HBd : Hid (Bd S) := hb
 have HMay : Hid (∀ W, Kept [] W1 W → Calls Tryz.prog 58 #[.agg #[.slice p.a1 S.ino.length p.c1, .slice p.a2 S.opn.length p.c2, .slice p.a3 S.made.length p.c3]] W fun e w' => e = .returned (.bool true) ∧ Kept [] W w') := fun W kW => r_may (HSv.out.kept kW) ht hm
 have HCp : Hid (∀ W, Kept [] W1 W → Calls Tryz.prog 59 #[.agg #[.slice p.a1 S.ino.length p.c1, .slice p.a2 S.opn.length p.c2, .slice p.a3 S.made.length p.c3]] W fun e w' => ∃ v1 v2 v3 ev, e = .returned (.agg #[v1, v2, v3]) ∧ Os w' W.heap.size v1 v2 v3 ev S ∧ Kept [] W w') := fun W kW => r_copy (HSv.out.kept kW) hb
 have HIn : Hid (_) := hin
 have HBx : Hid (W1.heap[Z]? = some (.cells #[.slice p.a1 S.ino.length p.c1, .slice p.a2 S.opn.length p.c2, .slice p.a3 S.made.length p.c3] 27 (0, 0)) ∧ W1.heap[Z + 1]? = some (.cells #[.int .i64 1, .int .i64 (i : Int), .int .i64 c.fd, .int .i64 c.off, .int .i64 c.num, .string c.path, .string c.path2, .string c.data] 35 (0, 0)) ∧ W1.heap[Z + 1 + 1]? = some (.cells #[.slice none 0 0, .slice none 0 0, .slice none 0 0] 27 (0, 0)) ∧ W1.heap[Z + 1 + 1 + 1]? = some (.cells #[.int .i64 0, .int .i64 0, .int .i64 0, .bool false, .string ⟨#[]⟩, .slice none 0 0] 31 (0, 0)) ∧ W1.heap.size = Z + 1 + 1 + 1 + 1 ∧ w.heap.size = Z) :=
  ⟨(HKb.out.block _ (lt_of_heap HZa.out.1) (by simp)).trans HZa.out.1, (HKb.out.block _ (lt_of_heap HZa.out.2.1) (by simp)).trans HZa.out.2.1, HZb.out.1, HZb.out.2.1, HZb.out.2.2, HWa.out.2⟩
 have i0 : decide ((i : Int) < 0) = false := decide_eq_false (by omega)
 have i1 : decide ((S.made.length : Int) ≤ (i : Int)) = false := decide_eq_false (by omega)
 have i2 : ¬ (i : Int) < 0 := by omega
 have i3 : ¬ (S.made.length : Int) ≤ (i : Int) := by omega
 obtain ⟨x0, x1, x2⟩ := cz3 HBx.out.1
 clear h hb ht hm hin hck hci hil HZa HZb HKa HKb
 go_enter Tryz.func37, Tryz.ntmps37
 go_upto_region 1 with fail
 rw [HWa.out.1, HWb.out.1, HWa.out.2]
 clear HWa HWb
 go_wp2_with fail
 refine (HMay.out _ (Kept.refl _ _)).mono ?_
 rintro e w2 ⟨rfl, k2⟩
 have HK2 : Hid (Kept [] W1 w2) := k2
 clear x0 x1 x2 k2
 have x0 := HK2.out.cell (cellB HBx.out.1 (i := 0)) (by simp)
 have x1 := HK2.out.cell (cellB HBx.out.1 (i := 1)) (by simp)
 have x2 := HK2.out.cell (cellB HBx.out.1 (i := 2)) (by simp)
 have y0 := HK2.out.cell (cellB HBx.out.2.1 (i := 0)) (by simp)
 have y1 := HK2.out.cell (cellB HBx.out.2.1 (i := 1)) (by simp)
 go_wp2_with fail
 refine (HCp.out _ HK2.out).mono ?_
 rintro e w3 ⟨v1, v2, v3, ev, rfl, o3, k3⟩
 obtain ⟨a1, c1, hv1, -⟩ := row_form o3.ino
 obtain ⟨a2, c2, hv2, -⟩ := row_form o3.opn
 obtain ⟨a3, c3, hv3, -⟩ := row_form o3.mad
 subst hv1 hv2 hv3
 obtain ⟨W4, X, HX, HKX, HXb⟩ := twoY w3 #[.slice a1 S.ino.length c1, .slice a2 S.opn.length c2, .slice a3 S.made.length c3] #[.int .i64 0, .int .i64 0, .int .i64 0, .bool false, .string ⟨#[]⟩, .slice none 0 0] 27 31
 have HO4 : Hid (Os W4 w2.heap.size (.slice a1 S.ino.length c1) (.slice a2 S.opn.length c2) (.slice a3 S.made.length c3) ev S) := o3.kept HKX.out
 have HK4 : Hid (Kept [] w2 W4) := k3.trans HKX.out (by simp)
 have HC4 : Hid (Hc w2 W4 X (.slice a1 S.ino.length c1) (.slice a2 S.opn.length c2) (.slice a3 S.made.length c3) ev S) :=
  ⟨HXb.out.1, HO4.out, off_type HO4.out HXb.out.1 (by decide), by have := k3.size; rw [← HX.out.2]; exact this, HK4.out⟩
 have HOf : Hid (Off [X + 1] (.slice a1 S.ino.length c1) (.slice a2 S.opn.length c2) (.slice a3 S.made.length c3) ev) := off_type HO4.out HXb.out.2.1 (by decide)
 clear x0 x1 x2 y0 y1 o3 k3
 have hkc := HK2.out.trans HK4.out (by simp)
 obtain ⟨y0, y1, y2, y3, y4, y5, y6, y7⟩ := ys8 (kb hkc HBx.out.2.1)
 clear hkc
 go_upto_region 5 with fail
 rw [HX.out.1, HX.out.2]
 go_wp2_with fail
 refine (HIn.out _ _ _ _ _ _ _ HC4.out).mono ?_
 rintro e w5 ⟨rfl, u1, u2, u3, eu, F, h5, kF, hF⟩
 obtain ⟨b1, d1, hu1, -⟩ := row_form h5.os.ino
 obtain ⟨b2, d2, hu2, -⟩ := row_form h5.os.opn
 obtain ⟨b3, d3, hu3, -⟩ := row_form h5.os.mad
 subst hu1 hu2 hu3
 have hr5 : w5.heap[X + 1]? = some (.cells #[.int .i64 0, .int .i64 0, .int .i64 0, .bool false, .string ⟨#[]⟩, .slice none 0 0] 31 (0, 0)) := (kF.block _ (lt_of_heap HXb.out.2.1) (fun hm => by
  rcases hF _ hm with h | h
  · omega
  · exact h HOf.out)).trans HXb.out.2.1
 have h6 := h5.laidY (Z := X + 1) (Nat.le_trans h5.lo (Nat.le_add_right _ 1)) (by omega) (off_type h5.os hr5 (by decide)) (.int .i64 0) (.int .i64 0) (.int .i64 n) (.bool false) (.string ⟨#[]⟩) (.slice none 0 0)
 have hr6 := blockY hr5 (.int .i64 0) (.int .i64 0) (.int .i64 n) (.bool false) (.string ⟨#[]⟩) (.slice none 0 0)
 obtain ⟨t0, t1, t2, t3, t4, t5, f0, f1, f2, f3, f4, f5⟩ := rs6 hr5
 obtain ⟨W6, hW6⟩ : ∃ W6, laidY w5 (X + 1) (.int .i64 0) (.int .i64 0) (.int .i64 n) (.bool false) (.string ⟨#[]⟩) (.slice none 0 0) = W6 := ⟨_, rfl⟩
 rw [hW6] at h6 hr6
 have HW6 : Hid (_) := hW6
 have HC6 : Hid (_) := h6
 have HR6 : Hid (_) := hr6
 have hk16 : Kept [] W1 W6 := HK2.out.trans h6.k (by simp)
 have hb2 : W6.heap[Z + 1 + 1]? = some (.cells #[.slice none 0 0, .slice none 0 0, .slice none 0 0] 27 (0, 0)) := (hk16.block _ (lt_of_heap HBx.out.2.2.1) (by simp)).trans HBx.out.2.2.1
 have hb3 : W6.heap[Z + 1 + 1 + 1]? = some (.cells #[.int .i64 0, .int .i64 0, .int .i64 0, .bool false, .string ⟨#[]⟩, .slice none 0 0] 31 (0, 0)) := (hk16.block _ (lt_of_heap HBx.out.2.2.2.1) (by simp)).trans HBx.out.2.2.2.1
 have HB2 : Hid (_) := hb2
 have HB3 : Hid (_) := hb3
 have hZX : Z + 1 + 1 + 1 < X := by have h1 := HBx.out.2.2.2.2.1; have h2 := HK2.out.size; have h3 := h6.lo; omega
 have HZX : Hid (_) := hZX
 have HS6 : Hid (W6.cell? ⟨X, 0, none⟩ = some (.slice b1 S'.ino.length d1) ∧ W6.cell? ⟨X, 1, none⟩ = some (.slice b2 S'.opn.length d2) ∧ W6.cell? ⟨X, 2, none⟩ = some (.slice b3 S'.made.length d3) ∧ W6.cell? ⟨X + 1, 0, none⟩ = some (.int .i64 0) ∧ W6.cell? ⟨X + 1, 1, none⟩ = some (.int .i64 0) ∧ W6.cell? ⟨X + 1, 2, none⟩ = some (.int .i64 n) ∧ W6.cell? ⟨X + 1, 3, none⟩ = some (.bool false) ∧ W6.cell? ⟨X + 1, 4, none⟩ = some (.string ⟨#[]⟩) ∧ W6.cell? ⟨X + 1, 5, none⟩ = some (.slice none 0 0)) := ⟨cellB h6.box, cellB h6.box, cellB h6.box, cellB hr6, cellB hr6, cellB hr6, cellB hr6, cellB hr6, cellB hr6⟩
 have m0 : W6.cell? ⟨X + 1, 0, none⟩ = some (.int .i64 0) := HS6.out.2.2.2.1
 obtain ⟨g0, g1, g2, s0, s1, s2⟩ := zs3 hb2
 obtain ⟨r0, r1, r2, r3, r4, r5, q0, q1, q2, q3, q4, q5⟩ := rs6 hb3
 clear hW6 h6 hr6 h5 hr5 kF hF hb2 hb3 hk16 hZX y0 y1 y2 y3 y4 y5 y6 y7
 go_upto_region 29 with fail
 unfold Go.Proofs.YtffncojcnbhblaaGreatDoor.laidY at HW6
 rw [HW6.out]
 clear t0 t1 t2 t3 t4 t5 f0 f1 f2 f3 f4 f5 HW6
 go_upto_region 31 with fail
 refine wp_region_held_drew (S := fun w' => w'.cell? ⟨X, 0, none⟩ = some (.slice b1 S'.ino.length d1) ∧ w'.cell? ⟨X, 1, none⟩ = some (.slice b2 S'.opn.length d2) ∧ w'.cell? ⟨X, 2, none⟩ = some (.slice b3 S'.made.length d3) ∧ w'.cell? ⟨X + 1, 0, none⟩ = some (.int .i64 0) ∧ w'.cell? ⟨X + 1, 1, none⟩ = some (.int .i64 0) ∧ w'.cell? ⟨X + 1, 2, none⟩ = some (.int .i64 n) ∧ w'.cell? ⟨X + 1, 3, none⟩ = some (.bool false) ∧ w'.cell? ⟨X + 1, 4, none⟩ = some (.string ⟨#[]⟩) ∧ w'.cell? ⟨X + 1, 5, none⟩ = some (.slice none 0 0)) (by kernel_rfl) ?_ (fun hHeld => ?_)
 · exact HS6.out
 refine tkA 0 rfl ?_
 refine tkA 1 rfl ?_
 refine wpAnyH_ready (rs := [2]) (by kernel_rfl) (by simp) ?_
 refine AllReadyH.cons rfl (fun K hK => ?_) AllReadyH.nil
 go_simp
 refine hK.out _ _ ?_ (fun hHeld => ?_)
 · exact kpZ HZX.out HS6.out
 clear hK K
 try simp only [Act.put, lz0, lz1, lz2, lz3, lz4, lz5]
 refine wpAnyH_ready (rs := [3]) (by kernel_rfl) (by simp) ?_
 refine AllReadyH.cons rfl (fun K hK => ?_) AllReadyH.nil
 go_simp
 refine hK.out _ _ ?_ (fun hHeld => ?_)
 · exact kpY HZX.out hHeld
 clear hK K
 try simp only [Act.put, lz0, lz1, lz2, lz3, lz4, lz5]
 refine tkA 4 rfl ?_
 refine wpAnyH_done (by kernel_rfl) ?_ _
 obtain ⟨W8, hW8⟩ : ∃ W8, (laidY (laidZ W6 (Z + 1 + 1) (.slice b1 S'.ino.length d1) (.slice b2 S'.opn.length d2) (.slice b3 S'.made.length d3)) (Z + 1 + 1 + 1) (.int .i64 0) (.int .i64 0) (.int .i64 n) (.bool false) (.string ⟨#[]⟩) (.slice none 0 0)).drew = W8 := ⟨_, rfl⟩
 have HBS : Hid (W8.heap[Z + 1 + 1]? = some (.cells #[(.slice b1 S'.ino.length d1), (.slice b2 S'.opn.length d2), (.slice b3 S'.made.length d3)] 27 (0, 0))) := by
  show _ = _
  rw [← hW8, drew_heap, otherY (by omega)]; exact blockZ HB2.out _ _ _
 have HBR : Hid (W8.heap[Z + 1 + 1 + 1]? = some (.cells #[.int .i64 0, .int .i64 0, .int .i64 n, .bool false, .string ⟨#[]⟩, .slice none 0 0] 31 (0, 0))) := by
  show _ = _
  rw [← hW8, drew_heap]; exact blockY ((otherZ (by omega)).trans HB3.out) _ _ _ _ _ _
 have HE : Hid (Os W8 w.heap.size (.slice b1 S'.ino.length d1) (.slice b2 S'.opn.length d2) (.slice b3 S'.made.length d3) eu S' ∧ Kept [] w W8) := by
  have hz := HBx.out.2.2.2.2.2
  have hz1 := HBx.out.2.2.2.2.1
  have hz2 := HK2.out.size
  rw [← hW8]
  refine ⟨Os.less (((HC6.out.os.laidZ (by omega) _ _ _).laidY (by omega) _ _ _ _ _ _).kept (Kept.refl _ _).drew) (by omega), (keptY (keptZ ((HK1.out.trans HK2.out (by simp)).trans HC6.out.k (by simp)) (by omega) _ _ _) (by omega) _ _ _ _ _ _).drew⟩
 clear hHeld g0 g1 g2 s0 s1 s2 r0 r1 r2 r3 r4 r5 q0 q1 q2 q3 q4 q5 m0 HS6
 rw [hW8]
 clear hW8
 go_wp2_with fail
 (try simp only [Exit.inBlock, Exit.then])
 refine bodyPost_ret (results_cctY rfl _ _ (Z + 1 + 1) (Z + 1 + 1 + 1) 27 31 #[(.slice b1 S'.ino.length d1), (.slice b2 S'.opn.length d2), (.slice b3 S'.made.length d3)] #[.int .i64 0, .int .i64 0, .int .i64 n, .bool false, .string ⟨#[]⟩, .slice none 0 0] (0, 0) _ _ (.bool true) rfl rfl rfl HBS.out HBR.out Tryz.underlying27 rfl (by kernel_rfl) Tryz.underlying31 rfl (by kernel_rfl)) rfl ?_
 exact ⟨_, _, _, eu, rfl, HE.out.1, HE.out.2⟩
theorem r_do5 {w : World} {p : Pl} {S S' : Sta} (h : Sv w p S) (hb : Bd S) (ht : tot S ≤ 17592186044000) (hm : MayP S) (c : Cal) (hck : c.kind = 5) {i : Nat} (hci : c.core = (i : Int)) (hil : i < S.made.length) (n : Int)
  (hin : Inn 63 [.agg #[.int .i64 5, .int .i64 (i : Int), .int .i64 c.fd, .int .i64 c.off, .int .i64 c.num, .string c.path, .string c.path2, .string c.data]] (.agg #[.int .i64 0, .int .i64 0, .int .i64 n, .bool false, .string ⟨#[]⟩, .slice none 0 0]) S S') :
  Calls Tryz.prog 37 #[.agg #[.slice p.a1 S.ino.length p.c1, .slice p.a2 S.opn.length p.c2, .slice p.a3 S.made.length p.c3], .agg #[.int .i64 c.kind, .int .i64 c.core, .int .i64 c.fd, .int .i64 c.off, .int .i64 c.num, .string c.path, .string c.path2, .string c.data], .int .i64 (-1)] w fun e w' => ∃ v1 v2 v3 ev, e = .returned (.tuple #[.agg #[v1, v2, v3], .agg #[.int .i64 0, .int .i64 0, .int .i64 n, .bool false, .string ⟨#[]⟩, .slice none 0 0], .bool true]) ∧ Os w' w.heap.size v1 v2 v3 ev S' ∧ Kept [] w w' := by
 rw [hck, hci]
 obtain ⟨Wa, Z, HWa, HKa, HZa⟩ := twoY w #[.slice p.a1 S.ino.length p.c1, .slice p.a2 S.opn.length p.c2, .slice p.a3 S.made.length p.c3] #[.int .i64 5, .int .i64 (i : Int), .int .i64 c.fd, .int .i64 c.off, .int .i64 c.num, .string c.path, .string c.path2, .string c.data] 27 35
 obtain ⟨W1, Z2, HWb, HKb, HZb⟩ := twoY Wa #[.slice none 0 0, .slice none 0 0, .slice none 0 0] #[.int .i64 0, .int .i64 0, .int .i64 0, .bool false, .string ⟨#[]⟩, .slice none 0 0] 27 31
 have hZ2 : Z2 = Z + 1 + 1 := by rw [← HWb.out.2]; exact HZa.out.2.2
 subst hZ2
 have HK1 : Hid (Kept [] w W1) := HKa.out.trans HKb.out (by simp)
 have HSv : Hid (Sv W1 p S) := h.kept HK1.out
 have HBd : Hid (Bd S) := hb
 have HMay : Hid (∀ W, Kept [] W1 W → Calls Tryz.prog 58 #[.agg #[.slice p.a1 S.ino.length p.c1, .slice p.a2 S.opn.length p.c2, .slice p.a3 S.made.length p.c3]] W fun e w' => e = .returned (.bool true) ∧ Kept [] W w') := fun W kW => r_may (HSv.out.kept kW) ht hm
 have HCp : Hid (∀ W, Kept [] W1 W → Calls Tryz.prog 59 #[.agg #[.slice p.a1 S.ino.length p.c1, .slice p.a2 S.opn.length p.c2, .slice p.a3 S.made.length p.c3]] W fun e w' => ∃ v1 v2 v3 ev, e = .returned (.agg #[v1, v2, v3]) ∧ Os w' W.heap.size v1 v2 v3 ev S ∧ Kept [] W w') := fun W kW => r_copy (HSv.out.kept kW) hb
 have HIn : Hid (_) := hin
 have HBx : Hid (W1.heap[Z]? = some (.cells #[.slice p.a1 S.ino.length p.c1, .slice p.a2 S.opn.length p.c2, .slice p.a3 S.made.length p.c3] 27 (0, 0)) ∧ W1.heap[Z + 1]? = some (.cells #[.int .i64 5, .int .i64 (i : Int), .int .i64 c.fd, .int .i64 c.off, .int .i64 c.num, .string c.path, .string c.path2, .string c.data] 35 (0, 0)) ∧ W1.heap[Z + 1 + 1]? = some (.cells #[.slice none 0 0, .slice none 0 0, .slice none 0 0] 27 (0, 0)) ∧ W1.heap[Z + 1 + 1 + 1]? = some (.cells #[.int .i64 0, .int .i64 0, .int .i64 0, .bool false, .string ⟨#[]⟩, .slice none 0 0] 31 (0, 0)) ∧ W1.heap.size = Z + 1 + 1 + 1 + 1 ∧ w.heap.size = Z) :=
  ⟨(HKb.out.block _ (lt_of_heap HZa.out.1) (by simp)).trans HZa.out.1, (HKb.out.block _ (lt_of_heap HZa.out.2.1) (by simp)).trans HZa.out.2.1, HZb.out.1, HZb.out.2.1, HZb.out.2.2, HWa.out.2⟩
 have i0 : decide ((i : Int) < 0) = false := decide_eq_false (by omega)
 have i1 : decide ((S.made.length : Int) ≤ (i : Int)) = false := decide_eq_false (by omega)
 have i2 : ¬ (i : Int) < 0 := by omega
 have i3 : ¬ (S.made.length : Int) ≤ (i : Int) := by omega
 obtain ⟨x0, x1, x2⟩ := cz3 HBx.out.1
 clear h hb ht hm hin hck hci hil HZa HZb HKa HKb
 go_enter Tryz.func37, Tryz.ntmps37
 go_upto_region 1 with fail
 rw [HWa.out.1, HWb.out.1, HWa.out.2]
 clear HWa HWb
 go_wp2_with fail
 refine (HMay.out _ (Kept.refl _ _)).mono ?_
 rintro e w2 ⟨rfl, k2⟩
 have HK2 : Hid (Kept [] W1 w2) := k2
 clear x0 x1 x2 k2
 have x0 := HK2.out.cell (cellB HBx.out.1 (i := 0)) (by simp)
 have x1 := HK2.out.cell (cellB HBx.out.1 (i := 1)) (by simp)
 have x2 := HK2.out.cell (cellB HBx.out.1 (i := 2)) (by simp)
 have y0 := HK2.out.cell (cellB HBx.out.2.1 (i := 0)) (by simp)
 have y1 := HK2.out.cell (cellB HBx.out.2.1 (i := 1)) (by simp)
 go_wp2_with fail
 refine (HCp.out _ HK2.out).mono ?_
 rintro e w3 ⟨v1, v2, v3, ev, rfl, o3, k3⟩
 obtain ⟨a1, c1, hv1, -⟩ := row_form o3.ino
 obtain ⟨a2, c2, hv2, -⟩ := row_form o3.opn
 obtain ⟨a3, c3, hv3, -⟩ := row_form o3.mad
 subst hv1 hv2 hv3
 obtain ⟨W4, X, HX, HKX, HXb⟩ := twoY w3 #[.slice a1 S.ino.length c1, .slice a2 S.opn.length c2, .slice a3 S.made.length c3] #[.int .i64 0, .int .i64 0, .int .i64 0, .bool false, .string ⟨#[]⟩, .slice none 0 0] 27 31
 have HO4 : Hid (Os W4 w2.heap.size (.slice a1 S.ino.length c1) (.slice a2 S.opn.length c2) (.slice a3 S.made.length c3) ev S) := o3.kept HKX.out
 have HK4 : Hid (Kept [] w2 W4) := k3.trans HKX.out (by simp)
 have HC4 : Hid (Hc w2 W4 X (.slice a1 S.ino.length c1) (.slice a2 S.opn.length c2) (.slice a3 S.made.length c3) ev S) :=
  ⟨HXb.out.1, HO4.out, off_type HO4.out HXb.out.1 (by decide), by have := k3.size; rw [← HX.out.2]; exact this, HK4.out⟩
 have HOf : Hid (Off [X + 1] (.slice a1 S.ino.length c1) (.slice a2 S.opn.length c2) (.slice a3 S.made.length c3) ev) := off_type HO4.out HXb.out.2.1 (by decide)
 clear x0 x1 x2 y0 y1 o3 k3
 have hkc := HK2.out.trans HK4.out (by simp)
 obtain ⟨y0, y1, y2, y3, y4, y5, y6, y7⟩ := ys8 (kb hkc HBx.out.2.1)
 clear hkc
 go_upto_region 5 with fail
 rw [HX.out.1, HX.out.2]
 go_wp2_with fail
 refine (HIn.out _ _ _ _ _ _ _ HC4.out).mono ?_
 rintro e w5 ⟨rfl, u1, u2, u3, eu, F, h5, kF, hF⟩
 obtain ⟨b1, d1, hu1, -⟩ := row_form h5.os.ino
 obtain ⟨b2, d2, hu2, -⟩ := row_form h5.os.opn
 obtain ⟨b3, d3, hu3, -⟩ := row_form h5.os.mad
 subst hu1 hu2 hu3
 have hr5 : w5.heap[X + 1]? = some (.cells #[.int .i64 0, .int .i64 0, .int .i64 0, .bool false, .string ⟨#[]⟩, .slice none 0 0] 31 (0, 0)) := (kF.block _ (lt_of_heap HXb.out.2.1) (fun hm => by
  rcases hF _ hm with h | h
  · omega
  · exact h HOf.out)).trans HXb.out.2.1
 have h6 := h5.laidY (Z := X + 1) (Nat.le_trans h5.lo (Nat.le_add_right _ 1)) (by omega) (off_type h5.os hr5 (by decide)) (.int .i64 0) (.int .i64 0) (.int .i64 n) (.bool false) (.string ⟨#[]⟩) (.slice none 0 0)
 have hr6 := blockY hr5 (.int .i64 0) (.int .i64 0) (.int .i64 n) (.bool false) (.string ⟨#[]⟩) (.slice none 0 0)
 obtain ⟨t0, t1, t2, t3, t4, t5, f0, f1, f2, f3, f4, f5⟩ := rs6 hr5
 obtain ⟨W6, hW6⟩ : ∃ W6, laidY w5 (X + 1) (.int .i64 0) (.int .i64 0) (.int .i64 n) (.bool false) (.string ⟨#[]⟩) (.slice none 0 0) = W6 := ⟨_, rfl⟩
 rw [hW6] at h6 hr6
 have HW6 : Hid (_) := hW6
 have HC6 : Hid (_) := h6
 have HR6 : Hid (_) := hr6
 have hk16 : Kept [] W1 W6 := HK2.out.trans h6.k (by simp)
 have hb2 : W6.heap[Z + 1 + 1]? = some (.cells #[.slice none 0 0, .slice none 0 0, .slice none 0 0] 27 (0, 0)) := (hk16.block _ (lt_of_heap HBx.out.2.2.1) (by simp)).trans HBx.out.2.2.1
 have hb3 : W6.heap[Z + 1 + 1 + 1]? = some (.cells #[.int .i64 0, .int .i64 0, .int .i64 0, .bool false, .string ⟨#[]⟩, .slice none 0 0] 31 (0, 0)) := (hk16.block _ (lt_of_heap HBx.out.2.2.2.1) (by simp)).trans HBx.out.2.2.2.1
 have HB2 : Hid (_) := hb2
 have HB3 : Hid (_) := hb3
 have hZX : Z + 1 + 1 + 1 < X := by have h1 := HBx.out.2.2.2.2.1; have h2 := HK2.out.size; have h3 := h6.lo; omega
 have HZX : Hid (_) := hZX
 have HS6 : Hid (W6.cell? ⟨X, 0, none⟩ = some (.slice b1 S'.ino.length d1) ∧ W6.cell? ⟨X, 1, none⟩ = some (.slice b2 S'.opn.length d2) ∧ W6.cell? ⟨X, 2, none⟩ = some (.slice b3 S'.made.length d3) ∧ W6.cell? ⟨X + 1, 0, none⟩ = some (.int .i64 0) ∧ W6.cell? ⟨X + 1, 1, none⟩ = some (.int .i64 0) ∧ W6.cell? ⟨X + 1, 2, none⟩ = some (.int .i64 n) ∧ W6.cell? ⟨X + 1, 3, none⟩ = some (.bool false) ∧ W6.cell? ⟨X + 1, 4, none⟩ = some (.string ⟨#[]⟩) ∧ W6.cell? ⟨X + 1, 5, none⟩ = some (.slice none 0 0)) := ⟨cellB h6.box, cellB h6.box, cellB h6.box, cellB hr6, cellB hr6, cellB hr6, cellB hr6, cellB hr6, cellB hr6⟩
 have m0 : W6.cell? ⟨X + 1, 0, none⟩ = some (.int .i64 0) := HS6.out.2.2.2.1
 obtain ⟨g0, g1, g2, s0, s1, s2⟩ := zs3 hb2
 obtain ⟨r0, r1, r2, r3, r4, r5, q0, q1, q2, q3, q4, q5⟩ := rs6 hb3
 clear hW6 h6 hr6 h5 hr5 kF hF hb2 hb3 hk16 hZX y0 y1 y2 y3 y4 y5 y6 y7
 go_upto_region 29 with fail
 unfold Go.Proofs.YtffncojcnbhblaaGreatDoor.laidY at HW6
 rw [HW6.out]
 clear t0 t1 t2 t3 t4 t5 f0 f1 f2 f3 f4 f5 HW6
 go_upto_region 31 with fail
 refine wp_region_held_drew (S := fun w' => w'.cell? ⟨X, 0, none⟩ = some (.slice b1 S'.ino.length d1) ∧ w'.cell? ⟨X, 1, none⟩ = some (.slice b2 S'.opn.length d2) ∧ w'.cell? ⟨X, 2, none⟩ = some (.slice b3 S'.made.length d3) ∧ w'.cell? ⟨X + 1, 0, none⟩ = some (.int .i64 0) ∧ w'.cell? ⟨X + 1, 1, none⟩ = some (.int .i64 0) ∧ w'.cell? ⟨X + 1, 2, none⟩ = some (.int .i64 n) ∧ w'.cell? ⟨X + 1, 3, none⟩ = some (.bool false) ∧ w'.cell? ⟨X + 1, 4, none⟩ = some (.string ⟨#[]⟩) ∧ w'.cell? ⟨X + 1, 5, none⟩ = some (.slice none 0 0)) (by kernel_rfl) ?_ (fun hHeld => ?_)
 · exact HS6.out
 refine tkA 0 rfl ?_
 refine tkA 1 rfl ?_
 refine wpAnyH_ready (rs := [2]) (by kernel_rfl) (by simp) ?_
 refine AllReadyH.cons rfl (fun K hK => ?_) AllReadyH.nil
 go_simp
 refine hK.out _ _ ?_ (fun hHeld => ?_)
 · exact kpZ HZX.out HS6.out
 clear hK K
 try simp only [Act.put, lz0, lz1, lz2, lz3, lz4, lz5]
 refine wpAnyH_ready (rs := [3]) (by kernel_rfl) (by simp) ?_
 refine AllReadyH.cons rfl (fun K hK => ?_) AllReadyH.nil
 go_simp
 refine hK.out _ _ ?_ (fun hHeld => ?_)
 · exact kpY HZX.out hHeld
 clear hK K
 try simp only [Act.put, lz0, lz1, lz2, lz3, lz4, lz5]
 refine tkA 4 rfl ?_
 refine wpAnyH_done (by kernel_rfl) ?_ _
 obtain ⟨W8, hW8⟩ : ∃ W8, (laidY (laidZ W6 (Z + 1 + 1) (.slice b1 S'.ino.length d1) (.slice b2 S'.opn.length d2) (.slice b3 S'.made.length d3)) (Z + 1 + 1 + 1) (.int .i64 0) (.int .i64 0) (.int .i64 n) (.bool false) (.string ⟨#[]⟩) (.slice none 0 0)).drew = W8 := ⟨_, rfl⟩
 have HBS : Hid (W8.heap[Z + 1 + 1]? = some (.cells #[(.slice b1 S'.ino.length d1), (.slice b2 S'.opn.length d2), (.slice b3 S'.made.length d3)] 27 (0, 0))) := by
  show _ = _
  rw [← hW8, drew_heap, otherY (by omega)]; exact blockZ HB2.out _ _ _
 have HBR : Hid (W8.heap[Z + 1 + 1 + 1]? = some (.cells #[.int .i64 0, .int .i64 0, .int .i64 n, .bool false, .string ⟨#[]⟩, .slice none 0 0] 31 (0, 0))) := by
  show _ = _
  rw [← hW8, drew_heap]; exact blockY ((otherZ (by omega)).trans HB3.out) _ _ _ _ _ _
 have HE : Hid (Os W8 w.heap.size (.slice b1 S'.ino.length d1) (.slice b2 S'.opn.length d2) (.slice b3 S'.made.length d3) eu S' ∧ Kept [] w W8) := by
  have hz := HBx.out.2.2.2.2.2
  have hz1 := HBx.out.2.2.2.2.1
  have hz2 := HK2.out.size
  rw [← hW8]
  refine ⟨Os.less (((HC6.out.os.laidZ (by omega) _ _ _).laidY (by omega) _ _ _ _ _ _).kept (Kept.refl _ _).drew) (by omega), (keptY (keptZ ((HK1.out.trans HK2.out (by simp)).trans HC6.out.k (by simp)) (by omega) _ _ _) (by omega) _ _ _ _ _ _).drew⟩
 clear hHeld g0 g1 g2 s0 s1 s2 r0 r1 r2 r3 r4 r5 q0 q1 q2 q3 q4 q5 m0 HS6
 rw [hW8]
 clear hW8
 go_wp2_with fail
 (try simp only [Exit.inBlock, Exit.then])
 refine bodyPost_ret (results_cctY rfl _ _ (Z + 1 + 1) (Z + 1 + 1 + 1) 27 31 #[(.slice b1 S'.ino.length d1), (.slice b2 S'.opn.length d2), (.slice b3 S'.made.length d3)] #[.int .i64 0, .int .i64 0, .int .i64 n, .bool false, .string ⟨#[]⟩, .slice none 0 0] (0, 0) _ _ (.bool true) rfl rfl rfl HBS.out HBR.out Tryz.underlying27 rfl (by kernel_rfl) Tryz.underlying31 rfl (by kernel_rfl)) rfl ?_
 exact ⟨_, _, _, eu, rfl, HE.out.1, HE.out.2⟩
theorem r_do8 {w : World} {p : Pl} {S S' : Sta} (h : Sv w p S) (hb : Bd S) (ht : tot S ≤ 17592186044000) (hm : MayP S) (c : Cal) (hck : c.kind = 8) {i : Nat} (hci : c.core = (i : Int)) (hil : i < S.made.length) (n : Int)
  (hin : Inn 64 [.agg #[.int .i64 8, .int .i64 (i : Int), .int .i64 c.fd, .int .i64 c.off, .int .i64 c.num, .string c.path, .string c.path2, .string c.data]] (.agg #[.int .i64 0, .int .i64 0, .int .i64 n, .bool false, .string ⟨#[]⟩, .slice none 0 0]) S S') :
  Calls Tryz.prog 37 #[.agg #[.slice p.a1 S.ino.length p.c1, .slice p.a2 S.opn.length p.c2, .slice p.a3 S.made.length p.c3], .agg #[.int .i64 c.kind, .int .i64 c.core, .int .i64 c.fd, .int .i64 c.off, .int .i64 c.num, .string c.path, .string c.path2, .string c.data], .int .i64 (-1)] w fun e w' => ∃ v1 v2 v3 ev, e = .returned (.tuple #[.agg #[v1, v2, v3], .agg #[.int .i64 0, .int .i64 0, .int .i64 n, .bool false, .string ⟨#[]⟩, .slice none 0 0], .bool true]) ∧ Os w' w.heap.size v1 v2 v3 ev S' ∧ Kept [] w w' := by
 rw [hck, hci]
 obtain ⟨Wa, Z, HWa, HKa, HZa⟩ := twoY w #[.slice p.a1 S.ino.length p.c1, .slice p.a2 S.opn.length p.c2, .slice p.a3 S.made.length p.c3] #[.int .i64 8, .int .i64 (i : Int), .int .i64 c.fd, .int .i64 c.off, .int .i64 c.num, .string c.path, .string c.path2, .string c.data] 27 35
 obtain ⟨W1, Z2, HWb, HKb, HZb⟩ := twoY Wa #[.slice none 0 0, .slice none 0 0, .slice none 0 0] #[.int .i64 0, .int .i64 0, .int .i64 0, .bool false, .string ⟨#[]⟩, .slice none 0 0] 27 31
 have hZ2 : Z2 = Z + 1 + 1 := by rw [← HWb.out.2]; exact HZa.out.2.2
 subst hZ2
 have HK1 : Hid (Kept [] w W1) := HKa.out.trans HKb.out (by simp)
 have HSv : Hid (Sv W1 p S) := h.kept HK1.out
 have HBd : Hid (Bd S) := hb
 have HMay : Hid (∀ W, Kept [] W1 W → Calls Tryz.prog 58 #[.agg #[.slice p.a1 S.ino.length p.c1, .slice p.a2 S.opn.length p.c2, .slice p.a3 S.made.length p.c3]] W fun e w' => e = .returned (.bool true) ∧ Kept [] W w') := fun W kW => r_may (HSv.out.kept kW) ht hm
 have HCp : Hid (∀ W, Kept [] W1 W → Calls Tryz.prog 59 #[.agg #[.slice p.a1 S.ino.length p.c1, .slice p.a2 S.opn.length p.c2, .slice p.a3 S.made.length p.c3]] W fun e w' => ∃ v1 v2 v3 ev, e = .returned (.agg #[v1, v2, v3]) ∧ Os w' W.heap.size v1 v2 v3 ev S ∧ Kept [] W w') := fun W kW => r_copy (HSv.out.kept kW) hb
 have HIn : Hid (_) := hin
 have HBx : Hid (W1.heap[Z]? = some (.cells #[.slice p.a1 S.ino.length p.c1, .slice p.a2 S.opn.length p.c2, .slice p.a3 S.made.length p.c3] 27 (0, 0)) ∧ W1.heap[Z + 1]? = some (.cells #[.int .i64 8, .int .i64 (i : Int), .int .i64 c.fd, .int .i64 c.off, .int .i64 c.num, .string c.path, .string c.path2, .string c.data] 35 (0, 0)) ∧ W1.heap[Z + 1 + 1]? = some (.cells #[.slice none 0 0, .slice none 0 0, .slice none 0 0] 27 (0, 0)) ∧ W1.heap[Z + 1 + 1 + 1]? = some (.cells #[.int .i64 0, .int .i64 0, .int .i64 0, .bool false, .string ⟨#[]⟩, .slice none 0 0] 31 (0, 0)) ∧ W1.heap.size = Z + 1 + 1 + 1 + 1 ∧ w.heap.size = Z) :=
  ⟨(HKb.out.block _ (lt_of_heap HZa.out.1) (by simp)).trans HZa.out.1, (HKb.out.block _ (lt_of_heap HZa.out.2.1) (by simp)).trans HZa.out.2.1, HZb.out.1, HZb.out.2.1, HZb.out.2.2, HWa.out.2⟩
 have i0 : decide ((i : Int) < 0) = false := decide_eq_false (by omega)
 have i1 : decide ((S.made.length : Int) ≤ (i : Int)) = false := decide_eq_false (by omega)
 have i2 : ¬ (i : Int) < 0 := by omega
 have i3 : ¬ (S.made.length : Int) ≤ (i : Int) := by omega
 obtain ⟨x0, x1, x2⟩ := cz3 HBx.out.1
 clear h hb ht hm hin hck hci hil HZa HZb HKa HKb
 go_enter Tryz.func37, Tryz.ntmps37
 go_upto_region 1 with fail
 rw [HWa.out.1, HWb.out.1, HWa.out.2]
 clear HWa HWb
 go_wp2_with fail
 refine (HMay.out _ (Kept.refl _ _)).mono ?_
 rintro e w2 ⟨rfl, k2⟩
 have HK2 : Hid (Kept [] W1 w2) := k2
 clear x0 x1 x2 k2
 have x0 := HK2.out.cell (cellB HBx.out.1 (i := 0)) (by simp)
 have x1 := HK2.out.cell (cellB HBx.out.1 (i := 1)) (by simp)
 have x2 := HK2.out.cell (cellB HBx.out.1 (i := 2)) (by simp)
 have y0 := HK2.out.cell (cellB HBx.out.2.1 (i := 0)) (by simp)
 have y1 := HK2.out.cell (cellB HBx.out.2.1 (i := 1)) (by simp)
 go_wp2_with fail
 refine (HCp.out _ HK2.out).mono ?_
 rintro e w3 ⟨v1, v2, v3, ev, rfl, o3, k3⟩
 obtain ⟨a1, c1, hv1, -⟩ := row_form o3.ino
 obtain ⟨a2, c2, hv2, -⟩ := row_form o3.opn
 obtain ⟨a3, c3, hv3, -⟩ := row_form o3.mad
 subst hv1 hv2 hv3
 obtain ⟨W4, X, HX, HKX, HXb⟩ := twoY w3 #[.slice a1 S.ino.length c1, .slice a2 S.opn.length c2, .slice a3 S.made.length c3] #[.int .i64 0, .int .i64 0, .int .i64 0, .bool false, .string ⟨#[]⟩, .slice none 0 0] 27 31
 have HO4 : Hid (Os W4 w2.heap.size (.slice a1 S.ino.length c1) (.slice a2 S.opn.length c2) (.slice a3 S.made.length c3) ev S) := o3.kept HKX.out
 have HK4 : Hid (Kept [] w2 W4) := k3.trans HKX.out (by simp)
 have HC4 : Hid (Hc w2 W4 X (.slice a1 S.ino.length c1) (.slice a2 S.opn.length c2) (.slice a3 S.made.length c3) ev S) :=
  ⟨HXb.out.1, HO4.out, off_type HO4.out HXb.out.1 (by decide), by have := k3.size; rw [← HX.out.2]; exact this, HK4.out⟩
 have HOf : Hid (Off [X + 1] (.slice a1 S.ino.length c1) (.slice a2 S.opn.length c2) (.slice a3 S.made.length c3) ev) := off_type HO4.out HXb.out.2.1 (by decide)
 clear x0 x1 x2 y0 y1 o3 k3
 have hkc := HK2.out.trans HK4.out (by simp)
 obtain ⟨y0, y1, y2, y3, y4, y5, y6, y7⟩ := ys8 (kb hkc HBx.out.2.1)
 clear hkc
 go_upto_region 5 with fail
 rw [HX.out.1, HX.out.2]
 go_wp2_with fail
 refine (HIn.out _ _ _ _ _ _ _ HC4.out).mono ?_
 rintro e w5 ⟨rfl, u1, u2, u3, eu, F, h5, kF, hF⟩
 obtain ⟨b1, d1, hu1, -⟩ := row_form h5.os.ino
 obtain ⟨b2, d2, hu2, -⟩ := row_form h5.os.opn
 obtain ⟨b3, d3, hu3, -⟩ := row_form h5.os.mad
 subst hu1 hu2 hu3
 have hr5 : w5.heap[X + 1]? = some (.cells #[.int .i64 0, .int .i64 0, .int .i64 0, .bool false, .string ⟨#[]⟩, .slice none 0 0] 31 (0, 0)) := (kF.block _ (lt_of_heap HXb.out.2.1) (fun hm => by
  rcases hF _ hm with h | h
  · omega
  · exact h HOf.out)).trans HXb.out.2.1
 have h6 := h5.laidY (Z := X + 1) (Nat.le_trans h5.lo (Nat.le_add_right _ 1)) (by omega) (off_type h5.os hr5 (by decide)) (.int .i64 0) (.int .i64 0) (.int .i64 n) (.bool false) (.string ⟨#[]⟩) (.slice none 0 0)
 have hr6 := blockY hr5 (.int .i64 0) (.int .i64 0) (.int .i64 n) (.bool false) (.string ⟨#[]⟩) (.slice none 0 0)
 obtain ⟨t0, t1, t2, t3, t4, t5, f0, f1, f2, f3, f4, f5⟩ := rs6 hr5
 obtain ⟨W6, hW6⟩ : ∃ W6, laidY w5 (X + 1) (.int .i64 0) (.int .i64 0) (.int .i64 n) (.bool false) (.string ⟨#[]⟩) (.slice none 0 0) = W6 := ⟨_, rfl⟩
 rw [hW6] at h6 hr6
 have HW6 : Hid (_) := hW6
 have HC6 : Hid (_) := h6
 have HR6 : Hid (_) := hr6
 have hk16 : Kept [] W1 W6 := HK2.out.trans h6.k (by simp)
 have hb2 : W6.heap[Z + 1 + 1]? = some (.cells #[.slice none 0 0, .slice none 0 0, .slice none 0 0] 27 (0, 0)) := (hk16.block _ (lt_of_heap HBx.out.2.2.1) (by simp)).trans HBx.out.2.2.1
 have hb3 : W6.heap[Z + 1 + 1 + 1]? = some (.cells #[.int .i64 0, .int .i64 0, .int .i64 0, .bool false, .string ⟨#[]⟩, .slice none 0 0] 31 (0, 0)) := (hk16.block _ (lt_of_heap HBx.out.2.2.2.1) (by simp)).trans HBx.out.2.2.2.1
 have HB2 : Hid (_) := hb2
 have HB3 : Hid (_) := hb3
 have hZX : Z + 1 + 1 + 1 < X := by have h1 := HBx.out.2.2.2.2.1; have h2 := HK2.out.size; have h3 := h6.lo; omega
 have HZX : Hid (_) := hZX
 have HS6 : Hid (W6.cell? ⟨X, 0, none⟩ = some (.slice b1 S'.ino.length d1) ∧ W6.cell? ⟨X, 1, none⟩ = some (.slice b2 S'.opn.length d2) ∧ W6.cell? ⟨X, 2, none⟩ = some (.slice b3 S'.made.length d3) ∧ W6.cell? ⟨X + 1, 0, none⟩ = some (.int .i64 0) ∧ W6.cell? ⟨X + 1, 1, none⟩ = some (.int .i64 0) ∧ W6.cell? ⟨X + 1, 2, none⟩ = some (.int .i64 n) ∧ W6.cell? ⟨X + 1, 3, none⟩ = some (.bool false) ∧ W6.cell? ⟨X + 1, 4, none⟩ = some (.string ⟨#[]⟩) ∧ W6.cell? ⟨X + 1, 5, none⟩ = some (.slice none 0 0)) := ⟨cellB h6.box, cellB h6.box, cellB h6.box, cellB hr6, cellB hr6, cellB hr6, cellB hr6, cellB hr6, cellB hr6⟩
 have m0 : W6.cell? ⟨X + 1, 0, none⟩ = some (.int .i64 0) := HS6.out.2.2.2.1
 obtain ⟨g0, g1, g2, s0, s1, s2⟩ := zs3 hb2
 obtain ⟨r0, r1, r2, r3, r4, r5, q0, q1, q2, q3, q4, q5⟩ := rs6 hb3
 clear hW6 h6 hr6 h5 hr5 kF hF hb2 hb3 hk16 hZX y0 y1 y2 y3 y4 y5 y6 y7
 go_upto_region 29 with fail
 unfold Go.Proofs.YtffncojcnbhblaaGreatDoor.laidY at HW6
 rw [HW6.out]
 clear t0 t1 t2 t3 t4 t5 f0 f1 f2 f3 f4 f5 HW6
 go_upto_region 31 with fail
 refine wp_region_held_drew (S := fun w' => w'.cell? ⟨X, 0, none⟩ = some (.slice b1 S'.ino.length d1) ∧ w'.cell? ⟨X, 1, none⟩ = some (.slice b2 S'.opn.length d2) ∧ w'.cell? ⟨X, 2, none⟩ = some (.slice b3 S'.made.length d3) ∧ w'.cell? ⟨X + 1, 0, none⟩ = some (.int .i64 0) ∧ w'.cell? ⟨X + 1, 1, none⟩ = some (.int .i64 0) ∧ w'.cell? ⟨X + 1, 2, none⟩ = some (.int .i64 n) ∧ w'.cell? ⟨X + 1, 3, none⟩ = some (.bool false) ∧ w'.cell? ⟨X + 1, 4, none⟩ = some (.string ⟨#[]⟩) ∧ w'.cell? ⟨X + 1, 5, none⟩ = some (.slice none 0 0)) (by kernel_rfl) ?_ (fun hHeld => ?_)
 · exact HS6.out
 refine tkA 0 rfl ?_
 refine tkA 1 rfl ?_
 refine wpAnyH_ready (rs := [2]) (by kernel_rfl) (by simp) ?_
 refine AllReadyH.cons rfl (fun K hK => ?_) AllReadyH.nil
 go_simp
 refine hK.out _ _ ?_ (fun hHeld => ?_)
 · exact kpZ HZX.out HS6.out
 clear hK K
 try simp only [Act.put, lz0, lz1, lz2, lz3, lz4, lz5]
 refine wpAnyH_ready (rs := [3]) (by kernel_rfl) (by simp) ?_
 refine AllReadyH.cons rfl (fun K hK => ?_) AllReadyH.nil
 go_simp
 refine hK.out _ _ ?_ (fun hHeld => ?_)
 · exact kpY HZX.out hHeld
 clear hK K
 try simp only [Act.put, lz0, lz1, lz2, lz3, lz4, lz5]
 refine tkA 4 rfl ?_
 refine wpAnyH_done (by kernel_rfl) ?_ _
 obtain ⟨W8, hW8⟩ : ∃ W8, (laidY (laidZ W6 (Z + 1 + 1) (.slice b1 S'.ino.length d1) (.slice b2 S'.opn.length d2) (.slice b3 S'.made.length d3)) (Z + 1 + 1 + 1) (.int .i64 0) (.int .i64 0) (.int .i64 n) (.bool false) (.string ⟨#[]⟩) (.slice none 0 0)).drew = W8 := ⟨_, rfl⟩
 have HBS : Hid (W8.heap[Z + 1 + 1]? = some (.cells #[(.slice b1 S'.ino.length d1), (.slice b2 S'.opn.length d2), (.slice b3 S'.made.length d3)] 27 (0, 0))) := by
  show _ = _
  rw [← hW8, drew_heap, otherY (by omega)]; exact blockZ HB2.out _ _ _
 have HBR : Hid (W8.heap[Z + 1 + 1 + 1]? = some (.cells #[.int .i64 0, .int .i64 0, .int .i64 n, .bool false, .string ⟨#[]⟩, .slice none 0 0] 31 (0, 0))) := by
  show _ = _
  rw [← hW8, drew_heap]; exact blockY ((otherZ (by omega)).trans HB3.out) _ _ _ _ _ _
 have HE : Hid (Os W8 w.heap.size (.slice b1 S'.ino.length d1) (.slice b2 S'.opn.length d2) (.slice b3 S'.made.length d3) eu S' ∧ Kept [] w W8) := by
  have hz := HBx.out.2.2.2.2.2
  have hz1 := HBx.out.2.2.2.2.1
  have hz2 := HK2.out.size
  rw [← hW8]
  refine ⟨Os.less (((HC6.out.os.laidZ (by omega) _ _ _).laidY (by omega) _ _ _ _ _ _).kept (Kept.refl _ _).drew) (by omega), (keptY (keptZ ((HK1.out.trans HK2.out (by simp)).trans HC6.out.k (by simp)) (by omega) _ _ _) (by omega) _ _ _ _ _ _).drew⟩
 clear hHeld g0 g1 g2 s0 s1 s2 r0 r1 r2 r3 r4 r5 q0 q1 q2 q3 q4 q5 m0 HS6
 rw [hW8]
 clear hW8
 go_wp2_with fail
 (try simp only [Exit.inBlock, Exit.then])
 refine bodyPost_ret (results_cctY rfl _ _ (Z + 1 + 1) (Z + 1 + 1 + 1) 27 31 #[(.slice b1 S'.ino.length d1), (.slice b2 S'.opn.length d2), (.slice b3 S'.made.length d3)] #[.int .i64 0, .int .i64 0, .int .i64 n, .bool false, .string ⟨#[]⟩, .slice none 0 0] (0, 0) _ _ (.bool true) rfl rfl rfl HBS.out HBR.out Tryz.underlying27 rfl (by kernel_rfl) Tryz.underlying31 rfl (by kernel_rfl)) rfl ?_
 exact ⟨_, _, _, eu, rfl, HE.out.1, HE.out.2⟩
theorem r_do2 {w : World} {p : Pl} {S S' : Sta} (h : Sv w p S) (hb : Bd S) (ht : tot S ≤ 17592186044000) (hm : MayP S) (c : Cal) (hck : c.kind = 2) {i : Nat} (hci : c.core = (i : Int)) (hil : i < S.made.length) (n : Int)
  (hin : Inn 62 [.agg #[.int .i64 2, .int .i64 (i : Int), .int .i64 c.fd, .int .i64 c.off, .int .i64 c.num, .string c.path, .string c.path2, .string c.data], .int .i64 (-1)] (.tuple #[.agg #[.int .i64 0, .int .i64 0, .int .i64 n, .bool false, .string ⟨#[]⟩, .slice none 0 0], .bool true]) S S') :
  Calls Tryz.prog 37 #[.agg #[.slice p.a1 S.ino.length p.c1, .slice p.a2 S.opn.length p.c2, .slice p.a3 S.made.length p.c3], .agg #[.int .i64 c.kind, .int .i64 c.core, .int .i64 c.fd, .int .i64 c.off, .int .i64 c.num, .string c.path, .string c.path2, .string c.data], .int .i64 (-1)] w fun e w' => ∃ v1 v2 v3 ev, e = .returned (.tuple #[.agg #[v1, v2, v3], .agg #[.int .i64 0, .int .i64 0, .int .i64 n, .bool false, .string ⟨#[]⟩, .slice none 0 0], .bool true]) ∧ Os w' w.heap.size v1 v2 v3 ev S' ∧ Kept [] w w' := by
 rw [hck, hci]
 obtain ⟨Wa, Z, HWa, HKa, HZa⟩ := twoY w #[.slice p.a1 S.ino.length p.c1, .slice p.a2 S.opn.length p.c2, .slice p.a3 S.made.length p.c3] #[.int .i64 2, .int .i64 (i : Int), .int .i64 c.fd, .int .i64 c.off, .int .i64 c.num, .string c.path, .string c.path2, .string c.data] 27 35
 obtain ⟨W1, Z2, HWb, HKb, HZb⟩ := twoY Wa #[.slice none 0 0, .slice none 0 0, .slice none 0 0] #[.int .i64 0, .int .i64 0, .int .i64 0, .bool false, .string ⟨#[]⟩, .slice none 0 0] 27 31
 have hZ2 : Z2 = Z + 1 + 1 := by rw [← HWb.out.2]; exact HZa.out.2.2
 subst hZ2
 have HK1 : Hid (Kept [] w W1) := HKa.out.trans HKb.out (by simp)
 have HSv : Hid (Sv W1 p S) := h.kept HK1.out
 have HBd : Hid (Bd S) := hb
 have HMay : Hid (∀ W, Kept [] W1 W → Calls Tryz.prog 58 #[.agg #[.slice p.a1 S.ino.length p.c1, .slice p.a2 S.opn.length p.c2, .slice p.a3 S.made.length p.c3]] W fun e w' => e = .returned (.bool true) ∧ Kept [] W w') := fun W kW => r_may (HSv.out.kept kW) ht hm
 have HCp : Hid (∀ W, Kept [] W1 W → Calls Tryz.prog 59 #[.agg #[.slice p.a1 S.ino.length p.c1, .slice p.a2 S.opn.length p.c2, .slice p.a3 S.made.length p.c3]] W fun e w' => ∃ v1 v2 v3 ev, e = .returned (.agg #[v1, v2, v3]) ∧ Os w' W.heap.size v1 v2 v3 ev S ∧ Kept [] W w') := fun W kW => r_copy (HSv.out.kept kW) hb
 have HIn : Hid (_) := hin
 have HBx : Hid (W1.heap[Z]? = some (.cells #[.slice p.a1 S.ino.length p.c1, .slice p.a2 S.opn.length p.c2, .slice p.a3 S.made.length p.c3] 27 (0, 0)) ∧ W1.heap[Z + 1]? = some (.cells #[.int .i64 2, .int .i64 (i : Int), .int .i64 c.fd, .int .i64 c.off, .int .i64 c.num, .string c.path, .string c.path2, .string c.data] 35 (0, 0)) ∧ W1.heap[Z + 1 + 1]? = some (.cells #[.slice none 0 0, .slice none 0 0, .slice none 0 0] 27 (0, 0)) ∧ W1.heap[Z + 1 + 1 + 1]? = some (.cells #[.int .i64 0, .int .i64 0, .int .i64 0, .bool false, .string ⟨#[]⟩, .slice none 0 0] 31 (0, 0)) ∧ W1.heap.size = Z + 1 + 1 + 1 + 1 ∧ w.heap.size = Z) :=
  ⟨(HKb.out.block _ (lt_of_heap HZa.out.1) (by simp)).trans HZa.out.1, (HKb.out.block _ (lt_of_heap HZa.out.2.1) (by simp)).trans HZa.out.2.1, HZb.out.1, HZb.out.2.1, HZb.out.2.2, HWa.out.2⟩
 have i0 : decide ((i : Int) < 0) = false := decide_eq_false (by omega)
 have i1 : decide ((S.made.length : Int) ≤ (i : Int)) = false := decide_eq_false (by omega)
 have i2 : ¬ (i : Int) < 0 := by omega
 have i3 : ¬ (S.made.length : Int) ≤ (i : Int) := by omega
 obtain ⟨x0, x1, x2⟩ := cz3 HBx.out.1
 clear h hb ht hm hin hck hci hil HZa HZb HKa HKb
 go_enter Tryz.func37, Tryz.ntmps37
 go_upto_region 1 with fail
 rw [HWa.out.1, HWb.out.1, HWa.out.2]
 clear HWa HWb
 go_wp2_with fail
 refine (HMay.out _ (Kept.refl _ _)).mono ?_
 rintro e w2 ⟨rfl, k2⟩
 have HK2 : Hid (Kept [] W1 w2) := k2
 clear x0 x1 x2 k2
 have x0 := HK2.out.cell (cellB HBx.out.1 (i := 0)) (by simp)
 have x1 := HK2.out.cell (cellB HBx.out.1 (i := 1)) (by simp)
 have x2 := HK2.out.cell (cellB HBx.out.1 (i := 2)) (by simp)
 have y0 := HK2.out.cell (cellB HBx.out.2.1 (i := 0)) (by simp)
 have y1 := HK2.out.cell (cellB HBx.out.2.1 (i := 1)) (by simp)
 go_wp2_with fail
 refine (HCp.out _ HK2.out).mono ?_
 rintro e w3 ⟨v1, v2, v3, ev, rfl, o3, k3⟩
 obtain ⟨a1, c1, hv1, -⟩ := row_form o3.ino
 obtain ⟨a2, c2, hv2, -⟩ := row_form o3.opn
 obtain ⟨a3, c3, hv3, -⟩ := row_form o3.mad
 subst hv1 hv2 hv3
 obtain ⟨W4, X, HX, HKX, HXb⟩ := twoY w3 #[.slice a1 S.ino.length c1, .slice a2 S.opn.length c2, .slice a3 S.made.length c3] #[.int .i64 0, .int .i64 0, .int .i64 0, .bool false, .string ⟨#[]⟩, .slice none 0 0] 27 31
 have HO4 : Hid (Os W4 w2.heap.size (.slice a1 S.ino.length c1) (.slice a2 S.opn.length c2) (.slice a3 S.made.length c3) ev S) := o3.kept HKX.out
 have HK4 : Hid (Kept [] w2 W4) := k3.trans HKX.out (by simp)
 have HC4 : Hid (Hc w2 W4 X (.slice a1 S.ino.length c1) (.slice a2 S.opn.length c2) (.slice a3 S.made.length c3) ev S) :=
  ⟨HXb.out.1, HO4.out, off_type HO4.out HXb.out.1 (by decide), by have := k3.size; rw [← HX.out.2]; exact this, HK4.out⟩
 have HOf : Hid (Off [X + 1] (.slice a1 S.ino.length c1) (.slice a2 S.opn.length c2) (.slice a3 S.made.length c3) ev) := off_type HO4.out HXb.out.2.1 (by decide)
 clear x0 x1 x2 y0 y1 o3 k3
 have hkc := HK2.out.trans HK4.out (by simp)
 obtain ⟨y0, y1, y2, y3, y4, y5, y6, y7⟩ := ys8 (kb hkc HBx.out.2.1)
 clear hkc
 go_upto_region 5 with fail
 rw [HX.out.1, HX.out.2]
 go_wp2_with fail
 refine (HIn.out _ _ _ _ _ _ _ HC4.out).mono ?_
 rintro e w5 ⟨rfl, u1, u2, u3, eu, F, h5, kF, hF⟩
 obtain ⟨b1, d1, hu1, -⟩ := row_form h5.os.ino
 obtain ⟨b2, d2, hu2, -⟩ := row_form h5.os.opn
 obtain ⟨b3, d3, hu3, -⟩ := row_form h5.os.mad
 subst hu1 hu2 hu3
 have hr5 : w5.heap[X + 1]? = some (.cells #[.int .i64 0, .int .i64 0, .int .i64 0, .bool false, .string ⟨#[]⟩, .slice none 0 0] 31 (0, 0)) := (kF.block _ (lt_of_heap HXb.out.2.1) (fun hm => by
  rcases hF _ hm with h | h
  · omega
  · exact h HOf.out)).trans HXb.out.2.1
 obtain ⟨W5, Yb, HWY, HKY, HYb⟩ := boxY w5 #[.int .i64 0, .int .i64 0, .int .i64 n, .bool false, .string ⟨#[]⟩, .slice none 0 0] 31
 replace h5 := h5.kept HKY.out
 replace hr5 := (HKY.out.block _ (lt_of_heap hr5) (by simp)).trans hr5
 obtain ⟨n0, n1, n2, n3, n4, n5, -⟩ := rs6 HYb.out
 have h6 := h5.laidY (Z := X + 1) (Nat.le_trans h5.lo (Nat.le_add_right _ 1)) (by omega) (off_type h5.os hr5 (by decide)) (.int .i64 0) (.int .i64 0) (.int .i64 n) (.bool false) (.string ⟨#[]⟩) (.slice none 0 0)
 have hr6 := blockY hr5 (.int .i64 0) (.int .i64 0) (.int .i64 n) (.bool false) (.string ⟨#[]⟩) (.slice none 0 0)
 obtain ⟨t0, t1, t2, t3, t4, t5, f0, f1, f2, f3, f4, f5⟩ := rs6 hr5
 obtain ⟨W6, hW6⟩ : ∃ W6, laidY W5 (X + 1) (.int .i64 0) (.int .i64 0) (.int .i64 n) (.bool false) (.string ⟨#[]⟩) (.slice none 0 0) = W6 := ⟨_, rfl⟩
 rw [hW6] at h6 hr6
 have HW6 : Hid (_) := hW6
 have HC6 : Hid (_) := h6
 have HR6 : Hid (_) := hr6
 have hk16 : Kept [] W1 W6 := HK2.out.trans h6.k (by simp)
 have hb2 : W6.heap[Z + 1 + 1]? = some (.cells #[.slice none 0 0, .slice none 0 0, .slice none 0 0] 27 (0, 0)) := (hk16.block _ (lt_of_heap HBx.out.2.2.1) (by simp)).trans HBx.out.2.2.1
 have hb3 : W6.heap[Z + 1 + 1 + 1]? = some (.cells #[.int .i64 0, .int .i64 0, .int .i64 0, .bool false, .string ⟨#[]⟩, .slice none 0 0] 31 (0, 0)) := (hk16.block _ (lt_of_heap HBx.out.2.2.2.1) (by simp)).trans HBx.out.2.2.2.1
 have HB2 : Hid (_) := hb2
 have HB3 : Hid (_) := hb3
 have hZX : Z + 1 + 1 + 1 < X := by have h1 := HBx.out.2.2.2.2.1; have h2 := HK2.out.size; have h3 := h6.lo; omega
 have HZX : Hid (_) := hZX
 have HS6 : Hid (W6.cell? ⟨X, 0, none⟩ = some (.slice b1 S'.ino.length d1) ∧ W6.cell? ⟨X, 1, none⟩ = some (.slice b2 S'.opn.length d2) ∧ W6.cell? ⟨X, 2, none⟩ = some (.slice b3 S'.made.length d3) ∧ W6.cell? ⟨X + 1, 0, none⟩ = some (.int .i64 0) ∧ W6.cell? ⟨X + 1, 1, none⟩ = some (.int .i64 0) ∧ W6.cell? ⟨X + 1, 2, none⟩ = some (.int .i64 n) ∧ W6.cell? ⟨X + 1, 3, none⟩ = some (.bool false) ∧ W6.cell? ⟨X + 1, 4, none⟩ = some (.string ⟨#[]⟩) ∧ W6.cell? ⟨X + 1, 5, none⟩ = some (.slice none 0 0)) := ⟨cellB h6.box, cellB h6.box, cellB h6.box, cellB hr6, cellB hr6, cellB hr6, cellB hr6, cellB hr6, cellB hr6⟩
 have m0 : W6.cell? ⟨X + 1, 0, none⟩ = some (.int .i64 0) := HS6.out.2.2.2.1
 obtain ⟨g0, g1, g2, s0, s1, s2⟩ := zs3 hb2
 obtain ⟨r0, r1, r2, r3, r4, r5, q0, q1, q2, q3, q4, q5⟩ := rs6 hb3
 clear hW6 h6 hr6 h5 hr5 kF hF hb2 hb3 hk16 hZX y0 y1 y2 y3 y4 y5 y6 y7
 go_upto_region 11 with fail
 rw [HWY.out.1, HWY.out.2]
 go_upto_region 29 with fail
 unfold Go.Proofs.YtffncojcnbhblaaGreatDoor.laidY at HW6
 rw [HW6.out]
 clear t0 t1 t2 t3 t4 t5 f0 f1 f2 f3 f4 f5 HW6
 go_upto_region 31 with fail
 refine wp_region_held_drew (S := fun w' => w'.cell? ⟨X, 0, none⟩ = some (.slice b1 S'.ino.length d1) ∧ w'.cell? ⟨X, 1, none⟩ = some (.slice b2 S'.opn.length d2) ∧ w'.cell? ⟨X, 2, none⟩ = some (.slice b3 S'.made.length d3) ∧ w'.cell? ⟨X + 1, 0, none⟩ = some (.int .i64 0) ∧ w'.cell? ⟨X + 1, 1, none⟩ = some (.int .i64 0) ∧ w'.cell? ⟨X + 1, 2, none⟩ = some (.int .i64 n) ∧ w'.cell? ⟨X + 1, 3, none⟩ = some (.bool false) ∧ w'.cell? ⟨X + 1, 4, none⟩ = some (.string ⟨#[]⟩) ∧ w'.cell? ⟨X + 1, 5, none⟩ = some (.slice none 0 0)) (by kernel_rfl) ?_ (fun hHeld => ?_)
 · exact HS6.out
 refine tkA 0 rfl ?_
 refine tkA 1 rfl ?_
 refine wpAnyH_ready (rs := [2]) (by kernel_rfl) (by simp) ?_
 refine AllReadyH.cons rfl (fun K hK => ?_) AllReadyH.nil
 go_simp
 refine hK.out _ _ ?_ (fun hHeld => ?_)
 · exact kpZ HZX.out HS6.out
 clear hK K
 try simp only [Act.put, lz0, lz1, lz2, lz3, lz4, lz5]
 refine wpAnyH_ready (rs := [3]) (by kernel_rfl) (by simp) ?_
 refine AllReadyH.cons rfl (fun K hK => ?_) AllReadyH.nil
 go_simp
 refine hK.out _ _ ?_ (fun hHeld => ?_)
 · exact kpY HZX.out hHeld
 clear hK K
 try simp only [Act.put, lz0, lz1, lz2, lz3, lz4, lz5]
 refine tkA 4 rfl ?_
 refine wpAnyH_done (by kernel_rfl) ?_ _
 obtain ⟨W8, hW8⟩ : ∃ W8, (laidY (laidZ W6 (Z + 1 + 1) (.slice b1 S'.ino.length d1) (.slice b2 S'.opn.length d2) (.slice b3 S'.made.length d3)) (Z + 1 + 1 + 1) (.int .i64 0) (.int .i64 0) (.int .i64 n) (.bool false) (.string ⟨#[]⟩) (.slice none 0 0)).drew = W8 := ⟨_, rfl⟩
 have HBS : Hid (W8.heap[Z + 1 + 1]? = some (.cells #[(.slice b1 S'.ino.length d1), (.slice b2 S'.opn.length d2), (.slice b3 S'.made.length d3)] 27 (0, 0))) := by
  show _ = _
  rw [← hW8, drew_heap, otherY (by omega)]; exact blockZ HB2.out _ _ _
 have HBR : Hid (W8.heap[Z + 1 + 1 + 1]? = some (.cells #[.int .i64 0, .int .i64 0, .int .i64 n, .bool false, .string ⟨#[]⟩, .slice none 0 0] 31 (0, 0))) := by
  show _ = _
  rw [← hW8, drew_heap]; exact blockY ((otherZ (by omega)).trans HB3.out) _ _ _ _ _ _
 have HE : Hid (Os W8 w.heap.size (.slice b1 S'.ino.length d1) (.slice b2 S'.opn.length d2) (.slice b3 S'.made.length d3) eu S' ∧ Kept [] w W8) := by
  have hz := HBx.out.2.2.2.2.2
  have hz1 := HBx.out.2.2.2.2.1
  have hz2 := HK2.out.size
  rw [← hW8]
  refine ⟨Os.less (((HC6.out.os.laidZ (by omega) _ _ _).laidY (by omega) _ _ _ _ _ _).kept (Kept.refl _ _).drew) (by omega), (keptY (keptZ ((HK1.out.trans HK2.out (by simp)).trans HC6.out.k (by simp)) (by omega) _ _ _) (by omega) _ _ _ _ _ _).drew⟩
 clear hHeld g0 g1 g2 s0 s1 s2 r0 r1 r2 r3 r4 r5 q0 q1 q2 q3 q4 q5 m0 HS6
 rw [hW8]
 clear hW8
 go_wp2_with fail
 (try simp only [Exit.inBlock, Exit.then])
 refine bodyPost_ret (results_cctY rfl _ _ (Z + 1 + 1) (Z + 1 + 1 + 1) 27 31 #[(.slice b1 S'.ino.length d1), (.slice b2 S'.opn.length d2), (.slice b3 S'.made.length d3)] #[.int .i64 0, .int .i64 0, .int .i64 n, .bool false, .string ⟨#[]⟩, .slice none 0 0] (0, 0) _ _ (.bool true) rfl rfl rfl HBS.out HBR.out Tryz.underlying27 rfl (by kernel_rfl) Tryz.underlying31 rfl (by kernel_rfl)) rfl ?_
 exact ⟨_, _, _, eu, rfl, HE.out.1, HE.out.2⟩
end Go.Proofs.YtffncojcnbhblaaGreatDoor
