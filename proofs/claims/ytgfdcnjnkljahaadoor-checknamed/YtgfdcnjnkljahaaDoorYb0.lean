/-
  A look at a state as it is made: its maps, its row of what is found.
-/
import Derived.Test.YtgfdcnjnkljahaaDoorYa
namespace Go.Proofs.YtgfdcnjnkljahaaDoor
open Go.RowKit Go.Lib Go.Maps
set_option linter.unusedVariables false

/-- A state of few parts, of numbers of the language. -/
structure Few (S : Sta) : Prop where
  n1 : S.ino.length ≤ 100
  n2 : S.opn.length ≤ 100
  n3 : S.made.length ≤ 100
  e1 : ∀ x ∈ S.ino, x.ents.length ≤ 100
  w1 : ∀ x ∈ S.ino, Wf x.num
  w2 : ∀ x ∈ S.ino, ∀ e ∈ x.ents, Wf e.2
  w3 : ∀ d ∈ S.opn, Wf d.2.2
  s2 : ∀ x ∈ S.ino, ∀ e ∈ x.ents, e.1.size ≤ 1000
  s1 : ∀ x ∈ S.ino, x.data.size ≤ 100000

/-- A look's cells. -/
@[reducible] def lq (p : Pl) (S : Sta) (b1 b2 b3 bf : Nat) : Lq := ⟨.slice p.a1 S.ino.length p.c1, .slice p.a2 S.opn.length p.c2, .slice p.a3 S.made.length p.c3, .map (some b1), .map (some b2), .map (some b3), .slice (some ⟨bf, 0, none⟩) S.ino.length S.ino.length⟩

/-- Bools as cells. -/
def bcs (l : List Bool) : Array Value := (l.map Value.bool).toArray

/-- Where a look's parts lie. -/
structure Wh where
  X : Nat
  b1 : Nat
  b2 : Nat
  b3 : Nat
  bf : Nat

/-- No two are one. -/
structure Wh.Ok (h : Wh) (H : Nat) : Prop where
  x0 : H ≤ h.X
  x1 : H ≤ h.b1
  x2 : H ≤ h.b2
  x3 : H ≤ h.b3
  x4 : H ≤ h.bf
  d1 : h.X ≠ h.b1
  d2 : h.X ≠ h.b2
  d3 : h.X ≠ h.b3
  d4 : h.X ≠ h.bf
  d5 : h.b1 ≠ h.b2
  d6 : h.b1 ≠ h.b3
  d7 : h.b1 ≠ h.bf
  d8 : h.b2 ≠ h.b3
  d9 : h.b2 ≠ h.bf
  d0 : h.b3 ≠ h.bf

/-- A look that is made. -/
structure Lk (w0 w : World) (h : Wh) (p : Pl) (S : Sta) (n : Nat) (g1 g2 g3 : Int → Option Int) (fd : List Bool) : Prop where
  kept : Kept [] w0 w
  ok : h.Ok w0.heap.size
  blk : w.heap[h.X]? = some (.cells ((lq p S h.b1 h.b2 h.b3 h.bf).cs (.slice none 0 0)) 57 (0, 0))
  m1 : Mi w h.b1 n g1
  m2 : Mi w h.b2 n g2
  m3 : Mi w h.b3 n g3
  fnd : w.heap[h.bf]? = some (.cells (bcs fd) 4 (0, 0))

theorem Lk.same {w0 w w' : World} {h : Wh} {p : Pl} {S : Sta} {n : Nat} {g1 g2 g3 : Int → Option Int} {fd : List Bool} (a : Lk w0 w h p S n g1 g2 g3 fd) (k : Kept [] w w') : Lk w0 w' h p S n g1 g2 g3 fd :=
  ⟨a.kept.trans k (by simp), a.ok, by rw [k.block _ (lt_of_heap a.blk) (by simp)]; exact a.blk, a.m1.kept k (by simp), a.m2.kept k (by simp), a.m3.kept k (by simp), by rw [k.block _ (lt_of_heap a.fnd) (by simp)]; exact a.fnd⟩

/-- Five blocks one behind the other. -/
theorem five (w : World) (o1 o2 o3 o4 o5 : Obj) : Kept [] w (((((w.alloc o1).alloc o2).alloc o3).alloc o4).alloc o5) ∧
    (((((w.alloc o1).alloc o2).alloc o3).alloc o4).alloc o5).heap[w.heap.size]? = some o1 ∧ (((((w.alloc o1).alloc o2).alloc o3).alloc o4).alloc o5).heap[w.heap.size + 1]? = some o2 ∧
    (((((w.alloc o1).alloc o2).alloc o3).alloc o4).alloc o5).heap[w.heap.size + 2]? = some o3 ∧ (((((w.alloc o1).alloc o2).alloc o3).alloc o4).alloc o5).heap[w.heap.size + 3]? = some o4 ∧
    (((((w.alloc o1).alloc o2).alloc o3).alloc o4).alloc o5).heap[w.heap.size + 4]? = some o5 := by
  refine ⟨((((((Kept.refl [] w).alloc _).alloc _).alloc _).alloc _).alloc _), ?_, ?_, ?_, ?_, ?_⟩
  · rw [Below.heap_alloc _ _ _ (by simp; omega), Below.heap_alloc _ _ _ (by simp; omega), Below.heap_alloc _ _ _ (by simp; omega), Below.heap_alloc _ _ _ (by simp)]
    exact Go.heap_alloc_new _ _
  · rw [Below.heap_alloc _ _ _ (by simp), Below.heap_alloc _ _ _ (by simp), Below.heap_alloc _ _ _ (by simp)]
    have := Go.heap_alloc_new (w.alloc o1) o2
    simpa using this
  · rw [Below.heap_alloc _ _ _ (by simp), Below.heap_alloc _ _ _ (by simp)]
    have := Go.heap_alloc_new ((w.alloc o1).alloc o2) o3
    simpa using this
  · rw [Below.heap_alloc _ _ _ (by simp)]
    have := Go.heap_alloc_new (((w.alloc o1).alloc o2).alloc o3) o4
    simpa using this
  · have := Go.heap_alloc_new ((((w.alloc o1).alloc o2).alloc o3).alloc o4) o5
    simpa using this

theorem Mi.new {w : World} {b : Nat} (h : w.heap[b]? = some (.map #[] 0)) : Mi w b 0 (fun _ => none) := by
  obtain ⟨D, ⟨es, clock, h1, h2⟩, h3⟩ := Mi.made (w := w)
  have e : (w.alloc (.map #[] 0)).heap[w.heap.size]? = some (.map #[] 0) := Go.heap_alloc_new _ _
  rw [e] at h1
  injection h1 with h1
  injection h1 with h4 h5
  subst h4 h5
  exact ⟨D, ⟨_, _, h, h2⟩, h3⟩

theorem infoB : (Tryd.prog.info? 4).map (fun i => (i.zero, i.size, i.bytes)) = some (some (.bool false), 1, 1) := by kernel_rfl

theorem make_bools (n : Nat) (h : n ≤ 65536) (w : World) : (Instr.makeSlice 54 (.int .i64 (n : Int)) (.int .i64 (n : Int))).run Tryd.prog w = .ok (.slice (some ⟨w.heap.size, 0, none⟩) n n) (w.alloc (.cells (bcs (List.replicate n false)) 4 (0, 0))) := by
  obtain ⟨i0, hi, hz0, hz1, hz2⟩ := info_parts infoB
  have := run_make (P := Tryd.prog) w 54 4 i0 (.bool false) Tryd.underlying54 hi hz0 .i64 .i64 n n (by omega) (by omega) (by rw [hz2]; omega) (by omega)
  rw [this]
  have e : madeCells (Value.bool false).cells ((n : Int).toNat * i0.size) = bcs (List.replicate n false) := by
    apply Array.ext'
    rw [hz1]
    simp [toList_madeCells_one, Value.cells, bcs]
  rw [e]
  simp

/-- A look, whatever came first. -/
theorem lk_any {w U W : World} {X b1 b2 b3 bf : Nat} {p : Pl} {S : Sta} (hw : Kept [] w U) (hk : Kept [] U W) (hX : W.heap[X]? = some (.cells #[.slice p.a1 S.ino.length p.c1, .slice p.a2 S.opn.length p.c2, .slice p.a3 S.made.length p.c3, .map (some b1), .map (some b2), .map (some b3), .slice (some ⟨bf, 0, none⟩) S.ino.length S.ino.length, .slice none 0 0] 57 (0, 0)))
    (h1 : W.heap[b1]? = some (.map #[] 0)) (h2 : W.heap[b2]? = some (.map #[] 0)) (h3 : W.heap[b3]? = some (.map #[] 0)) (hf : W.heap[bf]? = some (.cells (bcs (List.replicate S.ino.length false)) 4 (0, 0)))
    (x : U.heap.size ≤ X ∧ U.heap.size ≤ b1 ∧ U.heap.size ≤ b2 ∧ U.heap.size ≤ b3 ∧ U.heap.size ≤ bf) (d : b1 ≠ b2 ∧ b1 ≠ b3 ∧ b2 ≠ b3) (y : X ≠ bf) : Hid (Lk w W ⟨X, b1, b2, b3, bf⟩ p S 0 (fun _ => none) (fun _ => none) (fun _ => none) (List.replicate S.ino.length false)) := by
  have hs := hw.size
  have n1 : X ≠ b1 := fun e => by subst e; rw [hX] at h1; cases h1
  have n2 : X ≠ b2 := fun e => by subst e; rw [hX] at h2; cases h2
  have n3 : X ≠ b3 := fun e => by subst e; rw [hX] at h3; cases h3
  have n5 : b1 ≠ bf := fun e => by subst e; rw [hf] at h1; cases h1
  have n6 : b2 ≠ bf := fun e => by subst e; rw [hf] at h2; cases h2
  have n7 : b3 ≠ bf := fun e => by subst e; rw [hf] at h3; cases h3
  exact ⟨hw.trans hk (by simp), ⟨by simp; omega, by simp; omega, by simp; omega, by simp; omega, by simp; omega, n1, n2, n3, y, d.1, d.2.1, n5, d.2.2, n6, n7⟩, hX, Mi.new h1, Mi.new h2, Mi.new h3, hf⟩

end Go.Proofs.YtgfdcnjnkljahaaDoor
