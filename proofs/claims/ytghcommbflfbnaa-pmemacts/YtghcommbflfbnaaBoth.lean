/-
  A memory and a reference memory side by side, in the heap.
-/
import Derived.Test.YtghcommbflfbnaaSim
namespace Go.Proofs.Ytghcommbflfbnaa

structure Both (w : World) (p : Pl) (q : Rp) (M : Pm) (R : Rf) : Prop where
  mem : MemIs w p M
  ref : RefIs w q R
  apart : ∀ k ∈ p.blocks, k ∉ q.blocks
  sim : Sim 0 M R

def bb (p : Pl) (q : Rp) : List Nat := p.blocks ++ q.blocks

structure BTo (w : World) (p : Pl) (q : Rp) (w' : World) (p' : Pl) (q' : Rp) : Prop where
  b : p'.b = p.b
  c : q'.b = q.b
  kept : Kept (bb p q) w w'
  fresh : ∀ k ∈ bb p' q', k ∈ bb p q ∨ w.heap.size ≤ k

theorem BTo.trans {w w' w'' : World} {p p' p'' : Pl} {q q' q'' : Rp} (h : BTo w p q w' p' q') (k : BTo w' p' q' w'' p'' q'') : BTo w p q w'' p'' q'' :=
  ⟨k.b.trans h.b, k.c.trans h.c, h.kept.trans k.kept h.fresh, fun x hx => by
    rcases k.fresh x hx with h1 | h1
    · exact h.fresh x h1
    · exact Or.inr (Nat.le_trans h.kept.size h1)⟩

theorem BTo.still {w w' : World} {p : Pl} {q : Rp} (h : Kept [] w w') : BTo w p q w' p q := ⟨rfl, rfl, h.mono (by simp), fun _ h => Or.inl h⟩

theorem mem_bb {p : Pl} {q : Rp} {k : Nat} : k ∈ bb p q ↔ k ∈ p.blocks ∨ k ∈ q.blocks := by simp [bb]

/-- The memory's step: the reference stays. -/
theorem step_mem {w w' : World} {p p' : Pl} {q : Rp} {R : Rf} (hr : RefIs w q R) (ha : ∀ k ∈ p.blocks, k ∉ q.blocks) (ht : To w p w' p') :
    RefIs w' q R ∧ (∀ k ∈ p'.blocks, k ∉ q.blocks) ∧ BTo w p q w' p' q := by
  refine ⟨hr.kept ht.kept fun k hk hm => ha k hm hk, fun k hk hq => ?_, ht.b, rfl, ht.kept.mono fun x hx => Or.inl (mem_bb.2 (Or.inl hx)), fun k hk => ?_⟩
  · rcases ht.fresh k hk with h1 | h1
    · exact ha k h1 hq
    · have := hr.blocks_lt k hq; omega
  · rcases mem_bb.1 hk with h1 | h1
    · rcases ht.fresh k h1 with h2 | h2
      · exact Or.inl (mem_bb.2 (Or.inl h2))
      · exact Or.inr h2
    · exact Or.inl (mem_bb.2 (Or.inr h1))

/-- The reference's step: the memory stays. -/
theorem step_ref {w w' : World} {p : Pl} {q q' : Rp} {M : Pm} (hm : MemIs w p M) (ha : ∀ k ∈ p.blocks, k ∉ q.blocks) (ht : RTo w q w' q') :
    MemIs w' p M ∧ (∀ k ∈ p.blocks, k ∉ q'.blocks) ∧ BTo w p q w' p q' := by
  refine ⟨hm.kept ht.kept fun k hk h2 => ha k hk h2, fun k hk hq => ?_, rfl, ht.b, ht.kept.mono fun x hx => Or.inl (mem_bb.2 (Or.inr hx)), fun k hk => ?_⟩
  · rcases ht.fresh k hq with h1 | h1
    · exact ha k hk h1
    · have := hm.blocks_lt k hk; omega
  · rcases mem_bb.1 hk with h1 | h1
    · exact Or.inl (mem_bb.2 (Or.inl h1))
    · rcases ht.fresh k h1 with h2 | h2
      · exact Or.inl (mem_bb.2 (Or.inr h2))
      · exact Or.inr h2

end Go.Proofs.Ytghcommbflfbnaa
