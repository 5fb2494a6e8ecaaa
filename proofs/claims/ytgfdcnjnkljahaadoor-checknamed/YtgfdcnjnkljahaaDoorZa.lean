/-
  A look that is made, and what it has told so far.
-/
import Derived.Test.YtgfdcnjnkljahaaDoorYd
namespace Go.Proofs.YtgfdcnjnkljahaaDoor
open Go.RowKit Go.Lib Go.Maps
set_option linter.unusedVariables false

/-- A look in the middle of its work. -/
structure Md (U : World) (h : Wh) (p : Pl) (S : Sta) (n : Nat) (wM w : World) (v : Value) (T : List Fi) : Prop where
  lk : Lk U wM h p S n (placeG S) (entriesG S) (opensG S) (foundL S)
  sv : Sv U p S
  tl : Tl [h.X] wM h.X (lq p S h.b1 h.b2 h.b3 h.bf) w v T

theorem Md.kU {U : World} {h : Wh} {p : Pl} {S : Sta} {n : Nat} {wM w : World} {v : Value} {T : List Fi} (m : Md U h p S n wM w v T) : Kept [] U w :=
  m.lk.kept.trans m.tl.kept (fun x hx => Or.inr (by simp at hx; subst hx; exact m.lk.ok.x0))

theorem Md.svw {U : World} {h : Wh} {p : Pl} {S : Sta} {n : Nat} {wM w : World} {v : Value} {T : List Fi} (m : Md U h p S n wM w v T) : Sv w p S := m.sv.kept m.kU

theorem Md.m1 {U : World} {h : Wh} {p : Pl} {S : Sta} {n : Nat} {wM w : World} {v : Value} {T : List Fi} (m : Md U h p S n wM w v T) : Mi w h.b1 n (placeG S) := m.lk.m1.kept m.tl.kept (by simpa using m.lk.ok.d1.symm)

theorem Md.m2 {U : World} {h : Wh} {p : Pl} {S : Sta} {n : Nat} {wM w : World} {v : Value} {T : List Fi} (m : Md U h p S n wM w v T) : Mi w h.b2 n (entriesG S) := m.lk.m2.kept m.tl.kept (by simpa using m.lk.ok.d2.symm)

theorem Md.m3 {U : World} {h : Wh} {p : Pl} {S : Sta} {n : Nat} {wM w : World} {v : Value} {T : List Fi} (m : Md U h p S n wM w v T) : Mi w h.b3 n (opensG S) := m.lk.m3.kept m.tl.kept (by simpa using m.lk.ok.d3.symm)

theorem Md.c0 {U : World} {h : Wh} {p : Pl} {S : Sta} {n : Nat} {wM w : World} {v : Value} {T : List Fi} (m : Md U h p S n wM w v T) : w.cell? ⟨h.X, 0, none⟩ = some (.slice p.a1 S.ino.length p.c1) := by rw [cellB m.tl.blk]; rfl

theorem Md.c1 {U : World} {h : Wh} {p : Pl} {S : Sta} {n : Nat} {wM w : World} {v : Value} {T : List Fi} (m : Md U h p S n wM w v T) : w.cell? ⟨h.X, 1, none⟩ = some (.slice p.a2 S.opn.length p.c2) := by rw [cellB m.tl.blk]; rfl

theorem Md.c2 {U : World} {h : Wh} {p : Pl} {S : Sta} {n : Nat} {wM w : World} {v : Value} {T : List Fi} (m : Md U h p S n wM w v T) : w.cell? ⟨h.X, 2, none⟩ = some (.slice p.a3 S.made.length p.c3) := by rw [cellB m.tl.blk]; rfl

theorem Md.c3 {U : World} {h : Wh} {p : Pl} {S : Sta} {n : Nat} {wM w : World} {v : Value} {T : List Fi} (m : Md U h p S n wM w v T) : w.cell? ⟨h.X, 3, none⟩ = some (.map (some h.b1)) := by rw [cellB m.tl.blk]; rfl

theorem Md.c4 {U : World} {h : Wh} {p : Pl} {S : Sta} {n : Nat} {wM w : World} {v : Value} {T : List Fi} (m : Md U h p S n wM w v T) : w.cell? ⟨h.X, 4, none⟩ = some (.map (some h.b2)) := by rw [cellB m.tl.blk]; rfl

theorem Md.c5 {U : World} {h : Wh} {p : Pl} {S : Sta} {n : Nat} {wM w : World} {v : Value} {T : List Fi} (m : Md U h p S n wM w v T) : w.cell? ⟨h.X, 5, none⟩ = some (.map (some h.b3)) := by rw [cellB m.tl.blk]; rfl

theorem Md.c6 {U : World} {h : Wh} {p : Pl} {S : Sta} {n : Nat} {wM w : World} {v : Value} {T : List Fi} (m : Md U h p S n wM w v T) : w.cell? ⟨h.X, 6, none⟩ = some (.slice (some ⟨h.bf, 0, none⟩) S.ino.length S.ino.length) := by rw [cellB m.tl.blk]; rfl

theorem Md.found {U : World} {h : Wh} {p : Pl} {S : Sta} {n : Nat} {wM w : World} {v : Value} {T : List Fi} (m : Md U h p S n wM w v T) (i : Nat) (hi : i < (foundL S).length) : w.cell? ⟨h.bf, i, none⟩ = some (.bool ((foundL S).getD i true)) := m.tl.kept.cell (m.lk.found i hi) (by simpa using m.lk.ok.d4.symm)

theorem Md.same {U : World} {h : Wh} {p : Pl} {S : Sta} {n : Nat} {wM w w' : World} {v : Value} {T : List Fi} (m : Md U h p S n wM w v T) (k : Kept [] w w') : Md U h p S n wM w' v T := ⟨m.lk, m.sv, m.tl.same k⟩

/-- A finding is put among the others. -/
theorem d_add {U : World} {h : Wh} {p : Pl} {S : Sta} {n : Nat} {wM w : World} {v : Value} {T : List Fi} (m : Md U h p S n wM w v T) (kind num : Int) (name : ByteArray) (hl : T.length ≤ 1000000) :
    Calls Tryd.prog 29 #[.pointer (some ⟨h.X, 7, none⟩), .int .i64 kind, .int .i64 num, .string name] w fun e w' => e = .returned (.tuple #[]) ∧ ∃ v', Md U h p S n wM w' v' (pushF T ⟨kind, num, name⟩) ∧ Kept (h.X :: v.ownBlock.toList) w w' := by
  refine (t_add (m.tl.rebase (G := h.X :: v.ownBlock.toList) (by simp) (fun k hk => by simp [hk])) kind num name (by omega)).mono ?_
  rintro e w' ⟨rfl, v', h'⟩
  have hown : ∀ x ∈ h.X :: v.ownBlock.toList, x ∈ [h.X] ∨ wM.heap.size ≤ x := by
    intro x hx
    rcases List.mem_cons.1 hx with rfl | hx
    · exact Or.inl (by simp)
    · exact (m.tl.own x (by simpa using hx)).2
  refine ⟨rfl, v', ⟨m.lk, m.sv, m.tl.kept.trans h'.kept hown, by simp, h'.blk, h'.row, fun k hk => ⟨(h'.own k hk).1, ?_⟩⟩, h'.kept⟩
  rcases (h'.own k hk).2 with h1 | h1
  · exact hown k h1
  · exact Or.inr (Nat.le_trans m.tl.kept.size h1)

/-- A block that came up behind the findings' row stays. -/
theorem Md.box {U : World} {h : Wh} {p : Pl} {S : Sta} {n : Nat} {wM w w1 w2 : World} {v : Value} {T : List Fi} {Y : Nat} {o : Obj} (m : Md U h p S n wM w v T) (hY : w.heap.size ≤ Y) (h1 : w1.heap[Y]? = some o) (k : Kept (h.X :: v.ownBlock.toList) w1 w2) : w2.heap[Y]? = some o := by
  rw [k.block Y (lt_of_heap h1) (fun hx => ?_)]
  · exact h1
  · rcases List.mem_cons.1 hx with e | hx
    · have := lt_of_heap m.tl.blk; omega
    · have := m.tl.block Y (by simpa using hx); omega

/-- The inode ahead. -/
def prevN (L : List Ino) (n : Nat) : Option Int := if n = 0 then none else some (inoAt L (n - 1)).num

/-- An inode that does not stand in its row. -/
def badN (x : Ino) (pv : Option Int) : Bool := decide (x.num < 1) || (match pv with | some z => decide (x.num ≤ z) | none => false)

def numsL : List Ino → Option Int → List Fi → List Fi
  | [], _, T => T
  | x :: L, pv, T => numsL L (some x.num) (if badN x pv then pushF T ⟨1, x.num, ⟨#[]⟩⟩ else T)

/-- Is there no root? -/
def badRoot (S : Sta) : Bool := match S.ino with
  | [] => true
  | x :: _ => !(x.num == 1) || !x.dir

def numsR (S : Sta) (T : List Fi) : List Fi := numsL S.ino none (if badRoot S then pushF T ⟨1, 1, ⟨#[]⟩⟩ else T)

end Go.Proofs.YtgfdcnjnkljahaaDoor
