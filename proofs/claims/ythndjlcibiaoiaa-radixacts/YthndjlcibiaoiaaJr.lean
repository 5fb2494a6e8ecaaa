/-
  A tree and the law's own list of numbers side by side.
-/
import Derived.Test.YthndjlcibiaoiaaSp
namespace Go.Proofs.Ythndjlcibiaoiaa
open Go.RowKit
set_option linter.unusedVariables false

theorem max_neg (x : Int) (h : x < 0) (W : World) : (Builtin.max_ #[3, 3] 3 #[.int .i64 x, .int .i64 0]).run Try.prog W = .ok (.int .i64 0) W := by
  have e : ¬ 0 < x := by omega
  simp [Builtin.max_, Builtin.max2]
  omega

theorem max_pos (x : Int) (h : 0 ≤ x) (W : World) : (Builtin.max_ #[3, 3] 3 #[.int .i64 x, .int .i64 0]).run Try.prog W = .ok (.int .i64 x) W := by
  simp [Builtin.max_, Builtin.max2]
  omega

theorem Rb.push {I : Trc → Prop} {S : List (Nat × Obj)} {w0 w : World} {b g f k L N : Nat} {W : Nat → Int} (h : Rb I S w0 w b g f k L N W) (o : Obj) : Rb I ((w.heap.size, o) :: S) w0 (w.alloc o) b g f k L N W := by
  obtain ⟨a1, a2, a3, a4, hS, A, hH, h1⟩ := h
  exact ⟨a1, a2, a3, a4, List.mem_cons_of_mem _ hS, A, hH.push o, h1⟩

/-- The tree has V, the law's list V'. -/
structure Jr (w0 w : World) (b g bv N : Nat) (V V' : Nat → Int) : Prop where
  rb : Rb AnyT [(bv, vb V'), (g, box b 20)] w0 w b g 20 3 300 N (wd V)
  ne : bv ≠ g

/-- .. and an act lies beside them. -/
structure Jx (w0 w : World) (b g bv N : Nat) (V V' : Nat → Int) (X : Nat) (o : Obj) : Prop where
  rb : Rb AnyT [(X, o), (bv, vb V'), (g, box b 20)] w0 w b g 20 3 300 N (wd V)
  ne : bv ≠ g
  nx : X ≠ bv

/-- An act in its block. -/
def xo (kd cc pp vv : Int) : Obj := .cells #[.int .i64 kd, .int .i64 cc, .int .i64 pp, .int .i64 vv] 33 (0, 0)

section
variable {w0 w : World} {b g bv N : Nat} {V V' : Nat → Int} {X : Nat} {o : Obj}

theorem Jr.push (h : Jr w0 w b g bv N V V') (o : Obj) : Jx w0 (w.alloc o) b g bv N V V' w.heap.size o :=
  ⟨h.rb.push o, h.ne, by have := lt_of_heap (h.rb.at_ (x := (bv, vb V')) (by simp)); simp only at this; omega⟩

theorem Jx.drop (h : Jx w0 w b g bv N V V' X o) : Jr w0 w b g bv N V V' :=
  ⟨h.rb.fewer (fun x hx => List.mem_cons_of_mem _ hx) (by simp), h.ne⟩

theorem Jr.mono (h : Jr w0 w b g bv N V V') {N' : Nat} (hN : N ≤ N') : Jr w0 w b g bv N' V V' := ⟨h.rb.mono hN, h.ne⟩
theorem Jx.mono (h : Jx w0 w b g bv N V V' X o) {N' : Nat} (hN : N ≤ N') : Jx w0 w b g bv N' V V' X o := ⟨h.rb.mono hN, h.ne, h.nx⟩

theorem Jx.by_ (h : Jx w0 w b g bv N V V' X o) {w1 : World} {N1 : Nat} {V1 : Nat → Int} (h1 : Rb AnyT [(X, o), (bv, vb V'), (g, box b 20)] w0 w1 b g 20 3 300 N1 (wd V1)) : Jx w0 w1 b g bv N1 V1 V' X o := ⟨h1, h.ne, h.nx⟩

theorem Jx.still (h : Jx w0 w b g bv N V V' X o) {w1 : World} (hk : Kept [] w w1) : Jx w0 w1 b g bv N V V' X o := ⟨h.rb.still hk, h.ne, h.nx⟩

theorem Jx.act {kd cc pp vv : Int} (h : Jx w0 w b g bv N V V' X (xo kd cc pp vv)) : w.cell? ⟨X, 0, none⟩ = some (.int .i64 kd) ∧ w.cell? ⟨X, 1, none⟩ = some (.int .i64 cc) ∧ w.cell? ⟨X, 2, none⟩ = some (.int .i64 pp) ∧ w.cell? ⟨X, 3, none⟩ = some (.int .i64 vv) := by
  have h1 : w.heap[X]? = some (xo kd cc pp vv) := h.rb.at_ (x := (X, xo kd cc pp vv)) (List.mem_cons_self ..)
  exact ⟨cell_of h1 rfl, cell_of h1 rfl, cell_of h1 rfl, cell_of h1 rfl⟩

theorem Jx.list (h : Jx w0 w b g bv N V V' X o) {p : Nat} (hp : p < 16) : w.cell? ⟨bv, p, none⟩ = some (.int .i64 (V' p)) ∧ w.frozen? ⟨bv, p, none⟩ = false := by
  have h1 : w.heap[bv]? = some (vb V') := h.rb.at_ (x := (bv, vb V')) (by simp)
  exact ⟨cell_of h1 (vb_get V' hp), block_frozen h1 p⟩

theorem Jx.put (h : Jx w0 w b g bv N V V' X o) (p : Nat) (v : Int) : Jx w0 (w.setCell ⟨bv, p, none⟩ (.int .i64 v)) b g bv N V (upd V' p v) X o := by
  have h1 : w.heap[bv]? = some (vb V') := h.rb.at_ (x := (bv, vb V')) (by simp)
  refine ⟨h.rb.turn [bv] (fun x hx => ?_) ((Kept.refl [bv] w).setCell (Or.inl (by simp)) _) _ (by simp) fun x hx => ?_, h.ne, h.nx⟩
  · rw [List.mem_singleton] at hx
    exact ⟨vb V', by simp [hx]⟩
  · simp only [List.mem_cons, List.not_mem_nil, or_false] at hx
    rcases hx with rfl | rfl | rfl
    · exact ⟨Or.inr ⟨o, by simp⟩, by rw [block_other h.nx]; exact h.rb.at_ (x := (X, o)) (by simp)⟩
    · refine ⟨Or.inr ⟨vb V', by simp⟩, ?_⟩
      rw [block_set h1, vb_set]
      rfl
    · exact ⟨Or.inr ⟨box b 20, by simp⟩, by rw [block_other (Ne.symm h.ne)]; exact h.rb.at_ (x := (g, box b 20)) (by simp)⟩

end

theorem zeros_list : i64s (List.replicate 16 0) = i64s ((List.range 16).map fun _ => 0) := by rfl

theorem Jr.start {w0 w : World} {b g N : Nat} {V : Nat → Int} (h : Rb AnyT [(g, box b 20)] w0 w b g 20 3 300 N (wd V)) : Jr w0 (w.alloc (vb fun _ => 0)) b g w.heap.size N V fun _ => 0 :=
  ⟨h.push _, by have := lt_of_heap (h.at_ (x := (g, box b 20)) (by simp)); simp only at this; omega⟩

end Go.Proofs.Ythndjlcibiaoiaa
