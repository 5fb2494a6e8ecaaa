/-
  What JournalActs keeps from act to act.
-/
import Derived.Test.YtpaefllhngbimaaJj
namespace Go.Proofs.Ytpaefllhngbimaa
open Go.RowKit
set_option linter.unusedVariables false
set_option maxRecDepth 100000

/-- Between two acts: the text T lasts and is seen; burns: a fuse may burn. -/
structure Pi (M : Pm) (n : Nat) (T : ByteArray) (burns : Bool) (k : Int) : Prop where
  q : Quiet M 8 n T
  fu : FuseOk M
  no : burns = false → M.fuse = none
  cnt : Cnt M k
  len : M.seen.length = n + 32
  a : wordAt M.seen 3 = 77
  b : wordAt M.seen (n + 9) = 78

/-- Behind a Write. -/
structure Wn (M : Pm) (n : Nat) (s : ByteArray) : Prop where
  fits : Fits M.seen 8 n
  rng : Rng M.seen
  look : lookOf M.seen 8 n = some s

theorem Pi.more {M : Pm} {n : Nat} {T : ByteArray} {u : Bool} {k l : Int} (h : Pi M n T u k) (hl : k ≤ l) : Pi M n T u l := ⟨h.q, h.fu, h.no, h.cnt.more hl, h.len, h.a, h.b⟩

theorem Pi.wn {M : Pm} {n : Nat} {T : ByteArray} {u : Bool} {k : Int} (h : Pi M n T u k) {s : ByteArray} (hs : s.size ≤ roomOf n) : Wn (M.run (replOps M.seen 8 n s)) n s := by
  have hx := h.q.fits
  have h1 := hx.hi; have h2 := hx.top
  refine ⟨?_, ?_, ?_⟩ <;> rw [run_seen_repl]
  · exact hx.of_len (Z_length _ _ _ _)
  · exact Z_rng h.q.rng (by omega) hs
  · exact look_new hx hs

theorem Pi.write {M : Pm} {n : Nat} {T : ByteArray} {k : Int} (h : Pi M n T false k) {s : ByteArray} (hs : s.size ≤ roomOf n) : Pi (M.run (replOps M.seen 8 n s)) n s false (k + 20000) := by
  obtain ⟨q1, f1⟩ := quiet_repl h.q.clean h.q.rng h.q.fits (h.no rfl) hs
  refine ⟨q1, Or.inl f1, fun _ => f1, h.cnt.repl hs, ?_, ?_, ?_⟩ <;> rw [run_seen_repl]
  · rw [Z_length]; exact h.len
  · rw [Z_beside h.q.fits hs 3 (by omega)]; exact h.a
  · rw [Z_beside h.q.fits hs (n + 9) (by omega)]; exact h.b

theorem Pi.fuse {M : Pm} {n : Nat} {T : ByteArray} {u : Bool} {k : Int} (h : Pi M n T u k) (x : Int) (hx : 0 ≤ x) : Pi (M.setFuse x) n T true k := by
  obtain ⟨c1, f1, e1⟩ := fuse_quiet h.q.clean h.fu x hx
  refine ⟨⟨c1, ?_, ?_, ?_⟩, f1, fun hh => by simp at hh, h.cnt.fuse x, ?_, ?_, ?_⟩ <;> rw [e1]
  · exact h.q.rng
  · exact h.q.fits
  · exact h.q.look
  · exact h.len
  · exact h.a
  · exact h.b

theorem Pi.crash {M : Pm} {n : Nat} {T : ByteArray} {u : Bool} {k : Int} (h : Pi M n T u k) (kp : Int) : Pi (M.crash kp) n T false k := by
  obtain ⟨q1, f1⟩ := h.q.crash h.fu kp
  have e := crash_seen h.q.clean h.fu kp
  refine ⟨q1, Or.inl f1, fun _ => f1, h.cnt.crash kp, ?_, ?_, ?_⟩ <;> rw [e]
  · exact h.len
  · exact h.a
  · exact h.b

theorem left_beside {X X' : List Int} {f n : Nat} {s : ByteArray} (h : Go.Proofs.Ytpaefllhngbimaa.Left X X' f n s) (hx : Fits X f n) (hs : s.size ≤ roomOf n) (i : Nat) (hl : i < X.length) (hi : i < f ∨ f + n ≤ i) : wordAt X' i = wordAt X i := by
  rcases h.word with e | e
  · obtain ⟨h1, h2, h3, h4⟩ := area_fits hx (head_next (X := X) (f := f) (n := n)) hs
    have hlo := hx.lo; have hh := hx.hi
    exact e i hl (by omega)
  · rw [e]; exact Z_beside hx hs i hi

theorem Pi.cut {M : Pm} {n : Nat} {T : ByteArray} {u : Bool} {k : Int} (h : Pi M n T u k) {s : ByteArray} (hs : s.size ≤ roomOf n) (kp : Int) :
    Pi ((M.run (replOps M.seen 8 n s)).crash kp) n T false (k + 20000) ∨ Pi ((M.run (replOps M.seen 8 n s)).crash kp) n s false (k + 20000) := by
  obtain ⟨hq, hf⟩ := cut_quiet h.q h.fu hs kp
  obtain ⟨hl, -⟩ := crash_repl h.q.clean h.fu h.q.rng h.q.fits hs kp
  have hc := (h.cnt.repl (X := M.seen) (f := 8) (n := n) hs).crash kp
  have hlen := h.len
  have e1 : ((M.run (replOps M.seen 8 n s)).crash kp).seen.length = n + 32 := hl.len.trans h.len
  have e2 := (left_beside hl h.q.fits hs 3 (by omega) (by omega)).trans h.a
  have e3 := (left_beside hl h.q.fits hs (n + 9) (by omega) (by omega)).trans h.b
  rcases hq with q | q
  · exact Or.inl ⟨q, Or.inl hf, fun _ => hf, hc, e1, e2, e3⟩
  · exact Or.inr ⟨q, Or.inl hf, fun _ => hf, hc, e1, e2, e3⟩

/-- An act in a variable of the loop's. -/
def xo (c : Acx) : Obj := .cells #[.int .i64 c.kd, .string c.s, .int .i64 c.fu, .int .i64 c.kp] 62 (0, 0)

theorem Hj.x {S : List (Nat × Obj)} {w0 w : World} {b X : Nat} {M : Pm} {c : Acx} (h : Hj S w0 w b M) (hx : (X, xo c) ∈ S) :
    w.cell? ⟨X, 0, none⟩ = some (.int .i64 c.kd) ∧ w.cell? ⟨X, 1, none⟩ = some (.string c.s) ∧ w.cell? ⟨X, 2, none⟩ = some (.int .i64 c.fu) ∧ w.cell? ⟨X, 3, none⟩ = some (.int .i64 c.kp) := by
  have := h.at hx
  refine ⟨?_, ?_, ?_, ?_⟩ <;> simp [World.cell?, this, xo]

theorem str_ne {a b : ByteArray} (h : a ≠ b) : (a.toList == b.toList) = false := by
  rw [beq_eq_false_iff_ne]
  intro e
  apply h
  rw [ByteArray.toList_eq, ByteArray.toList_eq] at e
  exact ByteArray.ext (Array.toList_inj.1 e)

theorem str_eq (a : ByteArray) : (a.toList == a.toList) = true := by simp

end Go.Proofs.Ytpaefllhngbimaa
