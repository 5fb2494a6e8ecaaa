/-
  The findings of a look: a row of the look's own, sorted as they come; Len, Less, Swap, Push.
-/
import Derived.Test.YtgfdcnjnkljahaaDoorXa
import Derived.BigRegion
namespace Go.Proofs.YtgfdcnjnkljahaaDoor
open Go.RowKit Go.Lib
set_option linter.unusedVariables false

/-- A finding's three cells. -/
@[reducible] def Fi.cs (f : Fi) : List Value := [.int .i64 f.kind, .int .i64 f.num, .string f.name]

/-- Findings as cells. -/
def fcs (L : List Fi) : List Value := L.flatMap Fi.cs

theorem fcs_nil : fcs [] = [] := rfl

theorem fcs_cons (f : Fi) (L : List Fi) : fcs (f :: L) = f.cs ++ fcs L := by simp [fcs]

theorem fcs_append (L M : List Fi) : fcs (L ++ M) = fcs L ++ fcs M := by simp [fcs]

theorem fcs_length (L : List Fi) : (fcs L).length = L.length * 3 := by
  induction L with
  | nil => rfl
  | cons f L ih => rw [fcs_cons, List.length_append, ih]; simp; omega

theorem fcs_get (L : List Fi) : ∀ (i : Nat) (f : Fi), L[i]? = some f → ∀ j, j < 3 → (fcs L)[i * 3 + j]? = f.cs[j]? := by
  induction L with
  | nil => intro i f h; simp at h
  | cons g L ih =>
    intro i f h j hj
    rw [fcs_cons]
    cases i with
    | zero =>
      have e : g = f := by simpa using h
      subst e
      rw [List.getElem?_append_left (by simp; omega)]; simp
    | succ i =>
      rw [List.getElem?_append_right (by simp; omega)]
      have := ih i f (by simpa using h) j hj
      rw [← this]; congr 1; simp; omega

theorem fcs_one (L : List Fi) : ∀ u ∈ fcs L, u.oneCell' = true := by
  induction L with
  | nil => intro u hu; simp [fcs] at hu
  | cons f L ih =>
    intro u hu
    rw [fcs_cons, List.mem_append] at hu
    rcases hu with hu | hu
    · have : u = .int .i64 f.kind ∨ u = .int .i64 f.num ∨ u = .string f.name := by simpa [Fi.cs] using hu
      rcases this with rfl | rfl | rfl <;> rfl
    · exact ih u hu

theorem fcs_set (L : List Fi) : ∀ (i : Nat) (f : Fi), i < L.length → fcs (L.set i f) = (((fcs L).set (i * 3) (.int .i64 f.kind)).set (i * 3 + 1) (.int .i64 f.num)).set (i * 3 + 2) (.string f.name) := by
  induction L with
  | nil => intro i f h; simp at h
  | cons g L ih =>
    intro i f h
    cases i with
    | zero => rw [List.set_cons_zero, fcs_cons, fcs_cons]; rfl
    | succ i =>
      rw [List.set_cons_succ, fcs_cons, fcs_cons, ih i f (by simpa using h)]
      have e : (i + 1) * 3 = i * 3 + 3 := by omega
      rw [e]
      simp only [Fi.cs, List.cons_append, List.nil_append]
      have e1 : i * 3 + 3 + 1 = i * 3 + 1 + 3 := by omega
      have e2 : i * 3 + 3 + 2 = i * 3 + 2 + 3 := by omega
      rw [e1, e2]
      simp only [List.set_cons_succ]

/-- A look's first seven cells. -/
structure Lq where
  a0 : Value
  a1 : Value
  a2 : Value
  a3 : Value
  a4 : Value
  a5 : Value
  a6 : Value

/-- A look's cells. -/
@[reducible] def Lq.cs (q : Lq) (v : Value) : Array Value := #[q.a0, q.a1, q.a2, q.a3, q.a4, q.a5, q.a6, v]

/-- A look in block X, whose findings are L, in a row of its own; of w0 only the blocks F have turned. -/
structure Tl (F : List Nat) (w0 : World) (X : Nat) (q : Lq) (w : World) (v : Value) (L : List Fi) : Prop where
  kept : Kept F w0 w
  inF : X ∈ F
  blk : w.heap[X]? = some (.cells (q.cs v) 57 (0, 0))
  row : w.ownsRow 0 42 3 v L.length (fcs L)
  own : ∀ k, v.ownBlock = some k → k ≠ X ∧ (k ∈ F ∨ w0.heap.size ≤ k)

theorem Tl.c7 {F : List Nat} {w0 w : World} {X : Nat} {q : Lq} {v : Value} {L : List Fi} (h : Tl F w0 X q w v L) : w.cell? ⟨X, 7, none⟩ = some v := by rw [cellB h.blk]; rfl

theorem Tl.drew {F : List Nat} {w0 w : World} {X : Nat} {q : Lq} {v : Value} {L : List Fi} (h : Tl F w0 X q w v L) : Tl F w0 X q w.drew v L := ⟨h.kept.drew, h.inF, h.blk, h.row, h.own⟩

theorem Tl.form {F : List Nat} {w0 w : World} {X : Nat} {q : Lq} {v : Value} {L : List Fi} (h : Tl F w0 X q w v L) : (v = .slice none 0 0 ∧ L = []) ∨
    ∃ g cap cur, v = .slice (some ⟨g, 0, none⟩) L.length cap ∧ 0 ≤ g ∧ w.heap[g]? = some (.cells cur 42 (0, 0)) ∧ L.length ≤ cap ∧ cap ≤ maxLen ∧ cur.size = cap * 3 ∧ cur.toList.take (L.length * 3) = fcs L := by
  rcases h.row.2 with ⟨h1, h2⟩ | ⟨g, cap, cur, h1, h2, h3, h4, h5, h6, h7⟩
  · exact Or.inl ⟨h1, List.eq_nil_of_length_eq_zero h2⟩
  · exact Or.inr ⟨g, cap, cur, h1, h2, h3, h4, h5, h6, h7⟩

theorem Tl.block {F : List Nat} {w0 w : World} {X : Nat} {q : Lq} {v : Value} {L : List Fi} (h : Tl F w0 X q w v L) : ∀ k, v.ownBlock = some k → k < w.heap.size := fun k hk => (World.ownsRow.lt h.row k hk).2

theorem Tl.same {F : List Nat} {w0 w w' : World} {X : Nat} {q : Lq} {v : Value} {L : List Fi} (h : Tl F w0 X q w v L) (k : Kept [] w w') : Tl F w0 X q w' v L := by
  refine ⟨h.kept.trans k (by simp), h.inF, by rw [k.block X (lt_of_heap h.blk) (by simp)]; exact h.blk, ⟨h.row.1, ?_⟩, h.own⟩
  rcases h.row.2 with hn | ⟨g, cap, cur, rfl, hb, hgg, rest⟩
  · exact .inl hn
  · exact .inr ⟨g, cap, cur, rfl, hb, by rw [k.block g (lt_of_heap hgg) (by simp)]; exact hgg, rest⟩

/-- What the walks read: each finding's three cells. -/
theorem Tl.slice {F : List Nat} {w0 w : World} {X : Nat} {q : Lq} {v : Value} {L : List Fi} (h : Tl F w0 X q w v L) : ∃ a cap, v = .slice a L.length cap ∧ L.length ≤ cap ∧ ∀ i (hi : i < L.length), ∃ g, a = some ⟨g, 0, none⟩ ∧ w.cell? ⟨g, i * 3, none⟩ = some (.int .i64 (L[i]).kind) ∧ w.cell? ⟨g, i * 3 + 1, none⟩ = some (.int .i64 (L[i]).num) ∧ w.cell? ⟨g, i * 3 + 2, none⟩ = some (.string (L[i]).name) ∧ ∀ j, w.frozen? ⟨g, j, none⟩ = false := by
  rcases h.form with ⟨h1, rfl⟩ | ⟨g, c, cur, h1, h2, h3, h4, h5, h6, h7⟩
  · exact ⟨none, 0, h1, by simp, fun i hi => by simp at hi⟩
  · refine ⟨_, c, h1, h4, fun i hi => ?_⟩
    have hq : ∀ j u, j < 3 → (L[i]).cs[j]? = some u → w.cell? ⟨g, i * 3 + j, none⟩ = some u := by
      intro j u hj hu
      have q := fcs_get L i _ (List.getElem?_eq_getElem hi) j hj
      rw [hu, ← h7, List.getElem?_take_of_lt (by omega)] at q
      have e : cur[i * 3 + j]? = some u := by simpa using q
      simp [World.cell?, h3, e]
    exact ⟨g, rfl, hq 0 _ (by omega) rfl, hq 1 _ (by omega) rfl, hq 2 _ (by omega) rfl, fun j => by simp [World.frozen?, h3]⟩

theorem t_len (a : Option Addr) (n c : Nat) (w : World) : Calls Tryd.prog 35 #[.slice a n c] w fun e w' => e = .returned (.int .i64 (n : Int)) ∧ w' = w := by
  go_enter Tryd.func35, Tryd.ntmps35
  go_wp2
  go_ret
  exact ⟨rfl, rfl⟩

/-- Is one ahead of the other? -/
def lessF (f g : Fi) : Bool := decide (cmpF f g < 0)

set_option maxRecDepth 100000 in
set_option maxHeartbeats 4000000 in
theorem t_less {F : List Nat} {w0 w : World} {X : Nat} {q : Lq} {a : Option Addr} {c : Nat} {L : List Fi} (h : Tl F w0 X q w (.slice a L.length c) L) (i j : Nat) (hi : i < L.length) (hj : j < L.length) :
    Calls Tryd.prog 85 #[.slice a L.length c, .int .i64 (i : Int), .int .i64 (j : Int)] w fun e w' => e = .returned (.bool (lessF L[i] L[j])) ∧ Kept [] w w' := by
  obtain ⟨a', c', e1, -, hs⟩ := h.slice
  injection e1 with e2 e3 e4
  subst e2
  obtain ⟨g, rfl, p0, p1, p2, -⟩ := hs i hi
  obtain ⟨g', e5, q0, q1, q2, -⟩ := hs j hj
  injection e5 with e6
  injection e6 with e7
  subst e7
  have HS : Hid (∀ w' : World, Kept [] w w' → Kept [] w w' ∧ w'.cell? ⟨g, i * 3, none⟩ = some (.int .i64 (L[i]).kind) ∧ w'.cell? ⟨g, i * 3 + 1, none⟩ = some (.int .i64 (L[i]).num) ∧ w'.cell? ⟨g, i * 3 + 2, none⟩ = some (.string (L[i]).name) ∧ w'.cell? ⟨g, j * 3, none⟩ = some (.int .i64 (L[j]).kind) ∧ w'.cell? ⟨g, j * 3 + 1, none⟩ = some (.int .i64 (L[j]).num) ∧ w'.cell? ⟨g, j * 3 + 2, none⟩ = some (.string (L[j]).name)) := fun w' k => ⟨k, k.cell p0 (by simp), k.cell p1 (by simp), k.cell p2 (by simp), k.cell q0 (by simp), k.cell q1 (by simp), k.cell q2 (by simp)⟩
  clear p0 p1 p2 q0 q1 q2 hs h
  have i0 : (0 : Int) ≤ (i : Int) := by omega
  have i1 : (i : Int) < (L.length : Int) := by omega
  have j0 : (0 : Int) ≤ (j : Int) := by omega
  have j1 : (j : Int) < (L.length : Int) := by omega
  unfold lessF
  obtain ⟨x, hx⟩ : ∃ x, x = L[i] := ⟨_, rfl⟩
  obtain ⟨y, hy⟩ : ∃ y, y = L[j] := ⟨_, rfl⟩
  rw [← hx, ← hy] at HS
  rw [← hx, ← hy]
  clear hx hy
  go_enter Tryd.func85, Tryd.ntmps85
  go_upto_region 1 with fail
  go_region_held3 (fun w' => Kept [] w w' ∧ w'.cell? ⟨g, i * 3, none⟩ = some (.int .i64 x.kind) ∧ w'.cell? ⟨g, i * 3 + 1, none⟩ = some (.int .i64 x.num) ∧ w'.cell? ⟨g, i * 3 + 2, none⟩ = some (.string x.name) ∧ w'.cell? ⟨g, j * 3, none⟩ = some (.int .i64 y.kind) ∧ w'.cell? ⟨g, j * 3 + 1, none⟩ = some (.int .i64 y.num) ∧ w'.cell? ⟨g, j * 3 + 2, none⟩ = some (.string y.name)) (first | exact HS.out _ (Kept.refl _ _).drew | exact HS.out _ (Kept.trans (And.left (by assumption)) (by assumption) (by simp)) | go_keep)
    (first
      | (go_at_call 87; refine (x_compare x y _).mono ?_; rintro e w5 ⟨rfl, k5⟩))
  go_wp2_with fail
  go_ret
  exact ⟨rfl, (Kept.refl _ _).drew.trans k5 (by simp)⟩

end Go.Proofs.YtgfdcnjnkljahaaDoor
