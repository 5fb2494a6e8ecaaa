/-
  The reference's log: how it lies in memory.
-/
import Derived.Test.YtlecpeofjabndaaOa
import Derived.Test.YtlecpeofjabndaaOb
namespace Go.Proofs.Ytlecpeofjabndaa
open Go.RowKit
set_option linter.unusedVariables false
set_option linter.unusedSimpArgs false

/-- Last stamps as cells. -/
def laC (C : List Co) : List Value := C.flatMap fun c => [.int .i64 c.a, .int .i64 c.k]

theorem laC_length (C : List Co) : (laC C).length = C.length * 2 := by
  unfold laC
  induction C with
  | nil => rfl
  | cons x C ih => simp at ih ⊢; omega

theorem laC_get (C : List Co) : ∀ i c, C[i]? = some c → (laC C)[i * 2]? = some (.int .i64 c.a) ∧ (laC C)[i * 2 + 1]? = some (.int .i64 c.k) := by
  induction C with
  | nil => intro i x h; simp at h
  | cons y C ih =>
    intro i x h
    cases i with
    | zero => simp at h; subst h; simp [laC]
    | succ i =>
      have := ih i x (by simpa using h)
      have e : laC (y :: C) = .int .i64 y.a :: .int .i64 y.k :: laC C := by simp [laC]
      rw [e, show (i + 1) * 2 = i * 2 + 1 + 1 by omega]
      simpa using this

theorem laC_set (C : List Co) : ∀ i c, i < C.length → laC (C.set i c) = ((laC C).set (i * 2) (.int .i64 c.a)).set (i * 2 + 1) (.int .i64 c.k) := by
  induction C with
  | nil => intro i x h; simp at h
  | cons y C ih =>
    intro i x h
    have e : ∀ (y : Co) C, laC (y :: C) = .int .i64 y.a :: .int .i64 y.k :: laC C := fun y C => by simp [laC]
    cases i with
    | zero => simp [e]
    | succ i =>
      have := ih i x (by simpa using h)
      rw [List.set_cons_succ, e, e, this, show (i + 1) * 2 = i * 2 + 1 + 1 by omega]
      rfl

/-- The reference's blocks. -/
def rb (q gc gl : Nat) (C : List Co) : List Nat := q :: gc :: gl :: C.filterMap fun c => c.v.ownBlock

/-- The reference's log, in blocks from H on. -/
structure Re (H : Nat) (w : World) (q gc gl : Nat) (C : List Co) : Prop where
  main : w.heap[q]? = some (.cells #[.slice (some ⟨gc, 0, none⟩) C.length C.length, .slice (some ⟨gl, 0, none⟩) C.length C.length] 50 (0, 0))
  cors : w.heap[gc]? = some (.cells (C.map Co.v).toArray 44 (0, 0))
  las : w.heap[gl]? = some (.cells (laC C).toArray 35 (0, 0))
  each : ∀ i (hi : i < C.length), Rr w H (C[i]).v (C[i]).R
  n1 : q ≠ gc
  n2 : q ≠ gl
  n3 : gc ≠ gl
  hq : H ≤ q
  hc : H ≤ gc
  hl : H ≤ gl
  off : ∀ i (hi : i < C.length) x, (C[i]).v.ownBlock = some x → x ≠ q ∧ x ≠ gc ∧ x ≠ gl
  pair : ∀ i j (hi : i < C.length) (hj : j < C.length) x, i ≠ j → (C[i]).v.ownBlock = some x → (C[j]).v.ownBlock = some x → False
  clo : 1 ≤ C.length
  chi : C.length ≤ 8
  len : ∀ i (hi : i < C.length), (C[i]).R.length ≤ 256
  small : ∀ i (hi : i < C.length), ∀ r ∈ (C[i]).R, r.small

theorem mem_rb {q gc gl x : Nat} {C : List Co} : x ∈ rb q gc gl C ↔ x = q ∨ x = gc ∨ x = gl ∨ ∃ i, ∃ (hi : i < C.length), (C[i]).v.ownBlock = some x := by
  unfold rb
  simp only [List.mem_cons, List.mem_filterMap]
  constructor
  · rintro (h | h | h | ⟨c, hc, h⟩)
    · exact Or.inl h
    · exact Or.inr (Or.inl h)
    · exact Or.inr (Or.inr (Or.inl h))
    · obtain ⟨i, hi, rfl⟩ := List.getElem_of_mem hc
      exact Or.inr (Or.inr (Or.inr ⟨i, hi, h⟩))
  · rintro (h | h | h | ⟨i, hi, h⟩)
    · exact Or.inl h
    · exact Or.inr (Or.inl h)
    · exact Or.inr (Or.inr (Or.inl h))
    · exact Or.inr (Or.inr (Or.inr ⟨_, List.getElem_mem hi, h⟩))

theorem Re.lt {H : Nat} {w : World} {q gc gl : Nat} {C : List Co} (h : Re H w q gc gl C) : ∀ x ∈ rb q gc gl C, H ≤ x ∧ x < w.heap.size := fun x hx => by
  rcases mem_rb.1 hx with rfl | rfl | rfl | ⟨i, hi, hb⟩
  · exact ⟨h.hq, lt_of_heap h.main⟩
  · exact ⟨h.hc, lt_of_heap h.cors⟩
  · exact ⟨h.hl, lt_of_heap h.las⟩
  · exact (h.each i hi).block x hb

theorem Re.kept {H : Nat} {w w' : World} {q gc gl : Nat} {C : List Co} {F : List Nat} (h : Re H w q gc gl C) (k : Kept F w w') (hF : ∀ x ∈ F, x ∉ rb q gc gl C) : Re H w' q gc gl C where
  main := by rw [k.block q (lt_of_heap h.main) (fun hm => hF q hm (mem_rb.2 (Or.inl rfl)))]; exact h.main
  cors := by rw [k.block gc (lt_of_heap h.cors) (fun hm => hF gc hm (mem_rb.2 (Or.inr (Or.inl rfl))))]; exact h.cors
  las := by rw [k.block gl (lt_of_heap h.las) (fun hm => hF gl hm (mem_rb.2 (Or.inr (Or.inr (Or.inl rfl)))))]; exact h.las
  each := fun i hi => (h.each i hi).kept k (fun x hx e => hF x hx (mem_rb.2 (Or.inr (Or.inr (Or.inr ⟨i, hi, e⟩)))))
  n1 := h.n1
  n2 := h.n2
  n3 := h.n3
  hq := h.hq
  hc := h.hc
  hl := h.hl
  off := h.off
  pair := h.pair
  clo := h.clo
  chi := h.chi
  len := h.len
  small := h.small

theorem Re.kept0 {H : Nat} {w w' : World} {q gc gl : Nat} {C : List Co} (h : Re H w q gc gl C) (k : Kept [] w w') : Re H w' q gc gl C := h.kept k (by simp)

theorem Re.box {H : Nat} {w : World} {q gc gl : Nat} {C : List Co} (h : Re H w q gc gl C) : w.cell? ⟨q, 0, none⟩ = some (.slice (some ⟨gc, 0, none⟩) C.length C.length) ∧ w.cell? ⟨q, 1, none⟩ = some (.slice (some ⟨gl, 0, none⟩) C.length C.length) := ⟨cellB h.main, cellB h.main⟩

theorem Re.row {H : Nat} {w : World} {q gc gl : Nat} {C : List Co} (h : Re H w q gc gl C) {i : Nat} (hi : i < C.length) : w.cell? ⟨gc, i, none⟩ = some (C[i]).v := by
  rw [cellB h.cors]; simp [hi]

theorem Re.last {H : Nat} {w : World} {q gc gl : Nat} {C : List Co} (h : Re H w q gc gl C) {i : Nat} (hi : i < C.length) : w.cell? ⟨gl, i * 2, none⟩ = some (.int .i64 (C[i]).a) ∧ w.cell? ⟨gl, i * 2 + 1, none⟩ = some (.int .i64 (C[i]).k) := by
  obtain ⟨q1, q2⟩ := laC_get C i _ (List.getElem?_eq_getElem hi)
  have f : ∀ j, w.cell? ⟨gl, j, none⟩ = (laC C)[j]? := fun j => by rw [cellB h.las]; simp
  rw [f, f]
  exact ⟨q1, q2⟩

/-- A core's row is another now, its last stamp too. -/
theorem Re.put {H : Nat} {w w1 w2 : World} {q gc gl : Nat} {C : List Co} (h : Re H w q gc gl C) {i : Nat} (hi : i < C.length) (c : Co) (hK : Kept (C[i]).v.ownBlock.toList w w1) (hr : Rr w1 H c.v c.R) (hat : ∀ x, c.v.ownBlock = some x → (C[i]).v.ownBlock = some x ∨ w.heap.size ≤ x) (hlen : c.R.length ≤ 256) (hsm : ∀ r ∈ c.R, r.small) (hK2 : Kept [gc, gl] w1 w2) (hcors : w2.heap[gc]? = some (.cells ((C.set i c).map Co.v).toArray 44 (0, 0))) (hlas : w2.heap[gl]? = some (.cells (laC (C.set i c)).toArray 35 (0, 0))) :
    Re H w2 q gc gl (C.set i c) ∧ ∀ x ∈ rb q gc gl (C.set i c), x ∈ rb q gc gl C ∨ w.heap.size ≤ x := by
  have ltq := lt_of_heap h.main
  have ltc := lt_of_heap h.cors
  have ltl := lt_of_heap h.las
  have offb : ∀ x, x ∈ (C[i]).v.ownBlock.toList → (C[i]).v.ownBlock = some x := fun x hx => by simpa using hx
  have newc : ∀ x, c.v.ownBlock = some x → x ≠ q ∧ x ≠ gc ∧ x ≠ gl := fun x e => by
    rcases hat x e with h1 | h1
    · exact h.off i hi x h1
    · omega
  have k2o : ∀ x, x ∈ [gc, gl] → x = gc ∨ x = gl := fun x hx => by simpa using hx
  have other : ∀ j (hj : j < C.length), i ≠ j → Rr w2 H (C[j]).v (C[j]).R := fun j hj hij => by
    have h1 : Rr w1 H (C[j]).v (C[j]).R := (h.each j hj).kept hK (fun x hx e => h.pair i j hi hj x hij (offb x hx) e)
    exact h1.kept hK2 (fun x hx e => by
      have h2 := h.off j hj x e
      rcases k2o x hx with h3 | h3
      · exact h2.2.1 h3
      · exact h2.2.2 h3)
  have gs : ∀ j (hj : j < (C.set i c).length), (j = i ∧ (C.set i c)[j] = c) ∨ (i ≠ j ∧ ∃ hj' : j < C.length, (C.set i c)[j] = C[j]) := fun j hj => by
    have hj' : j < C.length := by simpa using hj
    by_cases e : j = i
    · subst e; exact Or.inl ⟨rfl, by simp⟩
    · exact Or.inr ⟨fun e' => e e'.symm, hj', by rw [List.getElem_set_ne (fun e' => e e'.symm)]⟩
  have oldp : ∀ j (hj : j < C.length) x, i ≠ j → c.v.ownBlock = some x → (C[j]).v.ownBlock = some x → False := fun j hj x hij e1 e2 => by
    rcases hat x e1 with h1 | h1
    · exact h.pair i j hi hj x hij h1 e2
    · have := ((h.each j hj).block x e2).2; omega
  refine ⟨⟨?_, hcors, hlas, ?_, h.n1, h.n2, h.n3, h.hq, h.hc, h.hl, ?_, ?_, by simpa using h.clo, by simpa using h.chi, ?_, ?_⟩, ?_⟩
  · rw [hK2.block q (Nat.lt_of_lt_of_le ltq hK.size) (by simp; exact ⟨h.n1, h.n2⟩), hK.block q ltq (fun hm => (h.off i hi q (offb q hm)).1 rfl), h.main]
    simp
  · intro j hj
    rcases gs j hj with ⟨rfl, e⟩ | ⟨hij, hj', e⟩
    · rw [e]; exact hr.kept hK2 (fun x hx e2 => by
        have h2 := newc x e2
        rcases k2o x hx with h3 | h3
        · exact h2.2.1 h3
        · exact h2.2.2 h3)
    · rw [e]; exact other j hj' hij
  · intro j hj x hx
    rcases gs j hj with ⟨rfl, e⟩ | ⟨hij, hj', e⟩
    · rw [e] at hx; exact newc x hx
    · rw [e] at hx; exact h.off j hj' x hx
  · intro j l hj hl x hjl hx hy
    rcases gs j hj with ⟨rfl, e⟩ | ⟨hij, hj', e⟩
    · rcases gs l hl with ⟨rfl, e2⟩ | ⟨hil, hl', e2⟩
      · exact hjl rfl
      · rw [e] at hx; rw [e2] at hy; exact oldp l hl' x hil hx hy
    · rcases gs l hl with ⟨rfl, e2⟩ | ⟨hil, hl', e2⟩
      · rw [e] at hx; rw [e2] at hy; exact oldp j hj' x hij hy hx
      · rw [e] at hx; rw [e2] at hy; exact h.pair j l hj' hl' x hjl hx hy
  · intro j hj
    rcases gs j hj with ⟨rfl, e⟩ | ⟨hij, hj', e⟩
    · rw [e]; exact hlen
    · rw [e]; exact h.len j hj'
  · intro j hj
    rcases gs j hj with ⟨rfl, e⟩ | ⟨hij, hj', e⟩
    · rw [e]; exact hsm
    · rw [e]; exact h.small j hj'
  · intro x hx
    rcases mem_rb.1 hx with rfl | rfl | rfl | ⟨j, hj, hb⟩
    · exact Or.inl (mem_rb.2 (Or.inl rfl))
    · exact Or.inl (mem_rb.2 (Or.inr (Or.inl rfl)))
    · exact Or.inl (mem_rb.2 (Or.inr (Or.inr (Or.inl rfl))))
    · rcases gs j hj with ⟨rfl, e⟩ | ⟨hij, hj', e⟩
      · rw [e] at hb
        rcases hat x hb with h1 | h1
        · exact Or.inl (mem_rb.2 (Or.inr (Or.inr (Or.inr ⟨j, hi, h1⟩))))
        · exact Or.inr h1
      · rw [e] at hb; exact Or.inl (mem_rb.2 (Or.inr (Or.inr (Or.inr ⟨j, hj', hb⟩))))

end Go.Proofs.Ytlecpeofjabndaa
