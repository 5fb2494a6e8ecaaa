/-
  What lies in memory of an arena (package arena) and of the reference's: the representation of its state in the heap, and what is kept by a call.
-/
import Derived.Test.YtolbjmckebicfaaRows
import Derived.WalkKit
import Derived.WalkSpells
import Derived.WalkLawsBesides
import Derived.Deep.Draws
import Derived.Deep.AppendLies
namespace Go.Proofs.Ytolbjmckebicfaa
open Go.RowKit

/-- A row of ints as cells. -/
def i64s (xs : List Int) : Array Value := (xs.map (Value.int .i64)).toArray

theorem size_i64s (xs : List Int) : (i64s xs).size = xs.length := by simp [i64s]

/-- A word of a row (0 behind its end). -/
def wordAt (xs : List Int) (i : Nat) : Int := xs.getD i 0

/-- All blocks of w but those of F are in w' as they were. -/
structure Kept (F : List Nat) (w w' : World) : Prop where
  os : w'.os = w.os
  tape : w'.tape = w.tape
  output : w'.output = w.output
  size : w.heap.size ≤ w'.heap.size
  block : ∀ k, k < w.heap.size → k ∉ F → w'.heap[k]? = w.heap[k]?

theorem nor {F : List Nat} {i n : Nat} (hF : i ∉ F) (hi : i < n) (h : i ∈ F ∨ n ≤ i) : False := by
  rcases h with h | h
  · exact hF h
  · omega

theorem Kept.refl (F : List Nat) (w : World) : Kept F w w := ⟨rfl, rfl, rfl, Nat.le_refl _, fun _ _ _ => rfl⟩

/-- One behind the other: what the second turns was turned by the first, or is new. -/
theorem Kept.trans {F G : List Nat} {a b c : World} (h : Kept F a b) (k : Kept G b c) (hG : ∀ x ∈ G, x ∈ F ∨ a.heap.size ≤ x) : Kept F a c :=
  ⟨k.os.trans h.os, k.tape.trans h.tape, k.output.trans h.output, Nat.le_trans h.size k.size, fun i hi hF =>
    (k.block i (Nat.lt_of_lt_of_le hi h.size) (fun hm => by exact nor hF hi (hG i hm))).trans (h.block i hi hF)⟩

theorem Kept.mono {F G : List Nat} {a b : World} (h : Kept F a b) (hG : ∀ x ∈ F, x ∈ G ∨ a.heap.size ≤ x) : Kept G a b :=
  ⟨h.os, h.tape, h.output, h.size, fun i hi hF => h.block i hi (fun hm => by exact nor hF hi (hG i hm))⟩

theorem Kept.drew {F : List Nat} {a w : World} (h : Kept F a w) : Kept F a w.drew := ⟨h.os, h.tape, h.output, h.size, h.block⟩

theorem Kept.drewN {F : List Nat} {a w : World} (h : Kept F a w) (n : Nat) : Kept F a (w.drewN n) := ⟨h.os, h.tape, h.output, h.size, h.block⟩

theorem Kept.alloc {F : List Nat} {a w : World} (h : Kept F a w) (o : Obj) : Kept F a (w.alloc o) :=
  ⟨h.os, h.tape, h.output, by have := h.size; simp; omega, fun i hi hF => by rw [Below.heap_alloc _ _ _ (Nat.lt_of_lt_of_le hi h.size)]; exact h.block i hi hF⟩

theorem Kept.setCell {F : List Nat} {a w : World} (h : Kept F a w) {p : Addr} (hp : p.block ∈ F ∨ a.heap.size ≤ p.block) (u : Value) : Kept F a (w.setCell p u) :=
  ⟨h.os, h.tape, h.output, by have := h.size; simpa using this, fun i hi hF => by
    rw [Below.heap_setCell _ _ _ _ (fun e => nor hF hi (by rw [e]; exact hp))]; exact h.block i hi hF⟩

theorem Kept.setRow {F : List Nat} {a w : World} (h : Kept F a w) {g : Nat} (hp : g ∈ F ∨ a.heap.size ≤ g) (cs : Array Value) : Kept F a (w.setRow g cs) :=
  ⟨h.os, h.tape, h.output, by have := h.size; simpa using this, fun i hi hF => by
    have : (w.setRow g cs).heap[i]? = w.heap[i]? := by
      simp only [World.setRow, Array.getElem?_modify]
      rw [if_neg (fun e => nor hF hi (by rw [← e]; exact hp))]
    rw [this]; exact h.block i hi hF⟩

theorem Kept.below {F : List Nat} {B : Nat} {a w : World} (h : Kept F a w) (hB : B ≤ a.heap.size) (hF : ∀ x ∈ F, B ≤ x) : Below B a w :=
  ⟨h.os, h.tape, h.output, h.size, fun i hi => h.block i (by omega) (fun hm => by have := hF i hm; omega)⟩


theorem Kept.cell {F : List Nat} {w w' : World} (h : Kept F w w') {x i : Nat} {v : Value} (ha : w.cell? ⟨x, i, none⟩ = some v) (hF : x ∉ F) : w'.cell? ⟨x, i, none⟩ = some v := by
  rw [World.cell?_of_block (a := ⟨x, i, none⟩) (h.block x (block_lt_of_cell ha) hF)]; exact ha

theorem Kept.grown {F : List Nat} {a w w' : World} {r : Option Nat} (h : Kept F a w) (hg : w.grownBy w' r) (hr : ∀ k, r = some k → k ∈ F ∨ a.heap.size ≤ k) : Kept F a w' :=
  ⟨hg.os.trans h.os, hg.tape.trans h.tape, hg.output.trans h.output, Nat.le_trans h.size hg.size, fun i hi hF => by
    rw [hg.block i (Nat.lt_of_lt_of_le hi h.size) (fun e => nor hF hi (hr i e.symm))]; exact h.block i hi hF⟩

theorem lt_of_heap {w : World} {k : Nat} {o : Obj} (h : w.heap[k]? = some o) : k < w.heap.size := (Array.getElem?_eq_some_iff.1 h).1

/-- Accesses as cells. -/
def acc (t : List (Int × Bool)) : List Value := t.flatMap fun x => [.int .i64 x.1, .bool x.2]

theorem acc_length (t : List (Int × Bool)) : (acc t).length = t.length * 2 := by
  unfold acc
  induction t with
  | nil => rfl
  | cons x t ih => simp only [List.flatMap_cons, List.length_append, List.length_cons, List.length_nil] at *; omega

theorem acc_append (s t : List (Int × Bool)) : acc (s ++ t) = acc s ++ acc t := by simp [acc]

theorem acc_get (t : List (Int × Bool)) : ∀ i x, t[i]? = some x → (acc t)[i * 2]? = some (.int .i64 x.1) ∧ (acc t)[i * 2 + 1]? = some (.bool x.2) := by
  induction t with
  | nil => intro i x h; simp at h
  | cons y t ih =>
    intro i x h
    cases i with
    | zero => simp at h; subst h; simp [acc]
    | succ i =>
      have := ih i x (by simpa using h)
      have e : acc (y :: t) = .int .i64 y.1 :: .bool y.2 :: acc t := by simp [acc]
      rw [e, show (i + 1) * 2 = i * 2 + 1 + 1 by omega]
      simpa using this

/-- The state of an arena: its words, and by core the accesses. -/
structure Ar where
  words : List Int
  traces : List (List (Int × Bool))

/-- Where it lies: the struct's block, the words', the traces', and each core's slice. -/
structure Ap where
  b : Nat
  bw : Nat
  bt : Nat
  vs : List Value

def Ap.blocks (p : Ap) : List Nat := p.b :: p.bw :: p.bt :: p.vs.filterMap Value.ownBlock

/-- A core's slice holds its accesses. -/
def Row (w : World) (v : Value) (t : List (Int × Bool)) : Prop := w.ownsRow 0 63 2 v t.length (acc t) ∧ (t = [] → v = .slice none 0 0)

structure ArIs (T : TypeId) (w : World) (p : Ap) (A : Ar) : Prop where
  lo : 1 ≤ A.words.length
  hi : A.words.length ≤ 65536
  clo : 1 ≤ A.traces.length
  chi : A.traces.length ≤ 8
  main : w.heap[p.b]? = some (.cells #[.slice (some ⟨p.bw, 0, none⟩) A.words.length A.words.length, .slice (some ⟨p.bt, 0, none⟩) A.traces.length A.traces.length] T (0, 0))
  words : w.heap[p.bw]? = some (.cells (i64s A.words) 3 (0, 0))
  slots : w.heap[p.bt]? = some (.cells p.vs.toArray 44 (0, 0))
  len : p.vs.length = A.traces.length
  each : ∀ (i : Nat) v t, p.vs[i]? = some v → A.traces[i]? = some t → Row w v t
  n1 : p.b ≠ p.bw
  n2 : p.b ≠ p.bt
  n4 : p.bw ≠ p.bt
  off : ∀ (i : Nat) v k, p.vs[i]? = some v → v.ownBlock = some k → k ≠ p.b ∧ k ≠ p.bw ∧ k ≠ p.bt
  pair : ∀ (i j : Nat) x y k, i ≠ j → p.vs[i]? = some x → p.vs[j]? = some y → x.ownBlock = some k → y.ownBlock = some k → False

theorem Row.block {w : World} {v : Value} {t : List (Int × Bool)} (h : Row w v t) : ∀ k, v.ownBlock = some k → k < w.heap.size := fun k hk => (h.1.lt k hk).2

theorem ArIs.row {T : TypeId} {w : World} {p : Ap} {A : Ar} (h : ArIs T w p A) {i : Nat} (hi : i < A.traces.length) : ∃ v, p.vs[i]? = some v ∧ Row w v (A.traces.getD i []) := by
  have hv : i < p.vs.length := by rw [h.len]; exact hi
  refine ⟨p.vs[i], List.getElem?_eq_getElem hv, h.each i _ _ (List.getElem?_eq_getElem hv) ?_⟩
  simp [List.getD, List.getElem?_eq_getElem hi]

theorem ArIs.blocks_lt {T : TypeId} {w : World} {p : Ap} {A : Ar} (h : ArIs T w p A) : ∀ k ∈ p.blocks, k < w.heap.size := by
  intro k hk
  simp only [Ap.blocks, List.mem_cons, List.mem_filterMap] at hk
  rcases hk with rfl | rfl | rfl | ⟨v, hv, hk⟩
  · exact lt_of_heap h.main
  · exact lt_of_heap h.words
  · exact lt_of_heap h.slots
  · obtain ⟨i, hi, rfl⟩ := List.getElem_of_mem hv
    have hi2 : i < A.traces.length := by rw [← h.len]; exact hi
    exact (h.each i _ _ (List.getElem?_eq_getElem hi) (List.getElem?_eq_getElem hi2)).block k hk

theorem Row.same {w w' : World} {v : Value} {t : List (Int × Bool)} (h : Row w v t) (hk : ∀ k, v.ownBlock = some k → w'.heap[k]? = w.heap[k]?) : Row w' v t := by
  refine ⟨⟨h.1.1, ?_⟩, h.2⟩
  rcases h.1.2 with hn | ⟨g, cap, cur, rfl, hb, hgg, rest⟩
  · exact .inl hn
  · exact .inr ⟨g, cap, cur, rfl, hb, by rw [hk g rfl]; exact hgg, rest⟩

/-- An arena whose blocks are as they were is as it was. -/
theorem ArIs.same {T : TypeId} {w w' : World} {p : Ap} {A : Ar} (h : ArIs T w p A) (hk : ∀ k ∈ p.blocks, w'.heap[k]? = w.heap[k]?) : ArIs T w' p A where
  lo := h.lo
  hi := h.hi
  clo := h.clo
  chi := h.chi
  main := by rw [hk p.b (by simp [Ap.blocks])]; exact h.main
  words := by rw [hk p.bw (by simp [Ap.blocks])]; exact h.words
  slots := by rw [hk p.bt (by simp [Ap.blocks])]; exact h.slots
  len := h.len
  each := fun i v t hv ht => (h.each i v t hv ht).same fun k e => hk k (by
    simp only [Ap.blocks, List.mem_cons, List.mem_filterMap]
    exact Or.inr (Or.inr (Or.inr ⟨v, List.mem_of_getElem? hv, e⟩)))
  n1 := h.n1
  n2 := h.n2
  n4 := h.n4
  off := h.off
  pair := h.pair

theorem ArIs.kept {T : TypeId} {w w' : World} {p : Ap} {A : Ar} {F : List Nat} (h : ArIs T w p A) (hk : Kept F w w') (hd : ∀ k ∈ p.blocks, k ∉ F) : ArIs T w' p A :=
  h.same fun k hm => hk.block k (h.blocks_lt k hm) (hd k hm)

theorem ArIs.kept0 {T : TypeId} {w w' : World} {p : Ap} {A : Ar} (h : ArIs T w p A) (hk : Kept [] w w') : ArIs T w' p A := h.kept hk (by simp)

theorem ArIs.cell {T : TypeId} {w : World} {p : Ap} {A : Ar} (h : ArIs T w p A) : w.cell? ⟨p.b, 0, none⟩ = some (.slice (some ⟨p.bw, 0, none⟩) A.words.length A.words.length) ∧ w.cell? ⟨p.b, 1, none⟩ = some (.slice (some ⟨p.bt, 0, none⟩) A.traces.length A.traces.length) := by
  simp [World.cell?, h.main]

theorem ArIs.word {T : TypeId} {w : World} {p : Ap} {A : Ar} (h : ArIs T w p A) {i : Nat} (hi : i < A.words.length) : w.cell? ⟨p.bw, i, none⟩ = some (.int .i64 (wordAt A.words i)) := by
  simp [World.cell?, h.words, i64s, wordAt, List.getD, hi]

theorem ArIs.slot {T : TypeId} {w : World} {p : Ap} {A : Ar} (h : ArIs T w p A) {i : Nat} {v : Value} (hv : p.vs[i]? = some v) : w.cell? ⟨p.bt, i, none⟩ = some v := by
  simp [World.cell?, h.slots, hv]

theorem block_frozen {w : World} {b : Nat} {cs : Array Value} {t : TypeId} (h : w.heap[b]? = some (.cells cs t (0, 0))) (i : Nat) : w.frozen? ⟨b, i, none⟩ = false := by
  simp [World.frozen?, h]

theorem block_set {w : World} {b i : Nat} {cs : Array Value} {t : TypeId} (h : w.heap[b]? = some (.cells cs t (0, 0))) (v : Value) : (w.setCell ⟨b, i, none⟩ v).heap[b]? = some (.cells (cs.setIfInBounds i v) t (0, 0)) :=
  heap_setCell_same w b i cs t v h

theorem block_other {w : World} {b i x : Nat} {v : Value} (hx : x ≠ b) : (w.setCell ⟨b, i, none⟩ v).heap[x]? = w.heap[x]? := Below.heap_setCell _ _ _ _ (by simpa using hx)

theorem cell_other {w : World} {b i x j : Nat} {v u : Value} (h : w.cell? ⟨x, j, none⟩ = some u) (hx : x ≠ b) : (w.setCell ⟨b, i, none⟩ v).cell? ⟨x, j, none⟩ = some u := by
  rw [World.cell?_of_block (w := w) (a := ⟨x, j, none⟩) (block_other hx)]; exact h

/-- A word is v now. -/
theorem ArIs.setWord {T : TypeId} {w : World} {p : Ap} {A : Ar} (h : ArIs T w p A) (i : Nat) (v : Int) : ArIs T (w.setCell ⟨p.bw, i, none⟩ (.int .i64 v)) p { A with words := A.words.set i v } := by
  refine ⟨by simpa using h.lo, by simpa using h.hi, h.clo, h.chi, ?_, ?_, ?_, h.len, ?_, h.n1, h.n2, h.n4, h.off, h.pair⟩
  · rw [block_other h.n1, h.main]; simp
  · rw [block_set h.words]; simp [i64s, List.map_set]
  · rw [block_other (Ne.symm h.n4)]; exact h.slots
  · intro j v t hv ht
    exact (h.each j v t hv ht).same fun k e => block_other (h.off j v k hv e).2.1

/-- From one place to another: what the second names was the first's, or is new. -/
structure ATo (G : List Nat) (w : World) (p : Ap) (w' : World) (p' : Ap) : Prop where
  b : p'.b = p.b
  kept : Kept (G ++ p.blocks) w w'
  new : ∀ k ∈ p'.blocks, k ∈ p.blocks ∨ w.heap.size ≤ k

/-- Core i's slice is another now, its accesses too. -/
theorem ArIs.setSlot {T : TypeId} {w w1 : World} {p : Ap} {A : Ar} (h : ArIs T w p A) {i : Nat} {u v : Value} (hu : p.vs[i]? = some u) (t : List (Int × Bool)) (hg : w.grownBy w1 u.ownBlock) (hr : Row w1 v t) (hat : ∀ k, v.ownBlock = some k → u.ownBlock = some k ∨ w.heap.size ≤ k) :
    ArIs T (w1.setCell ⟨p.bt, i, none⟩ v) { p with vs := p.vs.set i v } { A with traces := A.traces.set i t } := by
  have hi : i < p.vs.length := (List.getElem?_eq_some_iff.1 hu).1
  have ltb := lt_of_heap h.main
  have ltw := lt_of_heap h.words
  have lts := lt_of_heap h.slots
  have hb : w1.heap[p.b]? = w.heap[p.b]? := hg.block _ ltb fun e => (h.off i u _ hu e.symm).1 rfl
  have hw : w1.heap[p.bw]? = w.heap[p.bw]? := hg.block _ ltw fun e => (h.off i u _ hu e.symm).2.1 rfl
  have hs : w1.heap[p.bt]? = w.heap[p.bt]? := hg.block _ lts fun e => (h.off i u _ hu e.symm).2.2 rfl
  have hvt : ∀ k, v.ownBlock = some k → k ≠ p.b ∧ k ≠ p.bw ∧ k ≠ p.bt := fun k e => by
    rcases hat _ e with h2 | h2
    · exact h.off i u k hu h2
    · omega
  refine ⟨h.lo, h.hi, by simpa using h.clo, by simpa using h.chi, ?_, ?_, ?_, by simpa using h.len, ?_, h.n1, h.n2, h.n4, ?_, ?_⟩
  · show (w1.setCell ⟨p.bt, i, none⟩ v).heap[p.b]? = _
    rw [block_other h.n2, hb, h.main]; simp
  · show (w1.setCell ⟨p.bt, i, none⟩ v).heap[p.bw]? = _
    rw [block_other h.n4, hw]; exact h.words
  · show (w1.setCell ⟨p.bt, i, none⟩ v).heap[p.bt]? = _
    rw [block_set (by rw [hs]; exact h.slots)]; simp
  · intro j x s hx hs2
    by_cases hij : i = j
    · subst hij
      simp only [List.getElem?_set_self hi] at hx
      have hi2 : i < A.traces.length := by rw [← h.len]; exact hi
      simp only [List.getElem?_set_self hi2] at hs2
      cases hx; cases hs2
      exact hr.same fun k e => block_other (hvt k e).2.2
    · simp only [List.getElem?_set_ne hij] at hx hs2
      have hj := h.each j x s hx hs2
      have h1 : Row w1 x s := hj.same fun k e => hg.block k (hj.block k e) fun e2 => h.pair i j u x k hij hu hx e2.symm e
      exact h1.same fun k e => block_other (h.off j x k hx e).2.2
  · intro j x k hx e
    by_cases hij : i = j
    · subst hij
      simp only [List.getElem?_set_self hi] at hx
      cases hx
      exact hvt k e
    · simp only [List.getElem?_set_ne hij] at hx
      exact h.off j x k hx e
  · intro j l x y k hjl hx hy ex ey
    have old : ∀ j x, i ≠ j → p.vs[j]? = some x → x.ownBlock = some k → v.ownBlock = some k → False := fun j x hij hx e ev => by
      rcases hat _ ev with h2 | h2
      · exact h.pair i j u x k hij hu hx h2 e
      · have hjl : j < A.traces.length := by rw [← h.len]; exact (List.getElem?_eq_some_iff.1 hx).1
        have := (h.each j x _ hx (List.getElem?_eq_getElem hjl)).block k e
        omega
    by_cases hij : i = j
    · subst hij
      simp only [List.getElem?_set_self hi] at hx
      simp only [List.getElem?_set_ne hjl] at hy
      cases hx
      exact old l y hjl hy ey ex
    · simp only [List.getElem?_set_ne hij] at hx
      by_cases hil : i = l
      · subst hil
        simp only [List.getElem?_set_self hi] at hy
        cases hy
        exact old j x hij hx ex ey
      · simp only [List.getElem?_set_ne hil] at hy
        exact h.pair j l x y k hjl hx hy ex ey

theorem ArIs.setSlot_new {w : World} {p : Ap} {i : Nat} {u v : Value} (hu : p.vs[i]? = some u) (hat : ∀ k, v.ownBlock = some k → u.ownBlock = some k ∨ w.heap.size ≤ k) : ∀ k ∈ ({ p with vs := p.vs.set i v } : Ap).blocks, k ∈ p.blocks ∨ w.heap.size ≤ k := by
  intro k hk
  simp only [Ap.blocks, List.mem_cons, List.mem_filterMap] at hk ⊢
  rcases hk with h | h | h | ⟨x, hx, e⟩
  · exact Or.inl (Or.inl h)
  · exact Or.inl (Or.inr (Or.inl h))
  · exact Or.inl (Or.inr (Or.inr (Or.inl h)))
  · rcases List.mem_or_eq_of_mem_set hx with h2 | rfl
    · exact Or.inl (Or.inr (Or.inr (Or.inr ⟨x, h2, e⟩)))
    · rcases hat _ e with h3 | h3
      · exact Or.inl (Or.inr (Or.inr (Or.inr ⟨u, List.mem_of_getElem? hu, h3⟩)))
      · exact Or.inr h3

theorem ATo.still {w w' : World} {p : Ap} (h : Kept [] w w') : ATo [] w p w' p := ⟨rfl, h.mono (by simp), fun k hk => Or.inl hk⟩

theorem ATo.trans {G : List Nat} {a b c : World} {p q r : Ap} (h : ATo G a p b q) (k : ATo G b q c r) : ATo G a p c r :=
  ⟨k.b.trans h.b, h.kept.trans k.kept (by
    intro x hx
    rcases List.mem_append.1 hx with h1 | h1
    · exact Or.inl (List.mem_append.2 (Or.inl h1))
    · rcases h.new x h1 with h2 | h2
      · exact Or.inl (List.mem_append.2 (Or.inr h2))
      · exact Or.inr h2), fun x hx => by
    rcases k.new x hx with h1 | h1
    · exact h.new x h1
    · exact Or.inr (Nat.le_trans h.kept.size h1)⟩

theorem ATo.more {G H : List Nat} {a b : World} {p q : Ap} (h : ATo G a p b q) (hG : ∀ x ∈ G, x ∈ H ∨ a.heap.size ≤ x) : ATo H a p b q :=
  ⟨h.b, h.kept.mono (fun x hx => by
    rcases List.mem_append.1 hx with h1 | h1
    · rcases hG x h1 with h2 | h2
      · exact Or.inl (List.mem_append.2 (Or.inl h2))
      · exact Or.inr h2
    · exact Or.inl (List.mem_append.2 (Or.inr h1))), h.new⟩

end Go.Proofs.Ytolbjmckebicfaa
