/-
  An arena, and two rows of the caller's own beside it.
-/
import Derived.Test.YtkaijfpenokmbaaFacts
namespace Go.Proofs.Ytkaijfpenokmbaa
open Go.RowKit

def bools (xs : List Bool) : Array Value := (xs.map Value.bool).toArray

/-- A block that is none of the arena's, made since w0. -/
def Side (w0 w : World) (p : Ap) (g : Nat) (o : Obj) : Prop := w0.heap.size ≤ g ∧ g ∉ p.blocks ∧ w.heap[g]? = some o

def Has2 (w0 w : World) (b : Nat) (A : Ar) (bs bh : Nat) (s : List Int) (h : List Bool) : Prop :=
  Kept [] w0 w ∧ bs ≠ bh ∧ ∃ p, p.b = b ∧ (∀ k ∈ p.blocks, w0.heap.size ≤ k) ∧ ArIs 61 w p A ∧ Side w0 w p bs (.cells (i64s s) 3 (0, 0)) ∧ Side w0 w p bh (.cells (bools h) 4 (0, 0))

theorem Side.to {w0 w w' : World} {p p' : Ap} {g : Nat} {o : Obj} (h : Side w0 w p g o) (ht : ATo [] w p w' p') : Side w0 w' p' g o := by
  obtain ⟨h1, h2, h3⟩ := h
  have hlt := lt_of_heap h3
  refine ⟨h1, fun hm => ?_, ?_⟩
  · rcases ht.new g hm with h4 | h4
    · exact h2 h4
    · omega
  · rw [ht.kept.block g hlt (by simpa using h2)]
    exact h3

theorem Side.other {w0 w : World} {p : Ap} {g x i : Nat} {o : Obj} (h : Side w0 w p g o) (hx : g ≠ x) (v : Value) : Side w0 (w.setCell ⟨x, i, none⟩ v) p g o :=
  ⟨h.1, h.2.1, by rw [block_other hx]; exact h.2.2⟩

theorem Has2.to {w0 w w' : World} {p p' : Ap} {A : Ar} {bs bh : Nat} {s : List Int} {h : List Bool} (hK : Kept [] w0 w) (hf : ∀ k ∈ p.blocks, w0.heap.size ≤ k) (hn : bs ≠ bh) (hs : Side w0 w p bs (.cells (i64s s) 3 (0, 0))) (hh : Side w0 w p bh (.cells (bools h) 4 (0, 0)))
    (ht : ATo [] w p w' p') (ha : ArIs 61 w' p' A) : Has2 w0 w' p.b A bs bh s h := by
  refine ⟨hK.trans ht.kept (fun x hx => Or.inr (hf x (by simpa using hx))), hn, p', ht.b, fun k hk => ?_, ha, hs.to ht, hh.to ht⟩
  rcases ht.new k hk with h1 | h1
  · exact hf k h1
  · exact Nat.le_trans hK.size h1

theorem Has2.setSeen {w0 w : World} {b : Nat} {A : Ar} {bs bh : Nat} {s : List Int} {h : List Bool} (x : Has2 w0 w b A bs bh s h) (i : Nat) (v : Int) : Has2 w0 (w.setCell ⟨bs, i, none⟩ (.int .i64 v)) b A bs bh (s.set i v) h := by
  obtain ⟨hK, hn, p, hb, hf, hm, hs, hh⟩ := x
  refine ⟨hK.setCell (Or.inr hs.1) _, hn, p, hb, hf, hm.same fun k hk => block_other fun e => hs.2.1 (e ▸ hk), ⟨hs.1, hs.2.1, ?_⟩, hh.other (Ne.symm hn) _⟩
  rw [block_set hs.2.2]
  simp [i64s, List.map_set]

theorem Has2.setHas {w0 w : World} {b : Nat} {A : Ar} {bs bh : Nat} {s : List Int} {h : List Bool} (x : Has2 w0 w b A bs bh s h) (i : Nat) (v : Bool) : Has2 w0 (w.setCell ⟨bh, i, none⟩ (.bool v)) b A bs bh s (h.set i v) := by
  obtain ⟨hK, hn, p, hb, hf, hm, hs, hh⟩ := x
  refine ⟨hK.setCell (Or.inr hh.1) _, hn, p, hb, hf, hm.same fun k hk => block_other fun e => hh.2.1 (e ▸ hk), hs.other hn _, ⟨hh.1, hh.2.1, ?_⟩⟩
  rw [block_set hh.2.2]
  simp [bools, List.map_set]

theorem Has2.still {w0 w w' : World} {b : Nat} {A : Ar} {bs bh : Nat} {s : List Int} {h : List Bool} (x : Has2 w0 w b A bs bh s h) (hk : Kept [] w w') : Has2 w0 w' b A bs bh s h := by
  obtain ⟨hK, hn, p, rfl, hf, hm, hs, hh⟩ := x
  exact Has2.to hK hf hn hs hh (ATo.still hk) (hm.kept0 hk)

theorem Has2.seen {w0 w : World} {b : Nat} {A : Ar} {bs bh : Nat} {s : List Int} {h : List Bool} (x : Has2 w0 w b A bs bh s h) {i : Nat} (hi : i < s.length) : w.cell? ⟨bs, i, none⟩ = some (.int .i64 (wordAt s i)) ∧ w.frozen? ⟨bs, i, none⟩ = false := by
  obtain ⟨hK, hn, p, hb, hf, hm, hs, hh⟩ := x
  exact ⟨by simp [World.cell?, hs.2.2, i64s, wordAt, List.getD, hi], block_frozen hs.2.2 i⟩

theorem Has2.has {w0 w : World} {b : Nat} {A : Ar} {bs bh : Nat} {s : List Int} {h : List Bool} (x : Has2 w0 w b A bs bh s h) {i : Nat} (hi : i < h.length) : w.cell? ⟨bh, i, none⟩ = some (.bool (h.getD i false)) ∧ w.frozen? ⟨bh, i, none⟩ = false := by
  obtain ⟨hK, hn, p, hb, hf, hm, hs, hh⟩ := x
  exact ⟨by simp [World.cell?, hh.2.2, bools, List.getD, hi], block_frozen hh.2.2 i⟩

/-- The two rows, just built. -/
theorem Has2.start {w0 w : World} {b : Nat} {A : Ar} (x : Has w0 w b A) (s : List Int) (h : List Bool) : Has2 w0 ((w.alloc (.cells (i64s s) 3)).alloc (.cells (bools h) 4)) b A w.heap.size (w.heap.size + 1) s h := by
  obtain ⟨hK, p, hb, hf, hm⟩ := x
  have hK2 : Kept [] w ((w.alloc (.cells (i64s s) 3)).alloc (.cells (bools h) 4)) := ((Kept.refl _ _).alloc _).alloc _
  refine ⟨hK.trans hK2 (by simp), by omega, p, hb, hf, hm.kept0 hK2, ⟨hK.size, fun hx => by have := hm.blocks_lt _ hx; omega, ?_⟩, ⟨by have := hK.size; omega, fun hx => by have := hm.blocks_lt _ hx; omega, ?_⟩⟩
  · rw [Below.heap_alloc _ _ _ (by simp)]
    exact heap_alloc_new _ _
  · have e := heap_alloc_new (w.alloc (.cells (i64s s) 3)) (.cells (bools h) 4)
    rw [show (w.alloc (.cells (i64s s) 3)).heap.size = w.heap.size + 1 from by simp] at e
    exact e

theorem x_load {w0 w : World} {b : Nat} {A : Ar} {bs bh : Nat} {s : List Int} {h : List Bool} (x : Has2 w0 w b A bs bh s h) (c : Int) (c0 : 0 ≤ c) (c1 : c < (A.traces.length : Int)) (k1 : 0 < A.words.length) (hn : (A.traces.getD c.toNat []).length < 1000000) :
    Calls Try.prog 14 #[.pointer (some ⟨b, 0, none⟩), .int .i64 c, .int .i64 0] w fun e w' => e = .returned (.tuple #[.int .i64 (wordAt A.words 0), .int .i64 0]) ∧ Has2 w0 w' b (A.touch c.toNat 0 none) bs bh s h := by
  obtain ⟨hK, hn2, p, rfl, hf, hm, hs, hh⟩ := x
  obtain ⟨i, rfl⟩ := Int.eq_ofNat_of_zero_le c0
  refine (load_yes hm i 0 (by omega) (by omega) hn).mono ?_
  rintro e w' ⟨rfl, p', hto, ha⟩
  exact ⟨rfl, Has2.to hK hf hn2 hs hh hto ha⟩

theorem x_cas {w0 w : World} {b : Nat} {A : Ar} {bs bh : Nat} {s : List Int} {h : List Bool} (x : Has2 w0 w b A bs bh s h) (c o z : Int) (c0 : 0 ≤ c) (c1 : c < (A.traces.length : Int)) (k1 : 0 < A.words.length) (hn : (A.traces.getD c.toNat []).length < 1000000) (hy : wordAt A.words 0 = o) :
    Calls Try.prog 17 #[.pointer (some ⟨b, 0, none⟩), .int .i64 c, .int .i64 0, .int .i64 o, .int .i64 z] w fun e w' => e = .returned (.tuple #[.bool true, .int .i64 0]) ∧ Has2 w0 w' b (A.touch c.toNat 0 (some z)) bs bh s h := by
  obtain ⟨hK, hn2, p, rfl, hf, hm, hs, hh⟩ := x
  obtain ⟨i, rfl⟩ := Int.eq_ofNat_of_zero_le c0
  refine (cas_yes hm i 0 o z (by omega) (by omega) hn hy).mono ?_
  rintro e w' ⟨rfl, p', hto, ha⟩
  exact ⟨rfl, Has2.to hK hf hn2 hs hh hto ha⟩

theorem x_cas_not {w0 w : World} {b : Nat} {A : Ar} {bs bh : Nat} {s : List Int} {h : List Bool} (x : Has2 w0 w b A bs bh s h) (c o z : Int) (c0 : 0 ≤ c) (c1 : c < (A.traces.length : Int)) (k1 : 0 < A.words.length) (hn : (A.traces.getD c.toNat []).length < 1000000) (hy : wordAt A.words 0 ≠ o) :
    Calls Try.prog 17 #[.pointer (some ⟨b, 0, none⟩), .int .i64 c, .int .i64 0, .int .i64 o, .int .i64 z] w fun e w' => e = .returned (.tuple #[.bool false, .int .i64 0]) ∧ Has2 w0 w' b (A.touch c.toNat 0 none) bs bh s h := by
  obtain ⟨hK, hn2, p, rfl, hf, hm, hs, hh⟩ := x
  obtain ⟨i, rfl⟩ := Int.eq_ofNat_of_zero_le c0
  refine (cas_no hm i 0 o z (by omega) (by omega) hn hy).mono ?_
  rintro e w' ⟨rfl, p', hto, ha⟩
  exact ⟨rfl, Has2.to hK hf hn2 hs hh hto ha⟩

/-- Behind n picks: the word is k for each turn that was done. -/
structure Turns (n D k : Nat) (A : Ar) (s : List Int) (h : List Bool) : Prop where
  words : A.words = [((D * k : Nat) : Int)]
  cores : A.traces.length = 4
  many : ∀ c, c < 4 → (A.traces.getD c []).length ≤ n
  seen : s.length = 4
  has : h.length = 4

theorem Turns.start (k : Nat) : Turns 0 0 k (fresh 1 4) [0, 0, 0, 0] [false, false, false, false] := ⟨by simp [fresh], rfl, fun c hc => by
  have : (fresh 1 4).traces.getD c [] = [] := by
    show (List.replicate 4 ([] : List (Int × Bool))).getD c [] = []
    rw [List.getD, List.getElem?_replicate, if_pos hc]
    rfl
  rw [this]
  simp, rfl, rfl⟩

theorem Turns.read {n D k : Nat} {A : Ar} {s s' : List Int} {h h' : List Bool} (x : Turns n D k A s h) (c : Nat) (hc : c < 4) (hs : s'.length = s.length) (hh : h'.length = h.length) : Turns (n + 1) D k (A.touch c 0 none) s' h' where
  words := x.words
  cores := by rw [touch_cores]; exact x.cores
  many := fun d hd => by
    rw [touch_trace _ _ _ _ _ (by rw [x.cores]; exact hc)]
    have h1 := x.many d hd
    have h2 := x.many c hc
    by_cases e : d = c
    · rw [if_pos e, List.length_append]; exact Nat.add_le_add h2 (Nat.le_refl 1)
    · rw [if_neg e]; omega
  seen := hs.trans x.seen
  has := hh.trans x.has

theorem Turns.done {n D k : Nat} {A : Ar} {s s' : List Int} {h h' : List Bool} (x : Turns n D k A s h) (c : Nat) (hc : c < 4) (z : Int) (hz : z = (((D + 1) * k : Nat) : Int)) (hs : s'.length = s.length) (hh : h'.length = h.length) : Turns (n + 1) (D + 1) k (A.touch c 0 (some z)) s' h' where
  words := by rw [touch_words, x.words, hz]; rfl
  cores := by rw [touch_cores]; exact x.cores
  many := fun d hd => by
    rw [touch_trace _ _ _ _ _ (by rw [x.cores]; exact hc)]
    have h1 := x.many d hd
    have h2 := x.many c hc
    by_cases e : d = c
    · rw [if_pos e, List.length_append]; exact Nat.add_le_add h2 (Nat.le_refl 1)
    · rw [if_neg e]; omega
  seen := hs.trans x.seen
  has := hh.trans x.has

end Go.Proofs.Ytkaijfpenokmbaa
