/-
  One arena, made since w0, and blocks of the caller's own beside it: a contract a call.
-/
import Derived.Test.YtolbjmckebicfaaFacts
namespace Go.Proofs.Ytolbjmckebicfaa
open Go.RowKit
set_option linter.unusedVariables false

/-- S: the blocks beside the arena, and what lies in them. -/
def Hs (S : List (Nat × Obj)) (w0 w : World) (b : Nat) (A : Ar) : Prop :=
  Kept [] w0 w ∧ ∃ p, p.b = b ∧ (∀ k ∈ p.blocks, w0.heap.size ≤ k) ∧ ArIs 52 w p A ∧ ∀ x ∈ S, w0.heap.size ≤ x.1 ∧ x.1 ∉ p.blocks ∧ w.heap[x.1]? = some x.2

theorem Hs.of {w0 w : World} {b : Nat} {A : Ar} (h : Has w0 w b A) : Hs [] w0 w b A := by
  obtain ⟨hK, p, hb, hf, hm⟩ := h
  exact ⟨hK, p, hb, hf, hm, by simp⟩

theorem Hs.to {S : List (Nat × Obj)} {w0 w w' : World} {p p' : Ap} {A : Ar} (hK : Kept [] w0 w) (hf : ∀ k ∈ p.blocks, w0.heap.size ≤ k) (hs : ∀ x ∈ S, w0.heap.size ≤ x.1 ∧ x.1 ∉ p.blocks ∧ w.heap[x.1]? = some x.2) (ht : ATo [] w p w' p') (ha : ArIs 52 w' p' A) : Hs S w0 w' p.b A := by
  refine ⟨hK.trans ht.kept (fun x hx => Or.inr (hf x (by simpa using hx))), p', ht.b, fun k hk => ?_, ha, fun x hx => ?_⟩
  · rcases ht.new k hk with h1 | h1
    · exact hf k h1
    · exact Nat.le_trans hK.size h1
  · obtain ⟨h1, h2, h3⟩ := hs x hx
    have hlt := lt_of_heap h3
    refine ⟨h1, fun hm => ?_, ?_⟩
    · rcases ht.new x.1 hm with h4 | h4
      · exact h2 h4
      · omega
    · rw [ht.kept.block x.1 hlt (by simpa using h2)]
      exact h3

theorem Hs.still {S : List (Nat × Obj)} {w0 w w' : World} {b : Nat} {A : Ar} (h : Hs S w0 w b A) (hk : Kept [] w w') : Hs S w0 w' b A := by
  obtain ⟨hK, p, rfl, hf, hm, hs⟩ := h
  exact Hs.to hK hf hs (ATo.still hk) (hm.kept0 hk)

theorem Hs.push {S : List (Nat × Obj)} {w0 w : World} {b : Nat} {A : Ar} (h : Hs S w0 w b A) (o : Obj) : Hs ((w.heap.size, o) :: S) w0 (w.alloc o) b A := by
  obtain ⟨hK, p, rfl, hf, hm, hs⟩ := h
  have hk : Kept [] w (w.alloc o) := (Kept.refl [] w).alloc o
  refine ⟨hK.trans hk (by simp), p, rfl, hf, hm.kept0 hk, fun x hx => ?_⟩
  rcases List.mem_cons.1 hx with rfl | hx
  · exact ⟨hK.size, fun hx => absurd (hm.blocks_lt _ hx) (Nat.lt_irrefl _), heap_alloc_new w o⟩
  · obtain ⟨h1, h2, h3⟩ := hs x hx
    exact ⟨h1, h2, by rw [hk.block x.1 (lt_of_heap h3) (by simp)]; exact h3⟩

theorem Hs.drop {S : List (Nat × Obj)} {x : Nat × Obj} {w0 w : World} {b : Nat} {A : Ar} (h : Hs (x :: S) w0 w b A) : Hs S w0 w b A := by
  obtain ⟨hK, p, hb, hf, hm, hs⟩ := h
  exact ⟨hK, p, hb, hf, hm, fun y hy => hs y (List.mem_cons_of_mem _ hy)⟩

theorem Hs.put {S : List (Nat × Obj)} {g : Nat} {cs : Array Value} {t : TypeId} {w0 w : World} {b : Nat} {A : Ar} (h : Hs ((g, .cells cs t (0, 0)) :: S) w0 w b A) (hg : ∀ x ∈ S, x.1 ≠ g) (i : Nat) (v : Value) : Hs ((g, .cells (cs.setIfInBounds i v) t (0, 0)) :: S) w0 (w.setCell ⟨g, i, none⟩ v) b A := by
  obtain ⟨hK, p, hb, hf, hm, hs⟩ := h
  have h0 := hs _ (List.mem_cons_self ..)
  refine ⟨hK.setCell (Or.inr h0.1) _, p, hb, hf, hm.same fun k hk => block_other fun e => h0.2.1 (e ▸ hk), fun x hx => ?_⟩
  rcases List.mem_cons.1 hx with rfl | hx
  · exact ⟨h0.1, h0.2.1, block_set h0.2.2 v⟩
  · have h1 := hs x (List.mem_cons_of_mem _ hx)
    exact ⟨h1.1, h1.2.1, by rw [block_other (hg x hx)]; exact h1.2.2⟩

theorem Hs.cell {S : List (Nat × Obj)} {g : Nat} {cs : Array Value} {t : TypeId} {w0 w : World} {b : Nat} {A : Ar} (h : Hs S w0 w b A) (hg : (g, .cells cs t (0, 0)) ∈ S) {i : Nat} {v : Value} (hi : cs[i]? = some v) : w.cell? ⟨g, i, none⟩ = some v := by
  obtain ⟨hK, p, hb, hf, hm, hs⟩ := h
  have h0 := (hs _ hg).2.2
  simp only at h0
  simp [World.cell?, h0, hi]

theorem Hs.frozen {S : List (Nat × Obj)} {g : Nat} {cs : Array Value} {t : TypeId} {w0 w : World} {b : Nat} {A : Ar} (h : Hs S w0 w b A) (hg : (g, .cells cs t (0, 0)) ∈ S) (i : Nat) : w.frozen? ⟨g, i, none⟩ = false := by
  obtain ⟨hK, p, hb, hf, hm, hs⟩ := h
  exact block_frozen (hs _ hg).2.2 i

theorem Hs.old {S : List (Nat × Obj)} {w0 w : World} {b : Nat} {A : Ar} (h : Hs S w0 w b A) : Kept [] w0 w := h.1

theorem h_new (w : World) (n c : Int) (h0 : 1 ≤ n) (h1 : n ≤ 65536) (c0 : 1 ≤ c) (c1 : c ≤ 8) :
    Calls Try.prog 6 #[.int .i64 n, .int .i64 c] w fun e w' => ∃ b, e = .returned (.tuple #[.pointer (some ⟨b, 0, none⟩), .int .i64 0]) ∧ Hs [] w w' b (fresh n.toNat c.toNat) :=
  (u_new w n c h0 h1 c0 c1).mono fun _ _ ⟨b, he, hm⟩ => ⟨b, he, Hs.of hm⟩

theorem h_load {S : List (Nat × Obj)} {w0 w : World} {b : Nat} {A : Ar} (h : Hs S w0 w b A) (c k : Int) (c0 : 0 ≤ c) (c1 : c < (A.traces.length : Int)) (k0 : 0 ≤ k) (k1 : k < (A.words.length : Int)) (hn : (A.traces.getD c.toNat []).length < 1000000) :
    Calls Try.prog 30 #[.pointer (some ⟨b, 0, none⟩), .int .i64 c, .int .i64 k] w fun e w' => e = .returned (.tuple #[.int .i64 (wordAt A.words k.toNat), .int .i64 0]) ∧ Hs S w0 w' b (A.touch c.toNat k.toNat none) := by
  obtain ⟨hK, p, rfl, hf, hm, hs⟩ := h
  obtain ⟨i, rfl⟩ := Int.eq_ofNat_of_zero_le c0
  obtain ⟨j, rfl⟩ := Int.eq_ofNat_of_zero_le k0
  refine (load_yes hm i j (by omega) (by omega) hn).mono ?_
  rintro e w' ⟨rfl, p', hto, ha⟩
  exact ⟨rfl, Hs.to hK hf hs hto ha⟩

theorem h_store {S : List (Nat × Obj)} {w0 w : World} {b : Nat} {A : Ar} (h : Hs S w0 w b A) (c k : Int) (z : Int) (c0 : 0 ≤ c) (c1 : c < (A.traces.length : Int)) (k0 : 0 ≤ k) (k1 : k < (A.words.length : Int)) (hn : (A.traces.getD c.toNat []).length < 1000000) :
    Calls Try.prog 28 #[.pointer (some ⟨b, 0, none⟩), .int .i64 c, .int .i64 k, .int .i64 z] w fun e w' => e = .returned (.int .i64 0) ∧ Hs S w0 w' b (A.touch c.toNat k.toNat (some z)) := by
  obtain ⟨hK, p, rfl, hf, hm, hs⟩ := h
  obtain ⟨i, rfl⟩ := Int.eq_ofNat_of_zero_le c0
  obtain ⟨j, rfl⟩ := Int.eq_ofNat_of_zero_le k0
  refine (store_yes hm i j z (by omega) (by omega) hn).mono ?_
  rintro e w' ⟨rfl, p', hto, ha⟩
  exact ⟨rfl, Hs.to hK hf hs hto ha⟩

theorem h_load_bad {S : List (Nat × Obj)} {w0 w : World} {b : Nat} {A : Ar} (h : Hs S w0 w b A) (c k : Int) (hb : (c < 0 ∨ (A.traces.length : Int) ≤ c) ∨ (k < 0 ∨ (A.words.length : Int) ≤ k)) :
    Calls Try.prog 30 #[.pointer (some ⟨b, 0, none⟩), .int .i64 c, .int .i64 k] w fun e w' => ∃ n, e = .returned (.tuple #[.int .i64 0, .int .i64 n]) ∧ (n = 201 ∨ n = 202) ∧ Hs S w0 w' b A := by
  by_cases hc : c < 0 ∨ (A.traces.length : Int) ≤ c
  · obtain ⟨hK, p, rfl, hf, hm, hs⟩ := h
    refine (load_nocore hm c k hc).mono ?_
    rintro e w' ⟨rfl, hk⟩
    exact ⟨202, rfl, Or.inr rfl, Hs.still ⟨hK, p, rfl, hf, hm, hs⟩ hk⟩
  · obtain ⟨hK, p, rfl, hf, hm, hs⟩ := h
    obtain ⟨i, rfl⟩ := Int.eq_ofNat_of_zero_le (show 0 ≤ c by omega)
    have hk2 : k < 0 ∨ (A.words.length : Int) ≤ k := by
      rcases hb with h1 | h1
      · exact absurd h1 hc
      · exact h1
    refine (load_noplace hm i k (by omega) hk2).mono ?_
    rintro e w' ⟨rfl, hk⟩
    exact ⟨201, rfl, Or.inl rfl, Hs.still ⟨hK, p, rfl, hf, hm, hs⟩ hk⟩

theorem h_clear {S : List (Nat × Obj)} {w0 w : World} {b : Nat} {A : Ar} (h : Hs S w0 w b A) (c : Int) (c0 : 0 ≤ c) (c1 : c < (A.traces.length : Int)) :
    Calls Try.prog 9 #[.pointer (some ⟨b, 0, none⟩), .int .i64 c] w fun e w' => e = .returned (.int .i64 0) ∧ Hs S w0 w' b (A.clear c.toNat) := by
  obtain ⟨hK, p, rfl, hf, hm, hs⟩ := h
  obtain ⟨i, rfl⟩ := Int.eq_ofNat_of_zero_le c0
  refine (clear_yes hm i (by omega)).mono ?_
  rintro e w' ⟨rfl, p', hto, ha⟩
  exact ⟨rfl, Hs.to hK hf hs hto ha⟩

theorem h_trace {S : List (Nat × Obj)} {w0 w : World} {b : Nat} {A : Ar} (h : Hs S w0 w b A) (c : Int) (c0 : 0 ≤ c) (c1 : c < (A.traces.length : Int)) (hn : (A.traces.getD c.toNat []).length < 1000000) :
    Calls Try.prog 16 #[.pointer (some ⟨b, 0, none⟩), .int .i64 c] w fun e w' => ∃ u, e = .returned u ∧ Row w' u (A.traces.getD c.toNat []) ∧ (∀ k, u.ownBlock = some k → w.heap.size ≤ k) ∧ Kept [] w w' := by
  obtain ⟨hK, p, rfl, hf, hm, hs⟩ := h
  obtain ⟨i, rfl⟩ := Int.eq_ofNat_of_zero_le c0
  exact trace_yes hm i (by omega) hn

theorem h_cores {S : List (Nat × Obj)} {w0 w : World} {b : Nat} {A : Ar} (h : Hs S w0 w b A) : Calls Try.prog 19 #[.pointer (some ⟨b, 0, none⟩)] w fun e w' => e = .returned (.int .i64 (A.traces.length : Int)) ∧ w' = w := by
  obtain ⟨hK, p, rfl, hf, hm, hs⟩ := h
  exact cores_any hm

theorem Hs.size {S : List (Nat × Obj)} {w0 w : World} {b : Nat} {A : Ar} (h : Hs S w0 w b A) : 1 ≤ A.traces.length ∧ A.traces.length ≤ 8 := by
  obtain ⟨hK, p, rfl, hf, hm, hs⟩ := h
  exact ⟨hm.clo, hm.chi⟩

end Go.Proofs.Ytolbjmckebicfaa
