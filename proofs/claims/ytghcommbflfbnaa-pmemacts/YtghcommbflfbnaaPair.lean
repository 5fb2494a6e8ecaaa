/-
  One pair, or two, of a memory and a reference memory, made since w0.
-/
import Derived.Test.YtghcommbflfbnaaAct3
namespace Go.Proofs.Ytghcommbflfbnaa

def Bound (M : Pm) (n : Nat) (t : Int) : Prop := M.seen.length = n ∧ 0 ≤ M.steps ∧ M.steps ≤ t ∧ 0 ≤ M.stores ∧ M.stores ≤ t

def One (w0 w : World) (b c n : Nat) (t : Int) : Prop := Kept [] w0 w ∧ ∃ p q M R, p.b = b ∧ q.b = c ∧ Both w p q M R ∧ (∀ k ∈ bb p q, w0.heap.size ≤ k) ∧ Bound M n t

def Two (w0 w : World) (b c o d n : Nat) (t : Int) : Prop := Kept [] w0 w ∧ ∃ p q M R p2 q2 M2 R2, (p.b = b ∧ q.b = c ∧ p2.b = o ∧ q2.b = d) ∧ (Both w p q M R ∧ Both w p2 q2 M2 R2) ∧
  (∀ k ∈ bb p q, k ∉ bb p2 q2) ∧ (∀ k ∈ bb p q, w0.heap.size ≤ k) ∧ (∀ k ∈ bb p2 q2, w0.heap.size ≤ k) ∧ Bound M n t ∧ Bound M2 n t

theorem Both.kept {w w' : World} {p : Pl} {q : Rp} {M : Pm} {R : Rf} (h : Both w p q M R) {F : List Nat} (hk : Kept F w w') (hF : ∀ k ∈ bb p q, k ∉ F) : Both w' p q M R :=
  ⟨h.mem.kept hk fun k hk => hF k (mem_bb.2 (Or.inl hk)), h.ref.kept hk fun k hk => hF k (mem_bb.2 (Or.inr hk)), h.apart, h.sim⟩

theorem Both.lt {w : World} {p : Pl} {q : Rp} {M : Pm} {R : Rf} (h : Both w p q M R) : ∀ k ∈ bb p q, k < w.heap.size := fun k hk => by
  rcases mem_bb.1 hk with h1 | h1
  · exact h.mem.blocks_lt k h1
  · exact h.ref.blocks_lt k h1

theorem One.still {w0 w w' : World} {b c n : Nat} {t : Int} (h : One w0 w b c n t) (hk : Kept [] w w') : One w0 w' b c n t := by
  obtain ⟨hK, p, q, M, R, hb, hc, h1, h2, h3⟩ := h
  exact ⟨hK.trans hk (by simp), p, q, M, R, hb, hc, h1.kept hk (by simp), h2, h3⟩

theorem Two.still {w0 w w' : World} {b c o d n : Nat} {t : Int} (h : Two w0 w b c o d n t) (hk : Kept [] w w') : Two w0 w' b c o d n t := by
  obtain ⟨hK, p, q, M, R, p2, q2, M2, R2, hb, ⟨h1, h1'⟩, h2⟩ := h
  exact ⟨hK.trans hk (by simp), p, q, M, R, p2, q2, M2, R2, hb, ⟨h1.kept hk (by simp), h1'.kept hk (by simp)⟩, h2⟩

theorem Two.one {w0 w : World} {b c o d n : Nat} {t : Int} (h : Two w0 w b c o d n t) : One w0 w b c n t := by
  obtain ⟨hK, p, q, M, R, p2, q2, M2, R2, hb, ⟨h1, h1'⟩, h2, h3, h4, h5, h6⟩ := h
  exact ⟨hK, p, q, M, R, hb.1, hb.2.1, h1, h3, h5⟩

theorem Two.swap {w0 w : World} {b c o d n : Nat} {t : Int} (h : Two w0 w b c o d n t) : Two w0 w o d b c n t := by
  obtain ⟨hK, p, q, M, R, p2, q2, M2, R2, hb, ⟨h1, h1'⟩, h2, h3, h4, h5, h6⟩ := h
  exact ⟨hK, p2, q2, M2, R2, p, q, M, R, ⟨hb.2.2.1, hb.2.2.2, hb.1, hb.2.1⟩, ⟨h1', h1⟩, fun k hk hm => h2 k hm hk, h4, h3, h6, h5⟩

theorem Bound.near {M M' : Pm} {n : Nat} {t : Int} (h : Bound M n t) (hn : Near M M') : Bound M' n (t + 1) := by
  obtain ⟨h1, h2, h3, h4, h5⟩ := h
  have := hn.s0; have := hn.s1; have := hn.t0; have := hn.t1
  exact ⟨hn.len.trans h1, by omega, by omega, by omega, by omega⟩

theorem Bound.more {M : Pm} {n : Nat} {t s : Int} (h : Bound M n t) (hs : t ≤ s) : Bound M n s := by
  obtain ⟨h1, h2, h3, h4, h5⟩ := h
  exact ⟨h1, h2, by omega, h4, by omega⟩

theorem o_act {w0 w : World} {b c n : Nat} {t : Int} (h : One w0 w b c n t) (ht : t < 100000) (kd a v : Int) (hv : -9223372036854775808 ≤ v ∧ v ≤ 9223372036854775807) :
    Calls Try.prog 15 #[.pointer (some ⟨b, 0, none⟩), .pointer (some ⟨c, 0, none⟩), .agg #[.int .i64 kd, .int .i64 a, .int .i64 v]] w fun e w' => e = .returned (.bool true) ∧ One w0 w' b c n (t + 1) := by
  obtain ⟨hK, p, q, M, R, rfl, rfl, h1, h2, h3⟩ := h
  obtain ⟨b1, b2, b3, b4, b5⟩ := h3
  refine (act_any h1 kd a v hv.1 hv.2 (by omega) (by omega) (by omega) (by omega)).mono ?_
  rintro e w' ⟨he, p', q', M', R', hB, hT, hn⟩
  refine ⟨he, hK.trans hT.kept fun k hk => Or.inr (h2 k hk), p', q', M', R', hT.b, hT.c, hB, fun k hk => ?_, Bound.near ⟨b1, b2, b3, b4, b5⟩ hn⟩
  rcases hT.fresh k hk with h4 | h4
  · exact h2 k h4
  · exact Nat.le_trans hK.size h4

theorem t_act {w0 w : World} {b c o d n : Nat} {t : Int} (h : Two w0 w b c o d n t) (ht : t < 100000) (kd a v : Int) (hv : -9223372036854775808 ≤ v ∧ v ≤ 9223372036854775807) :
    Calls Try.prog 15 #[.pointer (some ⟨b, 0, none⟩), .pointer (some ⟨c, 0, none⟩), .agg #[.int .i64 kd, .int .i64 a, .int .i64 v]] w fun e w' => e = .returned (.bool true) ∧ Two w0 w' b c o d n (t + 1) := by
  obtain ⟨hK, p, q, M, R, p2, q2, M2, R2, ⟨rfl, rfl, rfl, rfl⟩, ⟨h1, h1'⟩, h2, h3, h4, h5, h6⟩ := h
  obtain ⟨b1, b2, b3, b4, b5⟩ := h5
  refine (act_any h1 kd a v hv.1 hv.2 (by omega) (by omega) (by omega) (by omega)).mono ?_
  rintro e w' ⟨he, p', q', M', R', hB, hT, hn⟩
  refine ⟨he, hK.trans hT.kept fun k hk => Or.inr (h3 k hk), p', q', M', R', p2, q2, M2, R2, ⟨hT.b, hT.c, rfl, rfl⟩, ⟨hB, h1'.kept hT.kept fun k hk hm => h2 k hm hk⟩, fun k hk hm => ?_, fun k hk => ?_, h4, Bound.near ⟨b1, b2, b3, b4, b5⟩ hn, h6.more (by omega)⟩
  · rcases hT.fresh k hk with h7 | h7
    · exact h2 k h7 hm
    · have := h1'.lt k hm; omega
  · rcases hT.fresh k hk with h7 | h7
    · exact h3 k h7
    · exact Nat.le_trans hK.size h7

theorem t_act2 {w0 w : World} {b c o d n : Nat} {t : Int} (h : Two w0 w b c o d n t) (ht : t < 100000) (kd a v : Int) (hv : -9223372036854775808 ≤ v ∧ v ≤ 9223372036854775807) :
    Calls Try.prog 15 #[.pointer (some ⟨o, 0, none⟩), .pointer (some ⟨d, 0, none⟩), .agg #[.int .i64 kd, .int .i64 a, .int .i64 v]] w fun e w' => e = .returned (.bool true) ∧ Two w0 w' b c o d n (t + 1) :=
  (t_act h.swap ht kd a v hv).mono fun _ _ h1 => ⟨h1.1, h1.2.swap⟩

/-- The counts of both. -/
theorem o_counts {w0 w : World} {b c n : Nat} {t : Int} (h : One w0 w b c n t) : ∃ s m : Int, w.cell? ⟨c, 7, none⟩ = some (.int .i64 s) ∧ w.cell? ⟨c, 8, none⟩ = some (.int .i64 m) ∧
    (Calls Try.prog 16 #[.pointer (some ⟨b, 0, none⟩)] w fun e w' => e = .returned (.int .i64 s) ∧ w = w') ∧ (Calls Try.prog 17 #[.pointer (some ⟨b, 0, none⟩)] w fun e w' => e = .returned (.int .i64 m) ∧ w = w') := by
  obtain ⟨hK, p, q, M, R, rfl, rfl, h1, h2, h3⟩ := h
  refine ⟨M.steps, M.stores, ?_, ?_, (steps_any h1.mem).mono fun _ _ h => ⟨h.1, h.2.symm⟩, (stores_any h1.mem).mono fun _ _ h => ⟨h.1, h.2.symm⟩⟩
  · rw [← h1.sim.steps]; simpa [Rp.cells] using h1.ref.cell 7
  · rw [← h1.sim.many]; simpa [Rp.cells] using h1.ref.cell 8

/-- The memory is copied, the reference not yet. -/
def Half (w0 w : World) (b c o n : Nat) (t : Int) : Prop := Kept [] w0 w ∧ ∃ p q M R p2, (p.b = b ∧ q.b = c ∧ p2.b = o) ∧ (Both w p q M R ∧ MemIs w p2 M) ∧
  (∀ k ∈ bb p q, k ∉ p2.blocks) ∧ (∀ k ∈ bb p q, w0.heap.size ≤ k) ∧ (∀ k ∈ p2.blocks, w0.heap.size ≤ k) ∧ Bound M n t

theorem o_copy {w0 w : World} {b c n : Nat} {t : Int} (h : One w0 w b c n t) :
    Calls Try.prog 13 #[.pointer (some ⟨b, 0, none⟩)] w fun e w' => ∃ o, e = .returned (.pointer (some ⟨o, 0, none⟩)) ∧ Half w0 w' b c o n t := by
  obtain ⟨hK, p, q, M, R, rfl, rfl, h1, h2, h3⟩ := h
  refine (copy_any h1.mem).mono ?_
  rintro e w' ⟨p2, he, hk, hf, hm⟩
  refine ⟨p2.b, he, hK.trans hk (by simp), p, q, M, R, p2, ⟨rfl, rfl, rfl⟩, ⟨h1.kept hk (by simp), hm⟩, fun k hk2 hm2 => ?_, h2, fun k hk2 => Nat.le_trans hK.size (hf k hk2), h3⟩
  have := h1.lt k hk2
  have := hf k hm2
  omega

theorem h_copy {w0 w : World} {b c o n : Nat} {t : Int} (h : Half w0 w b c o n t) :
    Calls Try.prog 14 #[.pointer (some ⟨c, 0, none⟩)] w fun e w' => ∃ d, e = .returned (.pointer (some ⟨d, 0, none⟩)) ∧ Two w0 w' b c o d n t := by
  obtain ⟨hK, p, q, M, R, p2, ⟨rfl, rfl, rfl⟩, ⟨h1, h1'⟩, h2, h3, h4, h5⟩ := h
  refine (rcopy_any h1.ref).mono ?_
  rintro e w' ⟨q2, he, hk, hf, hm⟩
  refine ⟨q2.b, he, hK.trans hk (by simp), p, q, M, R, p2, q2, M, R, ⟨rfl, rfl, rfl, rfl⟩, ⟨h1.kept hk (by simp), ⟨h1'.kept0 hk, hm, fun k hk2 hm2 => ?_, h1.sim⟩⟩, fun k hk2 hm2 => ?_, h3, fun k hk2 => ?_, h5, h5⟩
  · have := h1'.blocks_lt k hk2
    have := hf k hm2
    omega
  · rcases mem_bb.1 hm2 with h7 | h7
    · exact h2 k hk2 h7
    · have := h1.lt k hk2
      have := hf k h7
      omega
  · rcases mem_bb.1 hk2 with h7 | h7
    · exact h4 k h7
    · exact Nat.le_trans hK.size (hf k h7)

/-- A memory and a reference, made new. -/
theorem o_new {w0 w w' : World} {p : Pl} {q : Rp} (n : Nat) (hK : Kept [] w0 w) (hf : ∀ k ∈ p.blocks, w0.heap.size ≤ k) (hm : MemIs w p (fresh n)) (hk : Kept [] w w') (hg : ∀ k ∈ q.blocks, w.heap.size ≤ k) (hr : RefIs w' q (rfresh n)) :
    One w0 w' p.b q.b n 0 := by
  refine ⟨hK.trans hk (by simp), p, q, fresh n, rfresh n, rfl, rfl, ⟨hm.kept0 hk, hr, fun k hk2 hm2 => ?_, sim_fresh n⟩, fun k hk2 => ?_, by simp [fresh], by simp [fresh], by simp [fresh], by simp [fresh], by simp [fresh]⟩
  · have := hm.blocks_lt k hk2
    have := hg k hm2
    omega
  · rcases mem_bb.1 hk2 with h7 | h7
    · exact hf k h7
    · exact Nat.le_trans hK.size (hg k h7)

theorem o_words {w0 w : World} {b c n : Nat} {t : Int} (h : One w0 w b c n t) :
    Calls Try.prog 18 #[.pointer (some ⟨b, 0, none⟩)] w fun e w' => e = .returned (.int .i64 (n : Int)) ∧ w = w' := by
  obtain ⟨hK, p, q, M, R, rfl, rfl, h1, h2, h3⟩ := h
  exact (words_any h1.mem).mono fun _ _ h => ⟨by rw [h.1, h3.1], h.2.symm⟩

/-- The memory has crashed, the reference not yet. -/
def Mid (w0 w : World) (b c n : Nat) (k : Int) : Prop := Kept [] w0 w ∧ ∃ p q M R, p.b = b ∧ q.b = c ∧ MemIs w p (M.crash k) ∧ RefIs w q R ∧ (∀ k ∈ p.blocks, k ∉ q.blocks) ∧ (∀ k ∈ bb p q, w0.heap.size ≤ k) ∧ Sim 0 M R ∧ (M.crash k).seen.length = n

/-- What is seen by both in the end: the same words. -/
def Seen (w0 w : World) (b c n : Nat) (X : List Int) : Prop := Kept [] w0 w ∧ ∃ p M bs z, p.b = b ∧ MemIs w p M ∧ M.seen = X ∧ X.length = n ∧ w.cell? ⟨c, 0, none⟩ = some (.slice (some ⟨bs, 0, none⟩) n z) ∧ ∀ i, i < n → w.cell? ⟨bs, i, none⟩ = some (.int .u64 (wordAt X i))

theorem o_crash {w0 w : World} {b c n : Nat} {t : Int} (h : One w0 w b c n t) (k : Int) (hk : k ≤ 9223372036854775807) :
    Calls Try.prog 19 #[.pointer (some ⟨b, 0, none⟩), .int .i64 k] w fun e w' => e = .returned (.int .i64 0) ∧ Mid w0 w' b c n k := by
  obtain ⟨hK, p, q, M, R, rfl, rfl, h1, h2, h3⟩ := h
  refine (crash_any h1.mem k hk).mono ?_
  rintro e w' ⟨he, p', ht, hm⟩
  obtain ⟨hr, ha, hb⟩ := step_mem h1.ref h1.apart ht
  refine ⟨he, hK.trans ht.kept fun k hk => Or.inr (h2 k (mem_bb.2 (Or.inl hk))), p', q, M, R, ht.b, rfl, hm, hr, ha, fun k hk => ?_, h1.sim, (saved_length h1.mem.ok (withPower_length h1.mem) k).trans h3.1⟩
  rcases hb.fresh k hk with h4 | h4
  · exact h2 k h4
  · exact Nat.le_trans hK.size h4

theorem m_crash {w0 w : World} {b c n : Nat} {k : Int} (h : Mid w0 w b c n k) (hk : -9223372036854775808 ≤ k ∧ k ≤ 9223372036854775807) :
    Calls Try.prog 20 #[.pointer (some ⟨c, 0, none⟩), .int .i64 k] w fun e w' => e = .returned (.int .i64 0) ∧ ∃ X, Seen w0 w' b c n X := by
  obtain ⟨hK, p, q, M, R, rfl, rfl, h1, h2, h3, h4, h5, h6⟩ := h
  refine (rcrash_any h2 k hk).mono ?_
  rintro e w' ⟨he, q', ht, hr⟩
  obtain ⟨hm, ha, hb⟩ := step_ref h1 h3 ht
  have hs := sim_crash h5 k
  have hl : (R.crash k).seen.length = n := by rw [hs.seen]; exact h6
  refine ⟨he, (M.crash k).seen, hK.trans ht.kept fun k hk => Or.inr (h4 k (mem_bb.2 (Or.inr hk))), p, M.crash k, q'.bs, (R.crash k).seen.length + q'.zs.length, rfl, hm, rfl, h6, ?_, fun i hi => ?_⟩
  · have h0 : w'.cell? ⟨q'.b, 0, none⟩ = some (.slice (some ⟨q'.bs, 0, none⟩) (R.crash k).seen.length ((R.crash k).seen.length + q'.zs.length)) := by simpa [Rp.cells] using hr.cell 0
    rw [ht.b] at h0
    rw [h0, hl]
  · rw [← hs.seen]
    exact row_word hr.seen (by omega)

theorem s_load {w0 w : World} {b c n : Nat} {X : List Int} (h : Seen w0 w b c n X) (i : Nat) (hi : i < n) :
    Calls Try.prog 21 #[.pointer (some ⟨b, 0, none⟩), .int .i64 (i : Int)] w fun e w' => e = .returned (.tuple #[.int .u64 (wordAt X i), .int .i64 0]) ∧ w = w' := by
  obtain ⟨hK, p, M, bs, z, rfl, hm, rfl, hl, hc, hx⟩ := h
  refine (load_yes hm i (by omega) (by omega)).mono fun _ _ h => ⟨?_, h.2.symm⟩
  rw [h.1]
  simp

end Go.Proofs.Ytghcommbflfbnaa
