/-
  The sorter in memory: its runs.
-/
import Derived.Test.YtndcbpbigbjfeaaJo
namespace Go.Proofs.Ytndcbpbigbjfeaa
open Go.RowKit
set_option linter.unusedSimpArgs false
set_option linter.unusedVariables false

/-- A sorter, made since w0: its slice of runs v, the runs' slices vs, the runs R. -/
structure St (w0 w : World) (c : Nat) (v : Value) (vs : List Value) (R : List (List Int)) : Prop where
  below : Below w0.heap.size w0 w
  cb : w0.heap.size ≤ c
  blk : w.heap[c]? = some (.cells #[v] 40 (0, 0))
  row : w.ownsRow w0.heap.size 24 1 v R.length vs
  own : ∀ (i : Nat) (x : Value) (r : List Int), vs[i]? = some x → R[i]? = some r → Own w w0.heap.size x r
  apart : ∀ (i j : Nat) (x y : Value) (k : Nat), i < j → vs[i]? = some x → vs[j]? = some y → x.ownBlock = some k → y.ownBlock ≠ some k

section
variable {w0 w : World} {c : Nat} {v : Value} {vs : List Value} {R : List (List Int)}

theorem St.len (h : St w0 w c v vs R) : vs.length = R.length := by have := h.row.1; omega

theorem St.at (h : St w0 w c v vs R) {i : Nat} {r : List Int} (hr : R[i]? = some r) : ∃ x, vs[i]? = some x ∧ Own w w0.heap.size x r := by
  have hi : i < R.length := (List.getElem?_eq_some_iff.1 hr).1
  have hv : i < vs.length := by rw [h.len]; exact hi
  exact ⟨vs[i], by simp [hv], h.own i _ _ (by simp [hv]) hr⟩

/-- Its slice: nil, or a block of its own. -/
theorem St.form (h : St w0 w c v vs R) : (v = .slice none 0 0 ∧ R = [] ∧ vs = []) ∨
    ∃ g cap cur, v = .slice (some ⟨g, 0, none⟩) R.length cap ∧ w0.heap.size ≤ g ∧ w.heap[g]? = some (.cells cur 24 (0, 0)) ∧ R.length ≤ cap ∧ cap ≤ maxLen ∧ cur.size = cap ∧ cur.toList.take R.length = vs := by
  rcases h.row.2 with ⟨h1, h2⟩ | ⟨g, cap, cur, h1, h2, h3, h4, h5, h6, h7⟩
  · exact Or.inl ⟨h1, List.eq_nil_of_length_eq_zero h2, List.eq_nil_of_length_eq_zero (by rw [h.len]; exact h2)⟩
  · exact Or.inr ⟨g, cap, cur, h1, h2, h3, h4, h5, by simpa using h6, by simpa using h7⟩

theorem St.slice (h : St w0 w c v vs R) : ∃ a cap, v = .slice a R.length cap ∧ R.length ≤ cap ∧ ∀ i x, vs[i]? = some x → ∃ g, a = some ⟨g, 0, none⟩ ∧ g ≠ c ∧ w.cell? ⟨g, i, none⟩ = some x ∧ w.frozen? ⟨g, i, none⟩ = false := by
  rcases h.form with ⟨h1, rfl, rfl⟩ | ⟨g, cap, cur, h1, h2, h3, h4, h5, h6, h7⟩
  · exact ⟨none, 0, h1, by simp, fun i x hx => by simp at hx⟩
  · refine ⟨_, cap, h1, h4, fun i x hx => ⟨g, rfl, ?_, ?_, ?_⟩⟩
    · intro e; rw [e, h.blk] at h3; cases h3
    · have hi : i < vs.length := (List.getElem?_eq_some_iff.1 hx).1
      have h8 : (cur.toList.take R.length)[i]? = some x := by rw [h7]; exact hx
      rw [List.getElem?_take_of_lt (by rw [← h.len]; exact hi)] at h8
      have h9 : cur[i]? = some x := by simpa using h8
      simp [World.cell?, h3, h9]
    · simp [World.frozen?, h3]

theorem St.c0 (h : St w0 w c v vs R) : w.cell? ⟨c, 0, none⟩ = some v ∧ w.frozen? ⟨c, 0, none⟩ = false := by
  constructor <;> simp [World.cell?, World.frozen?, h.blk]

theorem St.still (h : St w0 w c v vs R) {w' : World} (k : Still w w') : St w0 w' c v vs R := by
  have hs : w0.heap.size ≤ w.heap.size := h.below.size
  refine ⟨Still.trans h.below k hs, h.cb, by rw [k.block c (lt_of_heap h.blk)]; exact h.blk, ?_, fun i x r hx hr => (h.own i x r hx hr).still k, h.apart⟩
  refine ⟨h.row.1, ?_⟩
  rcases h.row.2 with hn | ⟨g, cap, cur, h1, h2, h3, rest⟩
  · exact Or.inl hn
  · exact Or.inr ⟨g, cap, cur, h1, h2, by rw [k.block g (lt_of_heap h3)]; exact h3, rest⟩

/-- A run is another now: what was done turned no block but, perhaps, that run's; its new slice lies there, or in a new block. -/
theorem St.change (h : St w0 w c v vs R) {i g n cap : Nat} {x x' : Value} {r' : List Int} {w1 : World} (hv : v = .slice (some ⟨g, 0, none⟩) n cap) (hx : vs[i]? = some x)
    (hg : w.grownBy w1 x.ownBlock) (ho : Own w1 w0.heap.size x' r') (hb : x'.ownBlock = x.ownBlock ∨ ∀ k, x'.ownBlock = some k → w.heap.size ≤ k) :
    St w0 (w1.setCell ⟨g, i, none⟩ x') c v (vs.set i x') (R.set i r') := by
  have hi : i < vs.length := (List.getElem?_eq_some_iff.1 hx).1
  have hiR : i < R.length := by rw [← h.len]; exact hi
  obtain ⟨r, hr⟩ : ∃ r, R[i]? = some r := ⟨R[i], by simp [hiR]⟩
  have hox := h.own i x r hx hr
  have hs : w0.heap.size ≤ w.heap.size := h.below.size
  -- a block of ints
  have hty : ∀ k, x.ownBlock = some k → ∃ cur, w.heap[k]? = some (.cells cur 3 (0, 0)) := fun k hk => by
    rcases hox.form with ⟨rfl, -⟩ | ⟨g', cap', cur, rfl, -, h3, -⟩
    · simp [Value.ownBlock] at hk
    · simp [Value.ownBlock] at hk; subst hk; exact ⟨cur, h3⟩
  rcases h.form with ⟨h1, h2, -⟩ | ⟨g', cap', cur, h1, h2, h3, h4, h5, h6, h7⟩
  · rw [hv] at h1; cases h1
  rw [hv] at h1
  simp only [Value.slice.injEq, Option.some.injEq, Addr.mk.injEq, and_true] at h1
  obtain ⟨rfl, rfl, rfl⟩ := h1
  have gx : x.ownBlock ≠ some g := fun e => by obtain ⟨q, hq⟩ := hty g e; rw [h3] at hq; cases hq
  have cx : x.ownBlock ≠ some c := fun e => by obtain ⟨q, hq⟩ := hty c e; rw [h.blk] at hq; cases hq
  have gc : g ≠ c := fun e => by rw [e, h.blk] at h3; cases h3
  have hw1 : Below w0.heap.size w0 w1 := h.below.grown hg hs fun k hk => (hox.block k hk).1
  have g1 : w1.heap[g]? = some (.cells cur 24 (0, 0)) := by rw [hg.block g (lt_of_heap h3) (Ne.symm gx)]; exact h3
  have c1 : w1.heap[c]? = some (.cells #[v] 40 (0, 0)) := by rw [hg.block c (lt_of_heap h.blk) (Ne.symm cx)]; exact h.blk
  have gx' : x'.ownBlock ≠ some g := by
    rcases hb with hb | hb
    · rw [hb]; exact gx
    · intro e; have := hb g e; have := lt_of_heap h3; omega
  have hset : ∀ k, k ≠ g → (w1.setCell ⟨g, i, none⟩ x').heap[k]? = w1.heap[k]? := fun k hk => Below.heap_setCell _ _ _ _ hk
  refine ⟨hw1.setCell h2 _, h.cb, by rw [hset c (Ne.symm gc)]; exact c1, ?_, fun j y s hy hs' => ?_, fun j k y z q hjk hy hz hq => ?_⟩
  · refine ⟨by rw [List.length_set, List.length_set, h.len, Nat.mul_one], Or.inr ⟨g, cap, cur.setIfInBounds i x', by rw [hv]; simp, h2, heap_setCell_same w1 g i cur 24 _ g1, by simpa using h4, h5, by simpa using h6, ?_⟩⟩
    rw [List.length_set, Nat.mul_one, Array.toList_setIfInBounds, ← h7]
    apply List.ext_getElem?
    intro j
    simp only [List.getElem?_take, List.getElem?_set]
    split
    · split
      · simp_all; omega
      · rfl
    · split
      · rename_i e; subst e; omega
      · rfl
  · by_cases e : i = j
    · subst e
      rw [List.getElem?_set_self hi] at hy
      rw [List.getElem?_set_self hiR] at hs'
      cases hy; cases hs'
      exact ho.same fun k hk => hset k (fun e => gx' (by rw [← e]; exact hk))
    · rw [List.getElem?_set_ne e] at hy hs'
      have hoj := h.own j y s hy hs'
      refine hoj.same fun k hk => ?_
      have hkg : k ≠ g := fun e2 => by
        subst e2
        rcases hoj.form with ⟨rfl, -⟩ | ⟨g', cap', cur', rfl, -, h3', -⟩
        · simp [Value.ownBlock] at hk
        · simp [Value.ownBlock] at hk; subst hk; rw [h3] at h3'; cases h3'
      rw [hset k hkg]
      refine hg.block k (hoj.block k hk).2 fun e3 => ?_
      rcases Nat.lt_or_gt_of_ne e with h8 | h8
      · exact h.apart i j x y k h8 hx hy e3.symm hk
      · exact h.apart j i y x k h8 hy hx hk e3.symm
  · have old : ∀ m z, m ≠ i → (vs.set i x')[m]? = some z → vs[m]? = some z := fun m z hm hz => by rwa [List.getElem?_set_ne (Ne.symm hm)] at hz
    have far : ∀ m z q, m ≠ i → vs[m]? = some z → z.ownBlock = some q → x'.ownBlock ≠ some q := fun m z q hm hz hq e => by
      have hmR : m < R.length := by rw [← h.len]; exact (List.getElem?_eq_some_iff.1 hz).1
      rcases hb with hb | hb
      · rw [hb] at e
        rcases Nat.lt_or_gt_of_ne hm with h8 | h8
        · exact h.apart m i z x q h8 hz hx hq e
        · exact h.apart i m x z q h8 hx hz e hq
      · have := hb q e
        have := ((h.own m z (R[m]) hz (by simp [hmR])).block q hq).2
        omega
    by_cases ej : j = i
    · subst ej
      rw [List.getElem?_set_self hi] at hy
      cases hy
      have hz' := old k z (by omega) hz
      intro e
      exact far k z q (by omega) hz' e hq
    · by_cases ek : k = i
      · subst ek
        rw [List.getElem?_set_self hi] at hz
        cases hz
        exact far j y q ej (old j y ej hy) hq
      · exact h.apart j k y z q hjk (old j y ej hy) (old k z ek hz) hq

/-- The last run is no more. -/
theorem St.cut (h : St w0 w c v vs R) {g n cap m : Nat} (hv : v = .slice (some ⟨g, 0, none⟩) n cap) (hm : m ≤ R.length) :
    St w0 (w.setCell ⟨c, 0, none⟩ (.slice (some ⟨g, 0, none⟩) m cap)) c (.slice (some ⟨g, 0, none⟩) m cap) (vs.take m) (R.take m) := by
  rcases h.form with ⟨h1, h2, -⟩ | ⟨g', cap', cur, h1, h2, h3, h4, h5, h6, h7⟩
  · rw [hv] at h1; cases h1
  rw [hv] at h1
  simp only [Value.slice.injEq, Option.some.injEq, Addr.mk.injEq, and_true] at h1
  obtain ⟨rfl, rfl, rfl⟩ := h1
  have gc : g ≠ c := fun e => by rw [e, h.blk] at h3; cases h3
  have hset : ∀ k, k ≠ c → (w.setCell ⟨c, 0, none⟩ (.slice (some ⟨g, 0, none⟩) m cap)).heap[k]? = w.heap[k]? := fun k hk => Below.heap_setCell _ _ _ _ hk
  have hl : (R.take m).length = m := by simp; omega
  refine ⟨h.below.setCell h.cb _, h.cb, by rw [heap_setCell_same w c 0 _ 40 _ h.blk]; rfl, ?_, fun i x r hx hr => ?_, fun i j x y k hij hx hy => ?_⟩
  · refine ⟨by rw [hl, List.length_take, h.len]; omega, Or.inr ⟨g, cap, cur, by rw [hl], h2, by rw [hset g gc]; exact h3, by rw [hl]; omega, h5, by simpa using h6, ?_⟩⟩
    rw [hl, Nat.mul_one, ← h7, List.take_take, Nat.min_eq_left hm]
  · have hi : i < m := by have := (List.getElem?_eq_some_iff.1 hr).1; omega
    rw [List.getElem?_take_of_lt hi] at hx hr
    have ho := h.own i x r hx hr
    refine ho.same fun k hk => hset k fun e => ?_
    subst e
    rcases ho.form with ⟨rfl, -⟩ | ⟨g', cap', cur', rfl, -, h3', -⟩
    · simp [Value.ownBlock] at hk
    · simp [Value.ownBlock] at hk; subst hk; rw [h.blk] at h3'; cases h3'
  · have hj : j < m := by have := (List.getElem?_eq_some_iff.1 hy).1; simp at this; omega
    rw [List.getElem?_take_of_lt (by omega)] at hx
    rw [List.getElem?_take_of_lt hj] at hy
    exact h.apart i j x y k hij hx hy

/-- A run more, of one int. -/
theorem St.push (h : St w0 w c v vs R) (at_ : Int) (hn : (R.length + 1) * 24 ≤ 140737488355328) (ty : TypeId) :
    ∃ v' w2, (Builtin.append_ #[38, 38] ty #[v, .slice (some ⟨w.heap.size + 1, 0, none⟩) 1 1]).run Try.prog ((w.alloc (.cells #[.int .i64 at_] 3)).alloc (.cells #[.slice (some ⟨w.heap.size, 0, none⟩) 1 1] 24)) = .ok v' w2 ∧
      w2.cell? ⟨c, 0, none⟩ = some v ∧ w2.frozen? ⟨c, 0, none⟩ = false ∧ ∃ vs', St w0 (w2.setCell ⟨c, 0, none⟩ v') c v' vs' (R ++ [[at_]]) := by
  obtain ⟨i0, hi, hz0, hz1, hz2⟩ := info_parts info24
  obtain ⟨u, hu⟩ : ∃ u, u = (w.alloc (.cells #[.int .i64 at_] 3)) := ⟨_, rfl⟩
  have hb0 : u.heap[w.heap.size]? = some (.cells #[.int .i64 at_] 3 (0, 0)) := by rw [hu]; exact heap_alloc_new w _
  have hsz0 : u.heap.size = w.heap.size + 1 := by rw [hu]; simp
  have hS0 : Still w u := by rw [hu]; exact (Below.refl _ _).alloc (Nat.le_refl _) _
  rw [← hu]
  clear hu
  obtain ⟨u2, hu2⟩ : ∃ u2, u2 = (u.alloc (.cells #[.slice (some ⟨w.heap.size, 0, none⟩) 1 1] 24)) := ⟨_, rfl⟩
  have hb1 : u2.heap[w.heap.size + 1]? = some (.cells #[.slice (some ⟨w.heap.size, 0, none⟩) 1 1] 24 (0, 0)) := by rw [hu2, ← hsz0]; exact heap_alloc_new u _
  have hsz1 : u2.heap.size = w.heap.size + 2 := by rw [hu2]; simp; omega
  have hS1 : Still u u2 := by rw [hu2]; exact (Below.refl _ _).alloc (Nat.le_refl _) _
  have hb2 : u2.heap[w.heap.size]? = some (.cells #[.int .i64 at_] 3 (0, 0)) := by rw [hS1.block _ (by omega)]; exact hb0
  rw [← hu2]
  clear hu2
  have h2 := (h.still hS0).still hS1
  have hs : w0.heap.size ≤ w.heap.size := h.below.size
  obtain ⟨v', w2, hr, e1, e2, _, e4⟩ := run_append_own_at (P := Try.prog) u2 w0.heap.size 38 ty 24 i0 (.slice none 0 0) 1 24 Try.underlying38 hi hz0 hz1 hz2 rfl (by omega) v R.length vs h2.row ⟨w.heap.size + 1, 0, none⟩ 1 1 [.slice (some ⟨w.heap.size, 0, none⟩) 1 1] rfl
    (fun j x hx => by
      have hj : j = 0 := by have := (List.getElem?_eq_some_iff.1 hx).1; simp at this; exact this
      subst hj
      simp at hx
      subst hx
      rw [add_lit]
      simp [World.cell?, hb1]) (by simp [Value.oneCell']) (by unfold maxLen; omega) hn (by omega)
  have vb : ∀ k, v.ownBlock = some k → ∃ cur, w.heap[k]? = some (.cells cur 24 (0, 0)) := fun k hk => by
    rcases h.form with ⟨rfl, -, -⟩ | ⟨g, cap, cur, rfl, -, h3, -⟩
    · simp [Value.ownBlock] at hk
    · simp [Value.ownBlock] at hk; subst hk; exact ⟨cur, h3⟩
  have cv : v.ownBlock ≠ some c := fun e => by obtain ⟨q, hq⟩ := vb c e; rw [h.blk] at hq; cases hq
  have cw : w2.heap[c]? = some (.cells #[v] 40 (0, 0)) := by rw [e2.block c (lt_of_heap h2.blk) (Ne.symm cv)]; exact h2.blk
  have cv' : v'.ownBlock ≠ some c := by
    rcases e4 with e4 | e4
    · rw [e4]; exact cv
    · rw [e4]; intro e; have := lt_of_heap h2.blk; simp at e; omega
  have hset : ∀ k, k ≠ c → (w2.setCell ⟨c, 0, none⟩ v').heap[k]? = w2.heap[k]? := fun k hk => Below.heap_setCell _ _ _ _ hk
  have hlen : (R ++ [[at_]]).length = R.length + 1 := by simp
  refine ⟨v', w2, hr, by simp [World.cell?, cw], by simp [World.frozen?, cw], vs ++ [.slice (some ⟨w.heap.size, 0, none⟩) 1 1], ?_⟩
  have hB2 : Below w0.heap.size w0 w2 := h2.below.grown e2 h2.below.size fun k hk => (World.ownsRow.lt h2.row k hk).1
  have hnew : Own w2 w0.heap.size (.slice (some ⟨w.heap.size, 0, none⟩) 1 1) [at_] := by
    refine ⟨by simp, Or.inr ⟨w.heap.size, 1, #[.int .i64 at_], by simp, hs, ?_, by simp, by unfold maxLen; omega, by simp, by simp⟩⟩
    rw [e2.block _ (by omega) (fun e => by obtain ⟨q, hq⟩ := vb _ e.symm; have := lt_of_heap hq; omega)]
    exact hb2
  have oldOwn : ∀ i x r, vs[i]? = some x → R[i]? = some r → Own w2 w0.heap.size x r := fun i x r hx hr' => by
    have ho := h2.own i x r hx hr'
    refine ho.same fun k hk => e2.block k (ho.block k hk).2 fun e => ?_
    obtain ⟨q, hq⟩ := vb k e.symm
    rcases (h.own i x r hx hr').form with ⟨rfl, -⟩ | ⟨g', cap', cur', rfl, -, h3', -⟩
    · simp [Value.ownBlock] at hk
    · simp [Value.ownBlock] at hk; subst hk; rw [hq] at h3'; cases h3'
  have setOwn : ∀ {x : Value} {r : List Int}, Own w2 w0.heap.size x r → Own (w2.setCell ⟨c, 0, none⟩ v') w0.heap.size x r := fun {x r} ho => by
    refine ho.same fun k hk => hset k fun e => ?_
    subst e
    rcases ho.form with ⟨rfl, -⟩ | ⟨g', cap', cur', rfl, -, h3', -⟩
    · simp [Value.ownBlock] at hk
    · simp [Value.ownBlock] at hk; subst hk; rw [cw] at h3'; cases h3'
  refine ⟨hB2.setCell h.cb _, h.cb, by rw [heap_setCell_same w2 c 0 _ 40 _ cw]; rfl, ?_, fun i x r hx hr' => ?_, fun i j x y k hij hx hy hk => ?_⟩
  · rw [hlen]
    refine ⟨e1.1, ?_⟩
    rcases e1.2 with hn' | ⟨g, cap, cur, f1, f2, f3, rest⟩
    · exact Or.inl hn'
    · exact Or.inr ⟨g, cap, cur, f1, f2, by rw [hset g (fun e => cv' (by rw [f1]; simp [Value.ownBlock, e]))]; exact f3, rest⟩
  · rcases Nat.lt_or_ge i vs.length with hi' | hi'
    · rw [List.getElem?_append_left hi'] at hx
      rw [List.getElem?_append_left (by rw [← h.len]; exact hi')] at hr'
      exact setOwn (oldOwn i x r hx hr')
    · have e : i = vs.length := by have := (List.getElem?_eq_some_iff.1 hx).1; simp at this; omega
      subst e
      simp at hx
      rw [h.len] at hr'
      simp at hr'
      subst hx hr'
      exact setOwn hnew
  · have hij' : j < vs.length + 1 := by have := (List.getElem?_eq_some_iff.1 hy).1; simpa using this
    rw [List.getElem?_append_left (by omega)] at hx
    rcases Nat.lt_or_ge j vs.length with hj' | hj'
    · rw [List.getElem?_append_left hj'] at hy
      exact h.apart i j x y k hij hx hy hk
    · have e : j = vs.length := by omega
      subst e
      simp at hy
      subst hy
      have hiR : i < R.length := by rw [← h.len]; omega
      have := ((h.own i x (R[i]) hx (by simp [hiR])).block k hk).2
      simp [Value.ownBlock]
      omega

end
end Go.Proofs.Ytndcbpbigbjfeaa
