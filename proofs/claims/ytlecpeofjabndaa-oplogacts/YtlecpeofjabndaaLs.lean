/-
  Rows of stamps of a call's own; what holds of logs whose calls have seen earlier stamps.
-/
import Derived.Test.YtlecpeofjabndaaLw
import Derived.Test.YtlecpeofjabndaaLx
import Derived.Test.YtlecpeofjabndaaBits
namespace Go.Proofs.Ytlecpeofjabndaa
open Go.RowKit
set_option linter.unusedVariables false
set_option linter.unusedSimpArgs false

/-- Stamps as cells. -/
def stC (A : List (Int × Int)) : List Value := A.flatMap fun s => [.int .i64 s.1, .int .i64 s.2]

theorem stC_length (A : List (Int × Int)) : (stC A).length = A.length * 2 := by
  unfold stC
  induction A with
  | nil => rfl
  | cons x A ih => simp at ih ⊢; omega

theorem stC_append (A B : List (Int × Int)) : stC (A ++ B) = stC A ++ stC B := by simp [stC]

theorem stC_get (A : List (Int × Int)) : ∀ i s, A[i]? = some s → (stC A)[i * 2]? = some (.int .i64 s.1) ∧ (stC A)[i * 2 + 1]? = some (.int .i64 s.2) := by
  induction A with
  | nil => intro i x h; simp at h
  | cons y A ih =>
    intro i x h
    cases i with
    | zero => simp at h; subst h; simp [stC]
    | succ i =>
      have := ih i x (by simpa using h)
      have e : stC (y :: A) = .int .i64 y.1 :: .int .i64 y.2 :: stC A := by simp [stC]
      rw [e, show (i + 1) * 2 = i * 2 + 1 + 1 by omega]
      simpa using this

theorem stC_one (A : List (Int × Int)) : ∀ u ∈ stC A, u.oneCell' = true := by
  intro u hu
  unfold stC at hu
  rw [List.mem_flatMap] at hu
  obtain ⟨e, _, he⟩ := hu
  simp at he
  rcases he with rfl | rfl <;> rfl

/-- A row of stamps. -/
def Sw (w : World) (H : Nat) (v : Value) (A : List (Int × Int)) : Prop := w.ownsRow H 35 2 v A.length (stC A)

theorem Sw.nil (w : World) (H : Nat) : Sw w H (.slice none 0 0) [] := World.ownsRow_nil w H 35 2

theorem Sw.block {w : World} {H : Nat} {v : Value} {A : List (Int × Int)} (h : Sw w H v A) : ∀ k, v.ownBlock = some k → H ≤ k ∧ k < w.heap.size := World.ownsRow.lt h

theorem Sw.kept {w w' : World} {H : Nat} {v : Value} {A : List (Int × Int)} {F : List Nat} (h : Sw w H v A) (k : Kept F w w') (hF : ∀ x ∈ F, v.ownBlock ≠ some x) : Sw w' H v A := by
  have hk : ∀ x, v.ownBlock = some x → w'.heap[x]? = w.heap[x]? := fun x hx => k.block x (h.block x hx).2 (fun hm => hF x hm hx)
  refine ⟨h.1, ?_⟩
  rcases h.2 with hn | ⟨g, cap, cur, rfl, hb, hgg, rest⟩
  · exact .inl hn
  · exact .inr ⟨g, cap, cur, rfl, hb, by rw [hk g rfl]; exact hgg, rest⟩

theorem Sw.at_ {w : World} {H : Nat} {a : Option Addr} {l c : Nat} {A : List (Int × Int)} (h : Sw w H (.slice a l c) A) : l = A.length ∧ A.length ≤ c ∧ c ≤ maxLen ∧ ∀ i (hi : i < A.length), ∃ g, a = some ⟨g, 0, none⟩ ∧ w.cell? ⟨g, i * 2, none⟩ = some (.int .i64 (A[i]).1) ∧ w.cell? ⟨g, i * 2 + 1, none⟩ = some (.int .i64 (A[i]).2) := by
  rcases h.2 with ⟨h1, h2⟩ | ⟨g, cap, cur, h1, h2, h3, h4, h5, h6, h7⟩
  · have e := List.eq_nil_of_length_eq_zero h2
    subst e
    simp only [Value.slice.injEq] at h1
    exact ⟨by simp [h1.2.1], by simp, by omega, fun i hi => by simp at hi⟩
  · simp only [Value.slice.injEq] at h1
    obtain ⟨rfl, rfl, rfl⟩ := h1
    refine ⟨rfl, h4, h5, fun i hi => ⟨g, rfl, ?_⟩⟩
    obtain ⟨q0, q1⟩ := stC_get A i _ (List.getElem?_eq_getElem hi)
    rw [← h7, List.getElem?_take_of_lt (by omega)] at q0 q1
    have e0 : cur[i * 2]? = some (.int .i64 (A[i]).1) := by simpa using q0
    have e1 : cur[i * 2 + 1]? = some (.int .i64 (A[i]).2) := by simpa using q1
    exact ⟨by simp [World.cell?, h3, e0], by simp [World.cell?, h3, e1]⟩

theorem info35 : (Try.prog.info? 35).map (fun i => (i.zero, i.size, i.bytes)) = some (some (.agg #[.int .i64 0, .int .i64 0]), 2, 16) := by kernel_rfl

theorem append_st {w : World} {H : Nat} {v : Value} {A : List (Int × Int)} (h : Sw w H v A) (hH : H ≤ w.heap.size) (b : Nat) (s k : Int) (h0 : w.cell? ⟨b, 0, none⟩ = some (.int .i64 s)) (h1 : w.cell? ⟨b, 1, none⟩ = some (.int .i64 k)) (hl : A.length + 1 ≤ 1000000) (ty : TypeId) :
    ∃ g cap w', (Builtin.append_ #[48, 48] ty #[v, .slice (some ⟨b, 0, none⟩) 1 1]).run Try.prog w = .ok (.slice (some ⟨g, 0, none⟩) (A.length + 1) cap) w' ∧ Sw w' H (.slice (some ⟨g, 0, none⟩) (A.length + 1) cap) (A ++ [(s, k)]) ∧ w.grownBy w' v.ownBlock ∧ (v.ownBlock = some g ∨ g = w.heap.size) ∧ g < w'.heap.size := by
  obtain ⟨i0, hi, hz0, hz1, hz2⟩ := info_parts info35
  obtain ⟨g, cap, w', hr, h2, h3, h4, h5⟩ := run_append_lies (P := Try.prog) w 48 ty H 35 i0 _ 2 16 Try.underlying48 hi hz0 hz1 hz2 rfl (by omega) v A.length (stC A) h ⟨b, 0, none⟩ 1 1 (stC [(s, k)]) (by rw [stC_length]; rfl)
    (fun j u hu => by
      have hj : j < 2 := by
        rcases Nat.lt_or_ge j 2 with h | h
        · exact h
        · rw [List.getElem?_eq_none (by rw [stC_length]; exact h)] at hu; cases hu
      rw [add_lit, Nat.zero_add]
      rcases (show j = 0 ∨ j = 1 by omega) with rfl | rfl
      · rw [h0]; exact hu
      · rw [h1]; exact hu)
    (stC_one [(s, k)]) (by omega) (by unfold maxLen; omega) (by omega) hH w.heap.size rfl
  refine ⟨g, cap, w', hr, ?_, h3, h4, h5⟩
  unfold Sw
  rw [List.length_append, stC_append]
  exact h2

/-- What holds of logs behind n Adds, each of which has seen an earlier stamp at most. -/
structure Okr (n : Nat) (C : List Co) (A : List (Int × Int)) : Prop where
  al : A.length = n
  ast : ∀ s ∈ A, 0 ≤ s.1 ∧ s.1 ≤ n ∧ 0 ≤ s.2 ∧ s.2 < 8
  co : ∀ i (hi : i < C.length), (C[i]).k = (i : Int) ∧ 0 ≤ (C[i]).a ∧ (C[i]).a ≤ n ∧ srt (C[i]).R ∧ (C[i]).R.Pairwise (fun x y => x.num < y.num) ∧ (∀ r ∈ (C[i]).R, r.k = (i : Int) ∧ r.core = (i : Int) ∧ r.a ≤ (C[i]).a ∧ 0 ≤ r.num ∧ r.num < n) ∧ (C[i]).R.length ≤ n
  tot : totR (C.map Co.R) = n

theorem Okr.fresh : Okr 0 (freshC 4 4) [] := ⟨rfl, by simp, fun i hi => by
  rw [freshC_get]
  have : i < 4 := by simpa [freshC] using hi
  exact ⟨by rw [if_pos this], by simp, by simp, List.Pairwise.nil, List.Pairwise.nil, by simp, by simp⟩, by decide⟩

theorem Okr.add {n : Nat} {C : List Co} {A : List (Int × Int)} (h : Okr n C A) (hn : n ≤ 1000) {i : Nat} (hi : i < C.length) (h8 : C.length ≤ 8) {s sk : Int} (hs0 : 0 ≤ s) (hs : s ≤ n) (hk0 : 0 ≤ sk) (hk8 : sk < 8) (v : Value) : nextS (C[i]).a (C[i]).k s sk = max (C[i]).a s + 1 ∧ Okr (n + 1) (C.set i ⟨v, (C[i]).R ++ [addR C[i] 0 i 0 0 (n : Int) ⟨#[]⟩ ⟨#[]⟩ ⟨#[]⟩ s sk], nextS (C[i]).a (C[i]).k s sk, (C[i]).k⟩) (A ++ [(nextS (C[i]).a (C[i]).k s sk, (C[i]).k)]) := by
  obtain ⟨g1, g2, g3, g4, g5, g6, g7⟩ := h.co i hi
  have hnx : nextS (C[i]).a (C[i]).k s sk = max (C[i]).a s + 1 := by
    have m1 : mayS (C[i]).a (C[i]).k = true := by rw [g1]; simp [mayS]; omega
    have m2 : mayS s sk = true := by simp [mayS]; omega
    simp [nextS, m1, m2]
  refine ⟨hnx, by simp [h.al], ?_, ?_, ?_⟩
  · intro x hx
    rcases List.mem_append.1 hx with h1 | h1
    · have := h.ast x h1; omega
    · have e : x = (nextS (C[i]).a (C[i]).k s sk, (C[i]).k) := by simpa using h1
      subst e
      show 0 ≤ nextS (C[i]).a (C[i]).k s sk ∧ nextS (C[i]).a (C[i]).k s sk ≤ ((n + 1 : Nat) : Int) ∧ 0 ≤ (C[i]).k ∧ (C[i]).k < 8
      rw [hnx, g1]; omega
  · intro j hj
    have hj' : j < C.length := by simpa using hj
    by_cases e : i = j
    · subst e
      rw [List.getElem_set_self]
      refine ⟨g1, ?_, ?_, ?_, ?_, ?_, ?_⟩
      · show 0 ≤ nextS (C[i]).a (C[i]).k s sk; rw [hnx]; omega
      · show nextS (C[i]).a (C[i]).k s sk ≤ ((n + 1 : Nat) : Int); rw [hnx]; omega
      · refine List.pairwise_append.2 ⟨g4, List.pairwise_singleton _ _, fun x hx y hy => ?_⟩
        have hy' : y = addR C[i] 0 i 0 0 (n : Int) ⟨#[]⟩ ⟨#[]⟩ ⟨#[]⟩ s sk := by simpa using hy
        subst hy'
        rw [leR_iff]
        have := (g6 x hx).2.2.1
        show x.a < nextS (C[i]).a (C[i]).k s sk ∨ _
        rw [hnx]; omega
      · refine List.pairwise_append.2 ⟨g5, List.pairwise_singleton _ _, fun x hx y hy => ?_⟩
        have hy' : y = addR C[i] 0 i 0 0 (n : Int) ⟨#[]⟩ ⟨#[]⟩ ⟨#[]⟩ s sk := by simpa using hy
        subst hy'
        exact (g6 x hx).2.2.2.2
      · intro r hr
        rcases List.mem_append.1 hr with h1 | h1
        · have := g6 r h1
          exact ⟨this.1, this.2.1, by show r.a ≤ nextS (C[i]).a (C[i]).k s sk; rw [hnx]; omega, this.2.2.2.1, by omega⟩
        · have hy' : r = addR C[i] 0 i 0 0 (n : Int) ⟨#[]⟩ ⟨#[]⟩ ⟨#[]⟩ s sk := by simpa using h1
          subst hy'
          exact ⟨g1, rfl, Int.le_refl _, by show (0 : Int) ≤ (n : Int); omega, by show (n : Int) < ((n + 1 : Nat) : Int); omega⟩
      · rw [List.length_append]; simp; omega
    · rw [List.getElem_set_ne e]
      obtain ⟨f1, f2, f3, f4, f5, f6, f7⟩ := h.co j hj'
      exact ⟨f1, f2, by omega, f4, f5, fun r hr => by have := f6 r hr; exact ⟨this.1, this.2.1, this.2.2.1, this.2.2.2.1, by omega⟩, by omega⟩
  · have := totR_put hi ⟨v, (C[i]).R ++ [addR C[i] 0 i 0 0 (n : Int) ⟨#[]⟩ ⟨#[]⟩ ⟨#[]⟩ s sk], nextS (C[i]).a (C[i]).k s sk, (C[i]).k⟩
    rw [h.tot] at this
    simp only [List.length_append, List.length_singleton] at this
    omega

/-- What the law looks at in the merged row. -/
theorem Okr.row {n : Nat} {C : List Co} {A : List (Int × Int)} (h : Okr n C A) {M : List Rec} (hM : mergeR (C.map Co.R) = M) : M.length = n ∧ (∀ r ∈ M, ∃ c, c < C.length ∧ r.core = (c : Int) ∧ 0 ≤ r.num) ∧ M.Pairwise (fun x y => x.core = y.core → x.num < y.num) ∧ M.Pairwise (fun x y => x.a ≤ y.a) := by
  subst hM
  have hs : ∀ l ∈ C.map Co.R, srt l := fun l hl => by
    obtain ⟨i, hi, rfl⟩ := List.getElem_of_mem hl
    have := (h.co i (by simpa using hi)).2.2.2.1
    simpa using this
  have hcore : ∀ c : Nat, (mergeR (C.map Co.R)).filter (fun r => decide (r.core = (c : Int))) = ((C.map Co.R)[c]?).getD [] := merge_core (fun c r => decide (r.core = (c : Int))) (C.map Co.R) (fun c hc x hx d => by
    have hc' : c < C.length := by simpa using hc
    have := ((h.co c hc').2.2.2.2.2.1 x (by simpa using hx)).2.1
    rw [this]
    have : ((c : Int) = (d : Int)) ↔ d = c := by omega
    simp only [this])
  refine ⟨by rw [mergeR_length, h.tot], ?_, ?_, ?_⟩
  · intro r hr
    obtain ⟨l, hl, hx⟩ := mem_mergeR hr
    obtain ⟨i, hi, rfl⟩ := List.getElem_of_mem hl
    have hi' : i < C.length := by simpa using hi
    have := (h.co i hi').2.2.2.2.2.1 r (by simpa using hx)
    exact ⟨i, hi', this.2.1, this.2.2.2.1⟩
  · rw [List.pairwise_iff_getElem]
    intro i j hi hj hij e
    obtain ⟨l, hl, hx⟩ := mem_mergeR (List.getElem_mem hi)
    obtain ⟨c, hc, rfl⟩ := List.getElem_of_mem hl
    have hc' : c < C.length := by simpa using hc
    have ec := ((h.co c hc').2.2.2.2.2.1 _ (by simpa using hx)).2.1
    have hp : ((mergeR (C.map Co.R)).filter (fun r => decide (r.core = (c : Int)))).Pairwise (fun x y => x.num < y.num) := by
      rw [hcore c, List.getElem?_eq_getElem (by simpa using hc')]
      have := (h.co c hc').2.2.2.2.1
      simpa using this
    rw [List.pairwise_filter, List.pairwise_iff_getElem] at hp
    exact hp i j hi hj hij (by simpa using ec) (by rw [← e]; simpa using ec)
  · refine (merge_srt _ hs).imp ?_
    intro x y hxy
    rw [leR_iff] at hxy
    omega

end Go.Proofs.Ytlecpeofjabndaa
