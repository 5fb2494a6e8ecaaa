/-
  Sorting by putting in: it makes of sorted rows what a merge makes.
-/
import Derived.Test.YtlecpeofjabndaaLx
namespace Go.Proofs.Ytlecpeofjabndaa
open Go.RowKit
set_option linter.unusedVariables false
set_option linter.unusedSimpArgs false

/-- A row is told by its order and by each core's row. -/
theorem row_unique : ∀ (M K : List Rec), srt M → srt K → (∀ c : Int, M.filter (fun r => decide (r.k = c)) = K.filter (fun r => decide (r.k = c))) → M = K := by
  intro M
  induction M with
  | nil =>
    intro K _ _ h
    cases K with
    | nil => rfl
    | cons y K =>
      have := h y.k
      simp at this
  | cons x M ih =>
    intro K hM hK h
    cases K with
    | nil =>
      have := h x.k
      simp at this
    | cons y K =>
      have hM' := List.pairwise_cons.1 hM
      have hK' := List.pairwise_cons.1 hK
      have hxy : x = y := by
        by_cases e : y.k = x.k
        · have h1 := h x.k
          rw [List.filter_cons_of_pos (by simp), List.filter_cons_of_pos (by simp [e])] at h1
          exact (List.cons.inj h1).1
        · exfalso
          have h1 : y ∈ x :: M := by
            have : y ∈ (x :: M).filter (fun r => decide (r.k = y.k)) := by rw [h y.k]; simp
            exact (List.mem_filter.1 this).1
          have h2 : x ∈ y :: K := by
            have : x ∈ (y :: K).filter (fun r => decide (r.k = x.k)) := by rw [← h x.k]; simp
            exact (List.mem_filter.1 this).1
          have l1 : leR x y := by
            rcases List.mem_cons.1 h1 with rfl | h1
            · exact leR_refl _
            · exact hM'.1 y h1
          have l2 : leR y x := by
            rcases List.mem_cons.1 h2 with rfl | h2
            · exact leR_refl _
            · exact hK'.1 x h2
          rw [leR_iff] at l1 l2
          omega
      subst hxy
      rw [ih K hM'.2 hK'.2 (fun c => by
        have h1 := h c
        by_cases e : x.k = c
        · rw [List.filter_cons_of_pos (by simpa using e), List.filter_cons_of_pos (by simpa using e)] at h1
          exact (List.cons.inj h1).2
        · rw [List.filter_cons_of_neg (by simpa using e), List.filter_cons_of_neg (by simpa using e)] at h1
          exact h1)]

/-- Does e stand behind r? -/
def behB (r e : Rec) : Bool := lessS r.a r.k e.a e.k

/-- A record put in, behind all that do not stand behind it. -/
def insR (M : List Rec) (r : Rec) : List Rec := M.takeWhile (fun e => !behB r e) ++ r :: M.dropWhile (fun e => !behB r e)

theorem ins_mem {M : List Rec} {r x : Rec} : x ∈ insR M r ↔ x = r ∨ x ∈ M := by
  have e : M.takeWhile (fun e => !behB r e) ++ M.dropWhile (fun e => !behB r e) = M := List.takeWhile_append_dropWhile
  unfold insR
  simp only [List.mem_append, List.mem_cons]
  have h2 : x ∈ M ↔ x ∈ M.takeWhile (fun e => !behB r e) ∨ x ∈ M.dropWhile (fun e => !behB r e) := by rw [← List.mem_append, e]
  rw [h2]
  constructor
  · rintro (h | h | h)
    · exact Or.inr (Or.inl h)
    · exact Or.inl h
    · exact Or.inr (Or.inr h)
  · rintro (h | h | h)
    · exact Or.inr (Or.inl h)
    · exact Or.inl h
    · exact Or.inr (Or.inr h)

/-- In a sorted row all that stand behind r come last. -/
theorem drop_beh : ∀ {M : List Rec} {r : Rec}, srt M → ∀ x ∈ M.dropWhile (fun e => !behB r e), behB r x = true := by
  intro M r
  induction M with
  | nil => intro _ x hx; simp at hx
  | cons y M ih =>
    intro hs x hx
    have hs' := List.pairwise_cons.1 hs
    rcases hb : behB r y with _ | _
    · rw [List.dropWhile_cons_of_pos (by simp [hb])] at hx
      exact ih hs'.2 x hx
    · rw [List.dropWhile_cons_of_neg (by simp [hb])] at hx
      rcases List.mem_cons.1 hx with rfl | hx
      · exact hb
      · have := hs'.1 x hx
        unfold behB at hb ⊢
        rw [less_iff] at hb ⊢
        rw [leR_iff] at this
        omega

theorem take_beh : ∀ {M : List Rec} {r : Rec}, ∀ x ∈ M.takeWhile (fun e => !behB r e), behB r x = false := by
  intro M r
  induction M with
  | nil => intro x hx; simp at hx
  | cons y M ih =>
    intro x hx
    rcases hb : behB r y with _ | _
    · rw [List.takeWhile_cons_of_pos (by simp [hb])] at hx
      rcases List.mem_cons.1 hx with rfl | hx
      · exact hb
      · exact ih x hx
    · rw [List.takeWhile_cons_of_neg (by simp [hb])] at hx
      simp at hx

theorem ins_srt {M : List Rec} (hs : srt M) (r : Rec) : srt (insR M r) := by
  have e : M.takeWhile (fun e => !behB r e) ++ M.dropWhile (fun e => !behB r e) = M := List.takeWhile_append_dropWhile
  have h := hs
  unfold srt at h
  rw [← e] at h
  obtain ⟨h1, h2, h3⟩ := List.pairwise_append.1 h
  unfold insR srt
  refine List.pairwise_append.2 ⟨h1, List.pairwise_cons.2 ⟨fun x hx => ?_, h2⟩, fun x hx y hy => ?_⟩
  · have := drop_beh hs x hx
    unfold behB at this
    rw [less_iff] at this
    rw [leR_iff]
    omega
  · rcases List.mem_cons.1 hy with rfl | hy
    · have := take_beh x hx
      unfold behB at this
      rw [less_no] at this
      rw [leR_iff]
      omega
    · exact h3 x hx y hy

theorem ins_core {M : List Rec} (hs : srt M) {r : Rec} (hr : ∀ x ∈ M, x.k = r.k → leR x r) (c : Int) : (insR M r).filter (fun x => decide (x.k = c)) = M.filter (fun x => decide (x.k = c)) ++ (if r.k = c then [r] else []) := by
  have e : M.takeWhile (fun e => !behB r e) ++ M.dropWhile (fun e => !behB r e) = M := List.takeWhile_append_dropWhile
  have eM : M.filter (fun x => decide (x.k = c)) = (M.takeWhile (fun e => !behB r e)).filter (fun x => decide (x.k = c)) ++ (M.dropWhile (fun e => !behB r e)).filter (fun x => decide (x.k = c)) := by rw [← List.filter_append, e]
  unfold insR
  rw [List.filter_append, List.filter_cons, eM]
  by_cases hc : r.k = c
  · have hz : (M.dropWhile (fun e => !behB r e)).filter (fun x => decide (x.k = c)) = [] := by
      rw [List.filter_eq_nil_iff]
      intro x hx
      have h1 := drop_beh hs x hx
      have h2 : x ∈ M := by rw [← e]; exact List.mem_append.2 (Or.inr hx)
      simp only [decide_eq_true_eq]
      intro hk
      have h3 := hr x h2 (by omega)
      unfold behB at h1
      rw [less_iff] at h1
      rw [leR_iff] at h3
      omega
    rw [hz, if_pos hc]
    simp [hc]
  · rw [if_neg hc]
    simp [hc]

/-- What the reference's Merge makes. -/
def refM (L : List (List Rec)) : List Rec := L.foldl (fun out l => l.foldl insR out) []

/-- A row of one core put in, record by record. -/
theorem fold_one : ∀ (l : List Rec) (M : List Rec) (k : Int), srt M → srt l → (∀ x ∈ l, x.k = k) → (∀ x ∈ M, x.k ≠ k ∨ ∀ y ∈ l, leR x y) → srt (l.foldl insR M) ∧ (∀ c : Int, (l.foldl insR M).filter (fun x => decide (x.k = c)) = M.filter (fun x => decide (x.k = c)) ++ l.filter (fun x => decide (x.k = c))) ∧ ∀ x ∈ l.foldl insR M, x ∈ M ∨ x ∈ l := by
  intro l
  induction l with
  | nil => intro M k hM _ _ _; exact ⟨hM, fun c => by simp, fun x hx => Or.inl hx⟩
  | cons r l ih =>
    intro M k hM hl hk hMl
    have hl' := List.pairwise_cons.1 hl
    have hrk := hk r (by simp)
    have hr : ∀ x ∈ M, x.k = r.k → leR x r := fun x hx e => by
      rcases hMl x hx with h1 | h1
      · exact absurd (e.trans hrk) h1
      · exact h1 r (by simp)
    obtain ⟨s1, s2, s3⟩ := ih (insR M r) k (ins_srt hM r) hl'.2 (fun x hx => hk x (by simp [hx])) (fun x hx => by
      rcases ins_mem.1 hx with rfl | hx
      · exact Or.inr (fun y hy => hl'.1 y hy)
      · rcases hMl x hx with h1 | h1
        · exact Or.inl h1
        · exact Or.inr (fun y hy => h1 y (by simp [hy])))
    refine ⟨s1, fun c => ?_, fun x hx => ?_⟩
    · rw [List.foldl_cons, s2 c, ins_core hM hr c, List.append_assoc]
      congr 1
      rw [List.filter_cons]
      by_cases e : r.k = c
      · rw [if_pos e, if_pos (by simpa using e)]; rfl
      · rw [if_neg e, if_neg (by simpa using e)]; rfl
    · rcases s3 x hx with h1 | h1
      · rcases ins_mem.1 h1 with rfl | h1
        · exact Or.inr (by simp)
        · exact Or.inl h1
      · exact Or.inr (by simp [h1])

/-- All the rows put in, one behind the other: the first n. -/
theorem fold_all (L : List (List Rec)) (hL : ∀ c (hc : c < L.length), srt L[c] ∧ ∀ x ∈ L[c], x.k = (c : Int)) : ∀ n, n ≤ L.length → srt (refM (L.take n)) ∧ (∀ c : Int, (refM (L.take n)).filter (fun x => decide (x.k = c)) = ((L.take n).flatMap id).filter (fun x => decide (x.k = c))) ∧ ∀ x ∈ refM (L.take n), x.k < (n : Int) := by
  intro n
  induction n with
  | zero => intro _; exact ⟨List.Pairwise.nil, fun c => rfl, fun x hx => by simp [refM] at hx⟩
  | succ n ih =>
    intro hn
    have hlt : n < L.length := by omega
    obtain ⟨h1, h2, h3⟩ := ih (by omega)
    have e : refM (L.take (n + 1)) = (L[n]).foldl insR (refM (L.take n)) := by
      unfold refM
      rw [List.take_succ_eq_append_getElem hlt, List.foldl_append]
      rfl
    obtain ⟨s1, s2, s3⟩ := fold_one L[n] (refM (L.take n)) (n : Int) h1 (hL n hlt).1 (hL n hlt).2 (fun x hx => Or.inl (by have := h3 x hx; omega))
    rw [e]
    refine ⟨s1, fun c => ?_, fun x hx => ?_⟩
    · rw [s2 c, h2 c, List.take_succ_eq_append_getElem hlt, List.flatMap_append, List.filter_append]
      simp
    · rcases s3 x hx with h4 | h4
      · have := h3 x h4; omega
      · have := (hL n hlt).2 x h4; omega

/-- Of one core's records there is one row. -/
theorem flat_core : ∀ (L : List (List Rec)) (b : Nat), (∀ c (hc : c < L.length), ∀ x ∈ L[c], x.k = ((b + c : Nat) : Int)) → ∀ c : Int, (L.flatMap id).filter (fun x => decide (x.k = c)) = if (b : Int) ≤ c then (L[(c - b).toNat]?).getD [] else [] := by
  intro L
  induction L with
  | nil => intro b _ c; simp
  | cons l L ih =>
    intro b h c
    have h0 : ∀ x ∈ l, x.k = (b : Int) := fun x hx => by have := h 0 (by simp) x (by simpa using hx); simpa using this
    have h1 := ih (b + 1) (fun c hc x hx => by have := h (c + 1) (by simpa using hc) x (by simpa using hx); rw [this]; congr 1; omega) c
    rw [List.flatMap_cons, List.filter_append, h1]
    by_cases e : (b : Int) = c
    · subst e
      rw [if_neg (by omega), if_pos (Int.le_refl _)]
      have : (l.filter fun x => decide (x.k = (b : Int))) = l := List.filter_eq_self.2 (fun x hx => by simpa using h0 x hx)
      simp [this]
    · have hz : (id l).filter (fun x => decide (x.k = c)) = [] := List.filter_eq_nil_iff.2 (fun x hx => by have := h0 x hx; simp; omega)
      rw [hz, List.nil_append]
      by_cases e2 : (b : Int) ≤ c
      · rw [if_pos (by omega), if_pos e2, show (c - (b : Int)).toNat = (c - ((b + 1 : Nat) : Int)).toNat + 1 by omega]
        simp
      · rw [if_neg (by omega), if_neg e2]

/-- The reference's row is the merge. -/
theorem refM_eq (L : List (List Rec)) (hL : ∀ c (hc : c < L.length), srt L[c] ∧ ∀ x ∈ L[c], x.k = (c : Int)) : refM L = mergeR L := by
  have hs : ∀ l ∈ L, srt l := fun l hl => by
    obtain ⟨c, hc, rfl⟩ := List.getElem_of_mem hl
    exact (hL c hc).1
  have h1 := fold_all L hL L.length (Nat.le_refl _)
  rw [List.take_of_length_le (Nat.le_refl _)] at h1
  refine row_unique _ _ h1.1 (merge_srt L hs) (fun c => ?_)
  rw [h1.2.1 c, flat_core L 0 (fun c hc x hx => by have := (hL c hc).2 x hx; simpa using this) c]
  by_cases e : (0 : Int) ≤ c
  · have hm := merge_core (fun d x => decide (x.k = (d : Int))) L (fun c hc x hx d => by
      have := (hL c hc).2 x hx
      rw [this]
      have h9 : ((c : Int) = (d : Int)) ↔ d = c := by omega
      simp only [h9]) c.toNat
    have ec : ((c.toNat : Nat) : Int) = c := by omega
    rw [ec] at hm
    rw [hm]
    simp [e]
  · rw [if_neg (by simpa using e)]
    refine (List.filter_eq_nil_iff.2 (fun x hx => ?_)).symm
    obtain ⟨l, hl, hx2⟩ := mem_mergeR hx
    obtain ⟨d, hd, rfl⟩ := List.getElem_of_mem hl
    have := (hL d hd).2 x hx2
    simp
    omega

end Go.Proofs.Ytlecpeofjabndaa
