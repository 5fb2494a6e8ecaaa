/-
  What a merge of sorted rows is: its records, its row, and what is left of it.
-/
import Derived.Test.YtlecpeofjabndaaLr
namespace Go.Proofs.Ytlecpeofjabndaa
open Go.RowKit
set_option linter.unusedVariables false
set_option linter.unusedSimpArgs false

theorem less_iff (a k b l : Int) : lessS a k b l = true ↔ a < b ∨ (a = b ∧ k < l) := by
  unfold lessS
  by_cases h : a = b
  · rw [if_pos h]; simp [h]
  · rw [if_neg h]; simp [h]

theorem less_no (a k b l : Int) : lessS a k b l = false ↔ ¬ (a < b ∨ (a = b ∧ k < l)) := by
  rw [← less_iff]; simp

/-- x does not stand behind y. -/
def leR (x y : Rec) : Prop := lessS y.a y.k x.a x.k = false

theorem leR_iff (x y : Rec) : leR x y ↔ x.a < y.a ∨ (x.a = y.a ∧ x.k ≤ y.k) := by
  unfold leR
  rw [less_no]
  omega

theorem leR_trans {x y z : Rec} (h : leR x y) (k : leR y z) : leR x z := by rw [leR_iff] at *; omega
theorem leR_refl (x : Rec) : leR x x := by rw [leR_iff]; omega

/-- The head that is taken is the least. -/
theorem leastN_le (L : List (List Rec)) : ∀ n m, n ≤ L.length → leastN L n = some m → ∀ h t, L[m]? = some (h :: t) → ∀ c, c < n → ∀ r s, L[c]? = some (r :: s) → leR h r := by
  intro n
  induction n with
  | zero => intro m _ h; cases h
  | succ n ih =>
    intro m hn hm h t hh c hc r s hr
    unfold leastN at hm
    rcases hx : L[n]? with _ | ⟨_ | ⟨r0, t0⟩⟩
    · rw [List.getElem?_eq_none_iff] at hx; omega
    · rw [hx] at hm
      have hcn : c ≠ n := fun e => by subst e; rw [hx] at hr; cases hr
      exact ih m (by omega) hm h t hh c (by omega) r s hr
    · rw [hx] at hm
      dsimp only at hm
      rcases hy : leastN L n with _ | q
      · rw [hy] at hm
        simp at hm
        subst hm
        by_cases e : c = n
        · subst e
          rw [hx] at hh hr
          cases hh; cases hr
          exact leR_refl _
        · have := leastN_none L n (by omega) hy c (by omega)
          rw [hr] at this; cases this
      · rw [hy] at hm
        obtain ⟨hq, h', t', e'⟩ := leastN_mem L n q (by omega) hy
        dsimp only at hm
        rw [e'] at hm
        dsimp only at hm
        have old := ih q (by omega) hy h' t' e'
        by_cases cc : lessS r0.a r0.k h'.a h'.k = true
        · rw [if_pos cc] at hm
          simp at hm
          subst hm
          rw [hx] at hh
          cases hh
          by_cases e : c = n
          · subst e; rw [hx] at hr; cases hr; exact leR_refl _
          · have h1 := old c (by omega) r s hr
            refine leR_trans ?_ h1
            rw [leR_iff]
            rw [less_iff] at cc
            omega
        · rw [if_neg cc] at hm
          simp at hm
          subst hm
          rw [e'] at hh
          cases hh
          by_cases e : c = n
          · subst e; rw [hx] at hr; cases hr
            unfold leR
            simpa using cc
          · exact old c (by omega) r s hr

/-- Sorted. -/
def srt (l : List Rec) : Prop := l.Pairwise leR

theorem mem_mergeF : ∀ (n : Nat) (L : List (List Rec)) (x : Rec), x ∈ mergeF n L → ∃ l ∈ L, x ∈ l := by
  intro n
  induction n with
  | zero => intro L x h; simp [mergeF] at h
  | succ n ih =>
    intro L x h
    unfold mergeF at h
    rcases hy : leastN L L.length with _ | m
    · rw [hy] at h; simp at h
    · rw [hy] at h
      obtain ⟨hm, r, t, hz⟩ := leastN_mem L L.length m (Nat.le_refl _) hy
      dsimp only at h
      rw [hz] at h
      dsimp only at h
      have hmem : (r :: t) ∈ L := List.mem_of_getElem? hz
      rcases List.mem_cons.1 h with rfl | h
      · exact ⟨_, hmem, by simp⟩
      · obtain ⟨l, hl, hx⟩ := ih _ x h
        rcases List.mem_or_eq_of_mem_set hl with h1 | rfl
        · exact ⟨l, h1, hx⟩
        · exact ⟨_, hmem, by simp [hx]⟩

theorem mem_mergeR {L : List (List Rec)} {x : Rec} (h : x ∈ mergeR L) : ∃ l ∈ L, x ∈ l := mem_mergeF _ _ _ h

theorem totR_zero {L : List (List Rec)} (h : leastN L L.length = none) : totR L = 0 := by
  have h1 := leastN_none L L.length (Nat.le_refl _) h
  have : ∀ l ∈ L, l = [] := fun l hl => by
    obtain ⟨c, hc, rfl⟩ := List.getElem_of_mem hl
    have := h1 c hc
    rw [List.getElem?_eq_getElem hc] at this
    exact Option.some.inj this
  unfold totR
  clear h h1
  induction L with
  | nil => rfl
  | cons x L ih =>
    have e := this x (by simp)
    subst e
    simpa using ih (fun l hl => this l (by simp [hl]))

/-- Induction over a merge. -/
theorem merge_ind {P : List (List Rec) → Prop} (h0 : ∀ L, leastN L L.length = none → P L) (h1 : ∀ L m r t, leastN L L.length = some m → L[m]? = some (r :: t) → P (L.set m t) → P L) : ∀ L, P L := by
  intro L
  obtain ⟨n, hn⟩ : ∃ n, totR L = n := ⟨_, rfl⟩
  induction n generalizing L with
  | zero =>
    rcases hy : leastN L L.length with _ | m
    · exact h0 L hy
    · obtain ⟨hm, r, t, hz⟩ := leastN_mem L L.length m (Nat.le_refl _) hy
      have := totR_set hm hz
      omega
  | succ n ih =>
    rcases hy : leastN L L.length with _ | m
    · exact h0 L hy
    · obtain ⟨hm, r, t, hz⟩ := leastN_mem L L.length m (Nat.le_refl _) hy
      have := totR_set hm hz
      exact h1 L m r t hy hz (ih _ (by omega))

theorem mergeR_length : ∀ L, (mergeR L).length = totR L := by
  apply merge_ind
  · intro L h; rw [mergeR_none h, totR_zero h]; rfl
  · intro L m r t h hz ih
    have hm := (leastN_mem L L.length m (Nat.le_refl _) h).1
    rw [mergeR_some h hz, List.length_cons, ih, totR_set hm hz]

theorem srt_set {L : List (List Rec)} {m : Nat} {r : Rec} {t : List Rec} (hz : L[m]? = some (r :: t)) (hs : ∀ l ∈ L, srt l) : ∀ l ∈ L.set m t, srt l := fun l hl => by
  rcases List.mem_or_eq_of_mem_set hl with h1 | rfl
  · exact hs l h1
  · have := hs _ (List.mem_of_getElem? hz)
    exact (List.pairwise_cons.1 this).2

/-- The least head is below all records. -/
theorem least_all {L : List (List Rec)} {m : Nat} {r : Rec} {t : List Rec} (h : leastN L L.length = some m) (hz : L[m]? = some (r :: t)) (hs : ∀ l ∈ L, srt l) : ∀ l ∈ L, ∀ x ∈ l, leR r x := fun l hl x hx => by
  obtain ⟨c, hc, rfl⟩ := List.getElem_of_mem hl
  rcases e : L[c] with _ | ⟨y, s⟩
  · rw [e] at hx; simp at hx
  · have h1 := leastN_le L L.length m (Nat.le_refl _) h r t hz c hc y s (by rw [List.getElem?_eq_getElem hc, e])
    rw [e] at hx
    rcases List.mem_cons.1 hx with rfl | hx
    · exact h1
    · have := hs _ (List.getElem_mem hc)
      rw [e] at this
      exact leR_trans h1 ((List.pairwise_cons.1 this).1 x hx)

theorem keep_up {ua uk : Int} {x y : Rec} (h : leR x y) (k : keepB ua uk x = true) : keepB ua uk y = true := by
  unfold keepB at *
  rw [less_iff] at *
  rw [leR_iff] at h
  omega

theorem map_filter_all {L : List (List Rec)} {ua uk : Int} (h : ∀ l ∈ L, ∀ x ∈ l, keepB ua uk x = true) : L.map (List.filter (keepB ua uk)) = L := by
  induction L with
  | nil => rfl
  | cons l L ih =>
    rw [List.map_cons, ih (fun l' hl => h l' (by simp [hl])), List.filter_eq_self.2 (h l (by simp))]

/-- What is left of a merge is the merge of what is left. -/
theorem merge_filter (ua uk : Int) : ∀ L, (∀ l ∈ L, srt l) → mergeR (L.map (List.filter (keepB ua uk))) = (mergeR L).filter (keepB ua uk) := by
  apply merge_ind
  · intro L h hs
    have e : L.map (List.filter (keepB ua uk)) = L := map_filter_all (fun l hl x hx => by
      obtain ⟨c, hc, rfl⟩ := List.getElem_of_mem hl
      have := leastN_none L L.length (Nat.le_refl _) h c hc
      rw [List.getElem?_eq_getElem hc] at this
      rw [Option.some.inj this] at hx
      simp at hx)
    rw [e, mergeR_none h]
    rfl
  · intro L m r t h hz ih hs
    rcases hb : keepB ua uk r with _ | _
    · have e : L.map (List.filter (keepB ua uk)) = (L.set m t).map (List.filter (keepB ua uk)) := by
        rw [List.map_set]
        refine (list_set_self _ m _ ?_).symm
        rw [List.getElem?_map, hz]
        simp [hb]
      rw [e, ih (srt_set hz hs), mergeR_some h hz]
      simp [hb]
    · have hall : ∀ l ∈ L, ∀ x ∈ l, keepB ua uk x = true := fun l hl x hx => keep_up (least_all h hz hs l hl x hx) hb
      rw [map_filter_all hall, List.filter_eq_self.2]
      intro x hx
      obtain ⟨l, hl, hx2⟩ := mem_mergeR hx
      exact hall l hl x hx2

/-- A merge of sorted rows is sorted. -/
theorem merge_srt : ∀ L, (∀ l ∈ L, srt l) → srt (mergeR L) := by
  apply merge_ind
  · intro L h _; rw [mergeR_none h]; exact List.Pairwise.nil
  · intro L m r t h hz ih hs
    rw [mergeR_some h hz]
    refine List.pairwise_cons.2 ⟨fun x hx => ?_, ih (srt_set hz hs)⟩
    obtain ⟨l, hl, hx2⟩ := mem_mergeR hx
    rcases List.mem_or_eq_of_mem_set hl with h1 | rfl
    · exact least_all h hz hs l h1 x hx2
    · exact least_all h hz hs _ (List.mem_of_getElem? hz) x (by simp [hx2])

/-- Of each core the row is kept. -/
theorem merge_core (P : Nat → Rec → Bool) : ∀ L, (∀ c (hc : c < L.length), ∀ x ∈ L[c], ∀ d, P d x = decide (d = c)) → ∀ c, (mergeR L).filter (P c) = (L[c]?).getD [] := by
  apply merge_ind
  · intro L h _ c
    rw [mergeR_none h]
    rcases Nat.lt_or_ge c L.length with hc | hc
    · rw [leastN_none L L.length (Nat.le_refl _) h c hc]; rfl
    · rw [List.getElem?_eq_none hc]; rfl
  · intro L m r t h hz ih hP c
    have hm := (leastN_mem L L.length m (Nat.le_refl _) h).1
    have em : L[m] = r :: t := by rw [List.getElem?_eq_getElem hm] at hz; exact Option.some.inj hz
    have hP2 : ∀ c (hc : c < (L.set m t).length), ∀ x ∈ (L.set m t)[c], ∀ d, P d x = decide (d = c) := fun c hc x hx d => by
      have hc' : c < L.length := by simpa using hc
      by_cases e : m = c
      · subst e
        rw [List.getElem_set_self] at hx
        exact hP m hc' x (by rw [em]; simp [hx]) d
      · rw [List.getElem_set_ne e] at hx
        exact hP c hc' x hx d
    have h1 := ih hP2 c
    have h2 := hP m hm r (by rw [em]; simp) c
    rw [mergeR_some h hz, List.filter_cons, h1]
    by_cases e : c = m
    · subst e
      rw [if_pos (by rw [h2]; simp), List.getElem?_set_self hm, hz]
      rfl
    · rw [if_neg (by rw [h2]; simpa using e), List.getElem?_set_ne (fun e' => e e'.symm)]

end Go.Proofs.Ytlecpeofjabndaa
