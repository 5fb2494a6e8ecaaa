/-
  Slots of a directory, plainly: which words they have, what a look for a name or a free slot finds, which entries they hold. (No program stands in this text.)
-/
import Derived.Test.YtnbbcbjfejdceaaDoorDv
namespace Go.Proofs.YtnbbcbjfejdceaaDoor
open Go.RowKit
set_option linter.unusedVariables false

/-- What each of the 32 slots has. -/
abbrev Sts := Nat → Option En

/-- Its words. -/
def sw (T : Sts) : Nat → Int := fun q => match T (q / 3) with
  | none => 0
  | some e => if q % 3 = 0 then e.2 else if q % 3 = 1 then sp0 e.1 else sp1 e.1

/-- A slot turned. -/
def setT (T : Sts) (t : Nat) (o : Option En) : Sts := fun u => if u = t then o else T u

theorem setT_at (T : Sts) (t : Nat) (o : Option En) : setT T t o t = o := if_pos rfl
theorem setT_ne (T : Sts) {t u : Nat} (o : Option En) (h : u ≠ t) : setT T t o u = T u := if_neg h

structure Good (T : Sts) : Prop where
  may : ∀ t e, t < 32 → T t = some e → chk e.1 = 0
  bkt : ∀ t e, t < 32 → T t = some e → bkt e.1 = ((t / 4 : Nat) : Int)
  one : ∀ t u e d, t < 32 → u < 32 → T t = some e → T u = some d → e.1 = d.1 → t = u

theorem Good.empty : Good fun _ => none := ⟨fun _ _ _ h => (by cases h), fun _ _ _ h => (by cases h), fun _ _ _ _ _ _ h => (by cases h)⟩

theorem sw_empty : sw (fun _ => none) = fun _ => 0 := rfl

theorem sw_0 (T : Sts) (t : Nat) : sw T (t * 3) = match T t with | none => 0 | some e => e.2 := by
  unfold sw
  rw [show t * 3 / 3 = t by omega, show t * 3 % 3 = 0 by omega]
  rfl
theorem sw_1 (T : Sts) (t : Nat) : sw T (t * 3 + 1) = match T t with | none => 0 | some e => sp0 e.1 := by
  unfold sw
  rw [show (t * 3 + 1) / 3 = t by omega, show (t * 3 + 1) % 3 = 1 by omega]
  rfl
theorem sw_2 (T : Sts) (t : Nat) : sw T (t * 3 + 2) = match T t with | none => 0 | some e => sp1 e.1 := by
  unfold sw
  rw [show (t * 3 + 2) / 3 = t by omega, show (t * 3 + 2) % 3 = 2 by omega]
  rfl

theorem split3 (q : Nat) : q = q / 3 * 3 ∨ q = q / 3 * 3 + 1 ∨ q = q / 3 * 3 + 2 := by omega

theorem sw_put (T : Sts) (t : Nat) (s : ByteArray) (x : Int) : upd3 (sw T) (t * 3) x (sp0 s) (sp1 s) = sw (setT T t (some (s, x))) := by
  funext q
  obtain ⟨u, hu⟩ : ∃ u, u = q / 3 := ⟨_, rfl⟩
  have h3 := split3 q
  rw [← hu] at h3
  clear hu
  unfold upd3 upd
  by_cases e : u = t
  · subst e
    rcases h3 with rfl | rfl | rfl
    · rw [if_neg (by omega), if_neg (by omega), if_pos rfl, sw_0, setT_at]
    · rw [if_neg (by omega), if_pos rfl, sw_1, setT_at]
    · rw [if_pos rfl, sw_2, setT_at]
  · rcases h3 with rfl | rfl | rfl
    · rw [if_neg (by omega), if_neg (by omega), if_neg (by omega), sw_0, sw_0, setT_ne _ _ e]
    · rw [if_neg (by omega), if_neg (by omega), if_neg (by omega), sw_1, sw_1, setT_ne _ _ e]
    · rw [if_neg (by omega), if_neg (by omega), if_neg (by omega), sw_2, sw_2, setT_ne _ _ e]

theorem sw_clr (T : Sts) (t : Nat) : upd3 (sw T) (t * 3) 0 0 0 = sw (setT T t none) := by
  funext q
  obtain ⟨u, hu⟩ : ∃ u, u = q / 3 := ⟨_, rfl⟩
  have h3 := split3 q
  rw [← hu] at h3
  clear hu
  unfold upd3 upd
  by_cases e : u = t
  · subst e
    rcases h3 with rfl | rfl | rfl
    · rw [if_neg (by omega), if_neg (by omega), if_pos rfl, sw_0, setT_at]
    · rw [if_neg (by omega), if_pos rfl, sw_1, setT_at]
    · rw [if_pos rfl, sw_2, setT_at]
  · rcases h3 with rfl | rfl | rfl
    · rw [if_neg (by omega), if_neg (by omega), if_neg (by omega), sw_0, sw_0, setT_ne _ _ e]
    · rw [if_neg (by omega), if_neg (by omega), if_neg (by omega), sw_1, sw_1, setT_ne _ _ e]
    · rw [if_neg (by omega), if_neg (by omega), if_neg (by omega), sw_2, sw_2, setT_ne _ _ e]

/-- A slot has a name's spelling just if it has the name. -/
theorem hit_name {T : Sts} (G : Good T) {s : ByteArray} (hs : chk s = 0) {n i : Nat} (hn : n < 8) (hi : i < 4) : hit (fun j => sw T (n * 12 + j)) (sp0 s) (sp1 s) i = true ↔ ∃ x, T (n * 4 + i) = some (s, x) := by
  unfold hit
  simp only []
  rw [show n * 12 + (i * 3 + 1) = (n * 4 + i) * 3 + 1 by omega, show n * 12 + (i * 3 + 2) = (n * 4 + i) * 3 + 2 by omega, sw_1, sw_2]
  rcases hT : T (n * 4 + i) with _ | ⟨u, x⟩
  · simp only [Bool.and_eq_true, beq_iff_eq]
    exact ⟨fun h => absurd ⟨h.1.symm, h.2.symm⟩ (sp_some hs), fun ⟨x, h⟩ => by cases h⟩
  · simp only [Bool.and_eq_true, beq_iff_eq]
    have hu := G.may _ _ (by omega) hT
    constructor
    · rintro ⟨h1, h2⟩
      have e : u = s := sp_inj hu hs h1 h2
      exact ⟨x, by rw [e]⟩
    · rintro ⟨y, hy⟩
      cases hy
      exact ⟨rfl, rfl⟩

/-- A slot has no name's spelling just if it is free. -/
theorem hit_free {T : Sts} (G : Good T) {n i : Nat} (hn : n < 8) (hi : i < 4) : hit (fun j => sw T (n * 12 + j)) 0 0 i = true ↔ T (n * 4 + i) = none := by
  unfold hit
  simp only []
  rw [show n * 12 + (i * 3 + 1) = (n * 4 + i) * 3 + 1 by omega, show n * 12 + (i * 3 + 2) = (n * 4 + i) * 3 + 2 by omega, sw_1, sw_2]
  rcases hT : T (n * 4 + i) with _ | ⟨u, x⟩
  · simp
  · simp only [Bool.and_eq_true, beq_iff_eq]
    have hu := G.may _ _ (by omega) hT
    exact ⟨fun h => absurd h (sp_some hu), fun h => by cases h⟩

/-- Where a name is found. -/
theorem find_yes {T : Sts} (G : Good T) {t : Nat} {s : ByteArray} {x : Int} (ht : t < 32) (hT : T t = some (s, x)) : ∃ n i : Nat, n < 8 ∧ i < 4 ∧ t = n * 4 + i ∧ bkt s = (n : Int) ∧ fnd (fun j => sw T (n * 12 + j)) (sp0 s) (sp1 s) = (i : Int) := by
  have hs := G.may _ _ ht hT
  have hb := G.bkt _ _ ht hT
  refine ⟨t / 4, t % 4, by omega, by omega, by omega, hb, ?_⟩
  rcases fnd_cases (fun j => sw T (t / 4 * 12 + j)) (sp0 s) (sp1 s) with ⟨-, h⟩ | ⟨i, hi, h1, h2⟩
  · have := h (t % 4) (by omega)
    have h3 := (hit_name G hs (n := t / 4) (i := t % 4) (by omega) (by omega)).2 ⟨x, by rw [show t / 4 * 4 + t % 4 = t by omega]; exact hT⟩
    rw [this] at h3
    cases h3
  · obtain ⟨y, hy⟩ := (hit_name G hs (by omega) hi).1 h2
    have := G.one _ _ _ _ (by omega) ht hy hT rfl
    rw [h1]
    omega

theorem find_no {T : Sts} (G : Good T) {s : ByteArray} (hs : chk s = 0) (hT : ∀ t x, t < 32 → T t ≠ some (s, x)) {n : Nat} (hn : n < 8) : fnd (fun j => sw T (n * 12 + j)) (sp0 s) (sp1 s) = -1 := by
  rcases fnd_cases (fun j => sw T (n * 12 + j)) (sp0 s) (sp1 s) with h | ⟨i, hi, h1, h2⟩
  · exact h.1
  · obtain ⟨y, hy⟩ := (hit_name G hs hn hi).1 h2
    exact absurd hy (hT _ _ (by omega))

theorem find_free {T : Sts} (G : Good T) {n : Nat} (hn : n < 8) : (fnd (fun j => sw T (n * 12 + j)) 0 0 = -1 ∧ ∀ i, i < 4 → T (n * 4 + i) ≠ none) ∨ ∃ i : Nat, i < 4 ∧ fnd (fun j => sw T (n * 12 + j)) 0 0 = (i : Int) ∧ T (n * 4 + i) = none := by
  rcases fnd_cases (fun j => sw T (n * 12 + j)) 0 0 with ⟨h1, h2⟩ | ⟨i, hi, h1, h2⟩
  · refine Or.inl ⟨h1, fun i hi hT => ?_⟩
    have := (hit_free G hn hi).2 hT
    rw [h2 i hi] at this
    cases this
  · exact Or.inr ⟨i, hi, h1, (hit_free G hn hi).1 h2⟩

/-! ### Slots and entries -/

/-- The slots hold just the entries E, which are by name rising. -/
def Rel (T : Sts) (E : List En) : Prop := Rise E ∧ ∀ x, x ∈ E ↔ ∃ t, t < 32 ∧ T t = some x

theorem Rel.empty : Rel (fun _ => none) [] := ⟨List.Pairwise.nil, fun x => ⟨fun h => (by cases h), fun ⟨_, _, h⟩ => (by cases h)⟩⟩

theorem Rel.no {T : Sts} {E : List En} (h : Rel T E) {s : ByteArray} (hn : ∀ x ∈ E, x.1 ≠ s) : ∀ t x, t < 32 → T t ≠ some (s, x) := fun t x ht hT => hn (s, x) ((h.2 _).2 ⟨t, ht, hT⟩) rfl

/-- An entry less. -/
def dropE (E : List En) (s : ByteArray) : List En := E.filter fun x => decide (x.1 ≠ s)

theorem mem_dropE {E : List En} {s : ByteArray} {x : En} : x ∈ dropE E s ↔ x ∈ E ∧ x.1 ≠ s := by unfold dropE; rw [List.mem_filter, decide_eq_true_eq]

theorem rise_dropE {E : List En} (h : Rise E) (s : ByteArray) : Rise (dropE E s) := List.Pairwise.sublist List.filter_sublist h

theorem good_put {T : Sts} (G : Good T) {s : ByteArray} (hs : chk s = 0) (hT : ∀ t x, t < 32 → T t ≠ some (s, x)) {t : Nat} (ht : t < 32) (hb : bkt s = ((t / 4 : Nat) : Int)) (x : Int) : Good (setT T t (some (s, x))) := by
  refine ⟨fun u e hu h => ?_, fun u e hu h => ?_, fun u v e d hu hv h1 h2 he => ?_⟩
  · by_cases c : u = t
    · rw [c, setT_at] at h; cases h; exact hs
    · rw [setT_ne _ _ c] at h; exact G.may u e hu h
  · by_cases c : u = t
    · rw [c, setT_at] at h; cases h; rw [c]; exact hb
    · rw [setT_ne _ _ c] at h; exact G.bkt u e hu h
  · by_cases c : u = t
    · by_cases c2 : v = t
      · rw [c, c2]
      · rw [c, setT_at] at h1; cases h1
        rw [setT_ne _ _ c2] at h2
        exact absurd (show T v = some (s, d.2) by rw [h2, show d = (d.1, d.2) from rfl, ← he]) (hT v d.2 hv)
    · rw [setT_ne _ _ c] at h1
      by_cases c2 : v = t
      · rw [c2, setT_at] at h2; cases h2
        exact absurd (show T u = some (s, e.2) by rw [h1, show e = (e.1, e.2) from rfl, he]) (hT u e.2 hu)
      · rw [setT_ne _ _ c2] at h2
        exact G.one u v e d hu hv h1 h2 he

theorem good_clr {T : Sts} (G : Good T) (t : Nat) : Good (setT T t none) := by
  have k : ∀ u e, setT T t none u = some e → T u = some e := fun u e h => by
    by_cases c : u = t
    · rw [c, setT_at] at h; cases h
    · rwa [setT_ne _ _ c] at h
  exact ⟨fun u e hu h => G.may u e hu (k u e h), fun u e hu h => G.bkt u e hu (k u e h), fun u v e d hu hv h1 h2 he => G.one u v e d hu hv (k u e h1) (k v d h2) he⟩

theorem rel_put {T : Sts} {E : List En} (R : Rel T E) {s : ByteArray} (hn : ∀ x ∈ E, x.1 ≠ s) {t : Nat} (ht : t < 32) (hf : T t = none) (x : Int) : Rel (setT T t (some (s, x))) (putE E (s, x)) := by
  refine ⟨rise_put R.1 (fun y hy => hn y hy), fun y => ?_⟩
  rw [mem_put]
  constructor
  · rintro (rfl | h)
    · exact ⟨t, ht, setT_at _ _ _⟩
    · obtain ⟨u, hu, hT⟩ := (R.2 y).1 h
      refine ⟨u, hu, ?_⟩
      rw [setT_ne _ _ (fun e => by rw [e, hf] at hT; cases hT)]
      exact hT
  · rintro ⟨u, hu, hT⟩
    by_cases c : u = t
    · rw [c, setT_at] at hT; cases hT; exact Or.inl rfl
    · rw [setT_ne _ _ c] at hT
      exact Or.inr ((R.2 y).2 ⟨u, hu, hT⟩)

theorem rel_clr {T : Sts} {E : List En} (G : Good T) (R : Rel T E) {s : ByteArray} {x : Int} {t : Nat} (ht : t < 32) (hT : T t = some (s, x)) : Rel (setT T t none) (dropE E s) := by
  refine ⟨rise_dropE R.1 s, fun y => ?_⟩
  rw [mem_dropE]
  constructor
  · rintro ⟨h, hne⟩
    obtain ⟨u, hu, hTu⟩ := (R.2 y).1 h
    refine ⟨u, hu, ?_⟩
    rw [setT_ne _ _ (fun e => ?_)]
    · exact hTu
    · rw [e, hT] at hTu; cases hTu; exact hne rfl
  · rintro ⟨u, hu, hTu⟩
    by_cases c : u = t
    · rw [c, setT_at] at hTu; cases hTu
    · rw [setT_ne _ _ c] at hTu
      exact ⟨(R.2 y).2 ⟨u, hu, hTu⟩, fun e => c (G.one u t y (s, x) hu ht hTu hT e)⟩

/-! ### How many have a bucket -/

/-- The entries of the slots, slot by slot. -/
def tl (T : Sts) (m : Nat) : List En := (List.range m).filterMap T

theorem tl_succ (T : Sts) (m : Nat) : tl T (m + 1) = tl T m ++ (T m).toList := by
  unfold tl
  rw [List.range_succ, List.filterMap_append]
  congr 1

theorem mem_tl {T : Sts} {m : Nat} {x : En} : x ∈ tl T m ↔ ∃ t, t < m ∧ T t = some x := by
  unfold tl
  rw [List.mem_filterMap]
  simp only [List.mem_range]

theorem tl_len (T : Sts) (m : Nat) : (tl T m).length ≤ m := by
  unfold tl
  exact Nat.le_trans (List.length_filterMap_le ..) (by simp)

theorem tl_names {T : Sts} (G : Good T) (m : Nat) (hm : m ≤ 32) : (tl T m).Pairwise fun x y => x.1 ≠ y.1 := by
  induction m with
  | zero => exact List.Pairwise.nil
  | succ m ih =>
    rw [tl_succ, List.pairwise_append]
    refine ⟨ih (by omega), by rcases T m with _ | e <;> simp, fun x hx y hy e => ?_⟩
    obtain ⟨t, ht, hT⟩ := mem_tl.1 hx
    have hy' : T m = some y := by simpa using hy
    have := G.one t m x y (by omega) (by omega) hT hy' e
    omega

theorem tl_nodup {T : Sts} (G : Good T) : (tl T 32).Nodup := List.Pairwise.imp (fun h e => h (by rw [e])) (tl_names G 32 (Nat.le_refl _))

/-- Is a slot taken by another name than one? -/
def tk (T : Sts) (but : ByteArray) (t : Nat) : Bool := match T t with
  | none => false
  | some x => decide (x.1 ≠ but)

theorem four_range : ∀ b : Fin 8, (List.range 32).filter (fun t => t / 4 == b.1) = [b.1 * 4, b.1 * 4 + 1, b.1 * 4 + 2, b.1 * 4 + 3] := by decide

theorem many_slots {T : Sts} {E : List En} (G : Good T) (R : Rel T E) {b : Nat} (hb : b < 8) (but : ByteArray) : many E (b : Int) but = ([b * 4, b * 4 + 1, b * 4 + 2, b * 4 + 3].filter (tk T but)).length := by
  rw [many_of (rise_nodup R.1) (tl_nodup G) (fun x => by rw [R.2 x, mem_tl])]
  unfold many tl
  rw [List.filter_filterMap, List.length_filterMap_eq_countP, ← List.countP_eq_length_filter, ← four_range ⟨b, hb⟩, List.countP_filter]
  apply List.countP_congr
  intro t ht
  have ht' : t < 32 := List.mem_range.1 ht
  unfold tk
  rcases hT : T t with _ | x
  · simp
  · have := G.bkt t x ht' hT
    simp only [Option.filter_some, Option.isSome_ite, Bool.and_eq_true, decide_eq_true_eq, beq_iff_eq, this]
    constructor
    · rintro ⟨h1, h2⟩
      exact ⟨h1, by omega⟩
    · rintro ⟨h1, h2⟩
      exact ⟨h1, by omega⟩

theorem full_iff {T : Sts} {E : List En} (G : Good T) (R : Rel T E) {b : Nat} (hb : b < 8) (but : ByteArray) : 4 ≤ many E (b : Int) but ↔ ∀ i, i < 4 → tk T but (b * 4 + i) = true := by
  rw [many_slots G R hb but]
  constructor
  · intro h i hi
    have hl : ([b * 4, b * 4 + 1, b * 4 + 2, b * 4 + 3].filter (tk T but)).length = [b * 4, b * 4 + 1, b * 4 + 2, b * 4 + 3].length := by
      have := List.length_filter_le (tk T but) [b * 4, b * 4 + 1, b * 4 + 2, b * 4 + 3]
      simp only [List.length_cons, List.length_nil] at this ⊢
      omega
    have ha := List.length_filter_eq_length_iff.1 hl
    apply ha
    rcases (show i = 0 ∨ i = 1 ∨ i = 2 ∨ i = 3 by omega) with rfl | rfl | rfl | rfl <;> simp
  · intro h
    have h0 := h 0 (by omega)
    have h1 := h 1 (by omega)
    have h2 := h 2 (by omega)
    have h3 := h 3 (by omega)
    simp only [Nat.add_zero] at h0
    simp [h0, h1, h2, h3]

end Go.Proofs.YtnbbcbjfejdceaaDoor
