/-
  Rows of texts of a call's own beside a directory; an entry less, counted; names of one bucket among names of digits.
-/
import Derived.Test.YtnbbcbjfejdceaaDoorMy
namespace Go.Proofs.YtnbbcbjfejdceaaDoor
open Go.RowKit
set_option linter.unusedVariables false

theorem drop_perm {E : List En} (h : Rise E) {s : ByteArray} {x : Int} (hx : (s, x) ∈ E) : E.Perm ((s, x) :: dropE E s) := by
  have hn : ((s, x) :: dropE E s).Nodup := by
    rw [List.nodup_cons]
    exact ⟨fun hm => (mem_dropE.1 hm).2 rfl, rise_nodup (rise_dropE h s)⟩
  refine (List.perm_ext_iff_of_nodup (rise_nodup h) hn).2 fun y => ?_
  rw [List.mem_cons, mem_dropE]
  constructor
  · intro hy
    by_cases e : y.1 = s
    · exact Or.inl (rise_name h hy hx e)
    · exact Or.inr ⟨hy, e⟩
  · rintro (rfl | hy)
    · exact hx
    · exact hy.1

theorem drop_length {E : List En} (h : Rise E) {s : ByteArray} {x : Int} (hx : (s, x) ∈ E) : E.length = (dropE E s).length + 1 := by
  rw [(drop_perm h hx).length_eq]; rfl

theorem many_drop {E : List En} (h : Rise E) {s : ByteArray} {x : Int} (hx : (s, x) ∈ E) (b : Int) (but : ByteArray) : many E b but = many (dropE E s) b but + if s ≠ but ∧ bkt s = b then 1 else 0 := by
  have e := ((drop_perm h hx).filter fun e => decide (e.1 ≠ but) && bkt e.1 == b).length_eq
  unfold many
  rw [e, List.filter_cons]
  by_cases h : s ≠ but ∧ bkt s = b
  · rw [if_pos h]
    simp [h.1, h.2]
  · rw [if_neg h]
    have : (decide (s ≠ but) && bkt s == b) = false := by
      rw [← Bool.not_eq_true, Bool.and_eq_true, decide_eq_true_eq, beq_iff_eq]
      exact h
    simp only [this]
    simp

/-- The row of texts of a slice that lies in the blocks D. -/
def Ot (u : Value) (xs : List ByteArray) (D : List (Nat × Obj)) : Prop :=
  (u = .slice none 0 0 ∧ xs = [] ∧ D = []) ∨ ∃ g cap cur, u = .slice (some ⟨g, 0, none⟩) xs.length cap ∧ D = [(g, .cells cur 9 (0, 0))] ∧ xs.length ≤ cap ∧ cap ≤ maxLen ∧ cur.size = cap * 1 ∧ cur.toList.take (xs.length * 1) = xs.map Value.string

theorem Ot.own {u : Value} {xs : List ByteArray} {D : List (Nat × Obj)} (h : Ot u xs D) {w : World} (hx : ∀ x ∈ D, w.heap[x.1]? = some x.2) : w.ownsRow 0 9 1 u xs.length (xs.map Value.string) := by
  rcases h with ⟨rfl, rfl, -⟩ | ⟨g, cap, cur, rfl, rfl, h1, h2, h3, h4⟩
  · exact World.ownsRow_nil w 0 9 1
  · exact ⟨by simp, Or.inr ⟨g, cap, cur, rfl, by omega, hx _ (List.mem_singleton.2 rfl), h1, h2, h3, h4⟩⟩

theorem Ot.slice {u : Value} {xs : List ByteArray} {D : List (Nat × Obj)} (h : Ot u xs D) : ∃ a c, u = .slice a xs.length c := by
  rcases h with ⟨rfl, rfl, -⟩ | ⟨g, cap, cur, rfl, -⟩
  · exact ⟨_, _, rfl⟩
  · exact ⟨_, _, rfl⟩

theorem Ot.block {u : Value} {xs : List ByteArray} {D : List (Nat × Obj)} (h : Ot u xs D) : ∀ x, u.ownBlock = some x → ∃ o, (x, o) ∈ D := fun x hx => by
  rcases h with ⟨rfl, -, -⟩ | ⟨q, cap, cur, rfl, rfl, -⟩
  · simp [Value.ownBlock] at hx
  · simp [Value.ownBlock] at hx; exact ⟨_, by subst hx; exact List.mem_singleton.2 rfl⟩

theorem Ot.cell {a : Option Addr} {n c : Nat} {xs : List ByteArray} {D : List (Nat × Obj)} (h : Ot (.slice a n c) xs D) {w : World} (hx : ∀ x ∈ D, w.heap[x.1]? = some x.2) {i : Nat} (hi : i < xs.length) : ∃ g, a = some ⟨g, 0, none⟩ ∧ w.cell? ⟨g, i, none⟩ = some (.string xs[i]) := by
  rcases h with ⟨h1, rfl, -⟩ | ⟨g, cap, cur, h1, rfl, h2, h3, h4, h5⟩
  · simp at hi
  · rw [Value.slice.injEq] at h1
    refine ⟨g, h1.1, ?_⟩
    rw [cell_of_row _ _ _ _ _ _ (hx _ (List.mem_singleton.2 rfl))]
    have h8 : (cur.toList.take (xs.length * 1))[i]? = (xs.map Value.string)[i]? := by rw [h5]
    rw [List.getElem?_take_of_lt (by omega), Array.getElem?_toList] at h8
    rw [h8]
    simp [hi]

theorem info9 : (Tryd.prog.info? 9).map (fun i => (i.zero, i.size, i.bytes)) = some (some (.string ⟨#[]⟩), 1, 16) := by kernel_rfl

section
variable {I : Trc → Prop} {S : List (Nat × Obj)} {w0 w : World} {b g f k L N : Nat} {E : List En}

/-- A row's block turned, or a new one in its place. -/
theorem Dd.rowT {D : List (Nat × Obj)} {u : Value} {xs : List ByteArray} (h : Dd I (D ++ S) w0 w b g f k L N E) (hu : Ot u xs D) (hS : (g, box b f) ∈ S) (hd : ∀ x ∈ D, ∀ y ∈ S, y.1 ≠ x.1) {w' : World} (hK : Kept u.ownBlock.toList w w') {g' : Nat} {o : Obj} (hg' : u.ownBlock = some g' ∨ w.heap.size ≤ g') (ho : w'.heap[g']? = some o) :
    Dd I ([(g', o)] ++ S) w0 w' b g f k L N E ∧ ∀ x ∈ [(g', o)], ∀ y ∈ S, y.1 ≠ x.1 := by
  have hF := hu.block
  have hnew : ∀ y ∈ S, y.1 ≠ g' := fun y hy => by
    rcases hg' with h5 | h5
    · obtain ⟨o', ho'⟩ := hF g' h5
      exact hd _ ho' y hy
    · intro e
      have := lt_of_heap (h.at_ (x := y) (by simp [hy]))
      omega
  refine ⟨?_, fun x hx y hy => by rw [List.mem_singleton] at hx; subst hx; exact hnew y hy⟩
  refine h.turn u.ownBlock.toList (fun x hx => ?_) hK _ (by simp [hS]) fun x hx => ?_
  · obtain ⟨o', ho'⟩ := hF x (by simpa using hx)
    exact ⟨o', by simp [ho']⟩
  · rcases List.mem_append.1 hx with hx | hx
    · rw [List.mem_singleton] at hx
      subst hx
      refine ⟨?_, ho⟩
      rcases hg' with h5 | h5
      · obtain ⟨o', ho'⟩ := hF g' h5
        exact Or.inr ⟨o', by simp [ho']⟩
      · exact Or.inl h5
    · refine ⟨Or.inr ⟨x.2, by simp [hx]⟩, ?_⟩
      rw [hK.block x.1 (lt_of_heap (h.at_ (x := x) (by simp [hx]))) (fun hm => ?_)]
      · exact h.at_ (by simp [hx])
      · obtain ⟨o', ho'⟩ := hF x.1 (by simpa using hm)
        exact hd _ ho' x hx rfl

/-- An append to a row of texts beside a directory. -/
theorem Dd.appendT {D : List (Nat × Obj)} {u : Value} {xs : List ByteArray} (h : Dd I (D ++ S) w0 w b g f k L N E) (hu : Ot u xs D) (hS : (g, box b f) ∈ S) (hd : ∀ x ∈ D, ∀ y ∈ S, y.1 ≠ x.1) (e : ByteArray) (hb : xs.length + 1 ≤ 1000000) (ty : TypeId) :
    ∃ v' w' D', (Builtin.append_ #[47, 47] ty #[u, .slice (some ⟨w.heap.size, 0, none⟩) 1 1]).run Tryd.prog (w.alloc (.cells #[.string e] 9)) = .ok v' w' ∧ Ot v' (xs ++ [e]) D' ∧ Dd I (D' ++ S) w0 w' b g f k L N E ∧ ∀ x ∈ D', ∀ y ∈ S, y.1 ≠ x.1 := by
  have hO := hu.own fun x hx => h.at_ (by simp [hx])
  have hk : Kept [] w (w.alloc (.cells #[.string e] 9)) := (Kept.refl [] w).alloc _
  have hO2 : (w.alloc (.cells #[.string e] 9)).ownsRow 0 9 1 u xs.length (xs.map Value.string) := hO.alloc _
  obtain ⟨i0, hi, hz0, hz1, hz2⟩ := info_parts info9
  obtain ⟨g', cap, w', hr, h2, h3, h4, h5⟩ := run_append_lies (P := Tryd.prog) (w.alloc (.cells #[.string e] 9)) 47 ty 0 9 i0 (.string ⟨#[]⟩) 1 16 Tryd.underlying47 hi hz0 hz1 hz2 rfl (by omega) u xs.length (xs.map Value.string) hO2 ⟨w.heap.size, 0, none⟩ 1 1 [.string e] rfl
    (fun j v hv => by
      have hj : j = 0 := by
        rcases Nat.lt_or_ge j 1 with h | h
        · omega
        · rw [List.getElem?_eq_none (by simpa using h)] at hv; cases hv
      subst hj
      have ea : (⟨w.heap.size, 0, none⟩ : Addr).add 0 = ⟨w.heap.size, 0, none⟩ := by unfold Addr.add; split <;> simp_all
      rw [ea, cell_of_row _ _ _ _ _ _ (heap_alloc_new w _)]
      exact hv)
    (by simp [Value.oneCell']) (by omega) (by unfold maxLen; omega) (by omega) (Nat.zero_le _) (w.alloc (.cells #[.string e] 9)).heap.size rfl
  have hK : Kept (u.ownBlock.toList) w w' := (hk.mono (by simp)).grown h3 fun x hx => Or.inl (by rw [hx]; simp)
  rcases h2.2 with ⟨h6, -⟩ | ⟨g2, cap2, cur, h6, -, hgg, h7, h8, h9, h10⟩
  · cases h6
  · rw [Value.slice.injEq] at h6
    obtain ⟨h6a, -, h6c⟩ := h6
    have e4 : g' = g2 := by simpa using h6a
    subst e4 h6c
    obtain ⟨h11, h12⟩ := h.rowT hu hS hd hK (by
      rcases h4 with h4 | h4
      · exact Or.inl h4
      · exact Or.inr (by simp at h4; omega)) hgg
    refine ⟨_, w', _, hr, Or.inr ⟨g', cap, cur, by rw [List.length_append]; rfl, rfl, ?_, h8, h9, ?_⟩, h11, h12⟩
    · rw [List.length_append]; exact h7
    · rw [List.length_append, List.map_append]; exact h10

end

/-- The names of a bucket among the first m. -/
def sel (o B m : Nat) : List ByteArray := ((List.range m).filter fun i => bkt (kn 107 (i + o)) == (B : Int)).map fun i => kn 107 (i + o)

theorem sel_yes {o B m : Nat} (h : bkt (kn 107 (m + o)) = (B : Int)) : sel o B (m + 1) = sel o B m ++ [kn 107 (m + o)] := by
  unfold sel
  rw [List.range_succ, List.filter_append, List.map_append]
  simp [h]

theorem sel_no {o B m : Nat} (h : bkt (kn 107 (m + o)) ≠ (B : Int)) : sel o B (m + 1) = sel o B m := by
  unfold sel
  rw [List.range_succ, List.filter_append, List.map_append]
  simp [h]

theorem sel_five {o B : Nat} (ho : o < 64) (hB : B < 8) : 5 ≤ (sel o B 100).length := by unfold sel; rw [List.length_map]; exact five o B ho hB

theorem sel_mem {o B m : Nat} {s : ByteArray} (h : s ∈ sel o B m) : ∃ i, i < m ∧ s = kn 107 (i + o) ∧ bkt s = (B : Int) := by
  unfold sel at h
  rw [List.mem_map] at h
  obtain ⟨i, hi, rfl⟩ := h
  rw [List.mem_filter, List.mem_range] at hi
  exact ⟨i, hi.1, rfl, by simpa using hi.2⟩

theorem sel_apart {o B m : Nat} (ho : o < 64) (hm : m ≤ 100) : (sel o B m).Pairwise (· ≠ ·) := by
  unfold sel
  rw [List.pairwise_map]
  refine List.Pairwise.imp_of_mem ?_ (List.Pairwise.filter _ (List.pairwise_lt_range (n := m)))
  intro a b ha hb hab e
  have ha := List.mem_range.1 (List.mem_filter.1 ha).1
  have hb := List.mem_range.1 (List.mem_filter.1 hb).1
  have := kn_inj_k (n := a + o) (m := b + o) (by omega) (by omega) e
  omega

end Go.Proofs.YtnbbcbjfejdceaaDoor
