/-
  Rows of entries (a name and a number each) in blocks of a call's own, of any program: what they look like, and what an append makes of them.
-/
import Derived.Test.YtgfdcnjnkljahaaDoorDe
import Derived.OwnWalk
import Derived.Deep.AppendLies
namespace Go.Proofs.YtgfdcnjnkljahaaDoor
open Go.RowKit
set_option linter.unusedVariables false

/-- Entries as cells. -/
def flat (E : List En) : List Value := E.flatMap fun e => [.string e.1, .int .i64 e.2]

theorem flat_length (E : List En) : (flat E).length = E.length * 2 := by
  unfold flat
  induction E with
  | nil => rfl
  | cons x E ih => simp at ih ⊢; omega

theorem flat_append (E F : List En) : flat (E ++ F) = flat E ++ flat F := by simp [flat]

theorem flat_get (E : List En) : ∀ i x, E[i]? = some x → (flat E)[i * 2]? = some (.string x.1) ∧ (flat E)[i * 2 + 1]? = some (.int .i64 x.2) := by
  induction E with
  | nil => intro i x h; simp at h
  | cons y E ih =>
    intro i x h
    cases i with
    | zero => simp at h; subst h; simp [flat]
    | succ i =>
      have := ih i x (by simpa using h)
      have e : flat (y :: E) = .string y.1 :: .int .i64 y.2 :: flat E := by simp [flat]
      rw [e, show (i + 1) * 2 = i * 2 + 1 + 1 by omega]
      simpa using this

theorem flat_one (E : List En) : ∀ u ∈ flat E, u.oneCell' = true := by
  intro u hu
  unfold flat at hu
  rw [List.mem_flatMap] at hu
  obtain ⟨e, _, he⟩ := hu
  simp at he
  rcases he with rfl | rfl <;> rfl

/-- A row of entries of the call's own (T: the type of an entry). -/
def Er (T : TypeId) (w : World) (H : Nat) (v : Value) (E : List En) : Prop := w.ownsRow H T 2 v E.length (flat E)

theorem Er.nil (T : TypeId) (w : World) (H : Nat) : Er T w H (.slice none 0 0) [] := World.ownsRow_nil w H T 2

theorem Er.form {T : TypeId} {w : World} {H : Nat} {v : Value} {E : List En} (h : Er T w H v E) : (v = .slice none 0 0 ∧ E = []) ∨
    ∃ g cap cur, v = .slice (some ⟨g, 0, none⟩) E.length cap ∧ H ≤ g ∧ w.heap[g]? = some (.cells cur T (0, 0)) ∧ E.length ≤ cap ∧ cap ≤ maxLen ∧ cur.size = cap * 2 ∧ cur.toList.take (E.length * 2) = flat E := by
  rcases h.2 with ⟨h1, h2⟩ | ⟨g, cap, cur, h1, h2, h3, h4, h5, h6, h7⟩
  · exact Or.inl ⟨h1, List.eq_nil_of_length_eq_zero h2⟩
  · exact Or.inr ⟨g, cap, cur, h1, h2, h3, h4, h5, h6, h7⟩

theorem Er.block {T : TypeId} {w : World} {H : Nat} {v : Value} {E : List En} (h : Er T w H v E) : ∀ k, v.ownBlock = some k → H ≤ k ∧ k < w.heap.size := World.ownsRow.lt h

theorem Er.same {T : TypeId} {w w' : World} {H : Nat} {v : Value} {E : List En} (h : Er T w H v E) (hk : ∀ k, v.ownBlock = some k → w'.heap[k]? = w.heap[k]?) : Er T w' H v E := by
  refine ⟨h.1, ?_⟩
  rcases h.2 with hn | ⟨g, cap, cur, rfl, hb, hgg, rest⟩
  · exact .inl hn
  · exact .inr ⟨g, cap, cur, rfl, hb, by rw [hk g rfl]; exact hgg, rest⟩

theorem Er.kept {T : TypeId} {w w' : World} {H : Nat} {v : Value} {E : List En} {F : List Nat} (h : Er T w H v E) (k : Kept F w w') (hF : ∀ x ∈ F, v.ownBlock ≠ some x) : Er T w' H v E :=
  h.same fun x hx => k.block x (h.block x hx).2 (fun hm => hF x hm hx)

/-- What the walks read: each entry's two cells. -/
theorem Er.slice {T : TypeId} {w : World} {H : Nat} {v : Value} {E : List En} (h : Er T w H v E) : ∃ a cap, v = .slice a E.length cap ∧ ∀ i (hi : i < E.length), ∃ g, a = some ⟨g, 0, none⟩ ∧ w.cell? ⟨g, i * 2, none⟩ = some (.string (E[i]).1) ∧ w.cell? ⟨g, i * 2 + 1, none⟩ = some (.int .i64 (E[i]).2) := by
  rcases h.form with ⟨h1, rfl⟩ | ⟨g, c, cur, h1, h2, h3, h4, h5, h6, h7⟩
  · exact ⟨none, 0, h1, fun i hi => by simp at hi⟩
  · refine ⟨_, c, h1, fun i hi => ⟨g, rfl, ?_, ?_⟩⟩
    · have h8 := (flat_get E i _ (List.getElem?_eq_getElem hi)).1
      rw [← h7, List.getElem?_take_of_lt (by omega)] at h8
      have e : cur[i * 2]? = some (.string (E[i]).1) := by simpa using h8
      simp [World.cell?, h3, e]
    · have h8 := (flat_get E i _ (List.getElem?_eq_getElem hi)).2
      rw [← h7, List.getElem?_take_of_lt (by omega)] at h8
      have e : cur[i * 2 + 1]? = some (.int .i64 (E[i]).2) := by simpa using h8
      simp [World.cell?, h3, e]

/-- An append of one entry that lies in a block of its own. -/
theorem append_entry {P : Program} {t T : TypeId} {i : TypeInfo} {z : Value} (ht : P.underlying t = some (.slice T)) (hi : P.info? T = some i) (hz : i.zero = some z) (hs : i.size = 2) (hb : i.bytes = 24) (hzs : z.cells.size = 2)
    {w : World} {H : Nat} {v : Value} {E : List En} (h : Er T w H v E) (hH : H ≤ w.heap.size) (b : Nat) (e : En) (h0 : w.cell? ⟨b, 0, none⟩ = some (.string e.1)) (h1 : w.cell? ⟨b, 1, none⟩ = some (.int .i64 e.2)) (hl : E.length + 1 ≤ 1000000) (ty : TypeId) :
    ∃ g cap w', (Builtin.append_ #[t, t] ty #[v, .slice (some ⟨b, 0, none⟩) 1 1]).run P w = .ok (.slice (some ⟨g, 0, none⟩) (E.length + 1) cap) w' ∧ Er T w' H (.slice (some ⟨g, 0, none⟩) (E.length + 1) cap) (E ++ [e]) ∧ w.grownBy w' v.ownBlock ∧ (v.ownBlock = some g ∨ g = w.heap.size) ∧ g < w'.heap.size := by
  obtain ⟨g, cap, w', hr, h2, h3, h4, h5⟩ := run_append_lies (P := P) w t ty H T i z 2 24 ht hi hz hs hb hzs (by omega) v E.length (flat E) h ⟨b, 0, none⟩ 1 1 (flat [e]) (by rw [flat_length]; rfl)
    (fun j u hu => by
      have hj : j < 2 := by
        rcases Nat.lt_or_ge j 2 with h | h
        · exact h
        · rw [List.getElem?_eq_none (by rw [flat_length]; exact h)] at hu; cases hu
      have ea : (⟨b, 0, none⟩ : Addr).add j = ⟨b, j, none⟩ := by unfold Addr.add; split <;> simp_all
      rw [ea]
      rcases (show j = 0 ∨ j = 1 by omega) with rfl | rfl
      · rw [h0]; exact hu
      · rw [h1]; exact hu)
    (flat_one [e]) (by omega) (by unfold maxLen; omega) (by omega) hH w.heap.size rfl
  refine ⟨g, cap, w', hr, ?_, h3, h4, h5⟩
  unfold Er
  rw [List.length_append, flat_append]
  exact h2

end Go.Proofs.YtgfdcnjnkljahaaDoor
