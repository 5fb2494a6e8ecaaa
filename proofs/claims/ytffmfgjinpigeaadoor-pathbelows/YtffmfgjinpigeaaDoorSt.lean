/-
  A slice of texts that is handed in; an append to a slice of no text.
-/
import Derived.Test.YtffmfgjinpigeaaDoorAk
import Derived.Test.YtffmfgjinpigeaaDoorLaid
import Derived.SliceStrings
import Derived.OpenShut
import Derived.SizedLaws
namespace Go.Proofs.YtffmfgjinpigeaaDoor
open Go.RowKit Go.ChangeShapes Go.WideShapes Go.ChangeShapes
set_option linter.unusedVariables false

/-- The texts of a slice, each of a size that there is, and all of them. -/
def IsStrs (w : World) (a : Option Addr) (len : Nat) (l : List ByteArray) : Prop :=
  len = l.length ∧ Ss w a l ∧ (∀ j, (tx l j).size ≤ 140737488351232) ∧ len * 16 ≤ 140737488351232 ∧ (a = none → len = 0)

theorem mem_weightsAll {H : Type} {P : Program} {e : TypeId} {d : DataW H} {n : Nat} (hn : n ∈ d.weights P e) : ∀ {l : List (DataW H)}, d ∈ l → n ∈ DataW.weightsAll P e l
  | [], h => by cases h
  | x :: l, h => by
    rw [DataW.weightsAll, List.mem_append]
    rcases List.mem_cons.1 h with rfl | h
    · exact Or.inl hn
    · exact Or.inr (mem_weightsAll hn h)

theorem bytes9 : Tryd.prog.bytesOf 9 = 16 := by kernel_rfl

theorem strs_at {H : Type} {enc : TypeId × Value → H} {w : World} {base : Nat} {spare : Nat → Bool} {held : Bool} {fuel : Nat} {a : Option Addr} {len cap : Nat} {x : DataW H × List MemPlace}
    (h : DataW.trod enc Tryd.prog w base spare held fuel 22 [.slice a len cap] = some x) (hw : ∀ n ∈ x.1.weights Tryd.prog 22, n ≤ reachBytes) : ∃ l, IsStrs w a len l := by
  rcases open_strings Tryd.underlying22 Tryd.underlying9 (by kernel_rfl) h with ⟨hcs, _⟩ | ⟨y, l, c, ss, hcs, _, hl, hm, hz, hx, hcell, hwz⟩
  · simp at hcs
    obtain ⟨rfl, rfl, rfl⟩ := hcs
    exact ⟨[], rfl, Ss.none, fun j => by show (tx [] j).size ≤ _; exact Nat.zero_le _, by omega, fun _ => rfl⟩
  · simp at hcs
    obtain ⟨rfl, rfl, rfl⟩ := hcs
    have hlen : len ≤ ss.length := by rw [hz]; split <;> omega
    have hnum : len * 16 ≤ 140737488351232 := by
      have : (strs (ss.take len) : List (DataW H)).length * 16 ≤ reachBytes := by
        refine Nat.le_trans ?_ (hw _ (by
          rw [hx]
          unfold DataW.weights
          rw [Tryd.underlying22]
          exact List.mem_cons_self))
        rw [bytes9]
        exact Nat.mul_le_mul_right _ (Nat.le_add_right _ _)
      unfold strs reachBytes at this
      rw [List.length_map, List.length_take] at this
      omega
    refine ⟨ss.take len, by rw [List.length_take]; omega, ⟨by rw [List.length_take]; omega, fun i hi => ?_⟩, fun j => ?_, hnum, fun h => by cases h⟩
    · rw [List.length_take] at hi
      obtain ⟨b, off, spot⟩ := y
      have hspot : spot = none := by
        have := World.cell?_spot (hcell 0 (by omega))
        simpa [Addr.add] using this
      subst hspot
      refine ⟨b, off, rfl, ?_⟩
      rw [← Go.WideShapes.add_plain, hcell i (by omega)]
      congr 2
      unfold tx
      rw [List.getD_eq_getElem?_getD, List.getD_eq_getElem?_getD, List.getElem?_take_of_lt (by omega)]
      rfl
    · rcases Nat.lt_or_ge j (ss.take len).length with hj | hj
      · have hmem : (.lit (.string (tx (ss.take len) j).data.toList) : DataW H) ∈ strs (ss.take len) := by
          unfold strs
          rw [List.mem_map]
          exact ⟨_, tx_mem hj, rfl⟩
        have hin : (tx (ss.take len) j).data.toList.length ∈ x.1.weights Tryd.prog 22 := by
          rw [hx]
          unfold DataW.weights
          rw [Tryd.underlying22]
          refine List.mem_cons_of_mem _ (List.mem_append_left _ (mem_weightsAll ?_ hmem))
          unfold DataW.weights
          simp
        have := hw _ hin
        unfold reachBytes at this
        exact this
      · unfold tx
        rw [List.getD_eq_getElem?_getD, List.getElem?_eq_none hj]
        exact Nat.zero_le _

/-- A row without texts that was built for a call. -/
theorem Sr.built (w : World) (H : Nat) (h : H ≤ w.heap.size) : Sr (w.alloc (.cells #[] 9)) H (.slice (some ⟨w.heap.size, 0, none⟩) 0 0) [] :=
  ⟨by simp, Or.inr ⟨w.heap.size, 0, #[], rfl, h, heap_alloc_new w _, Nat.le_refl _, by unfold maxLen; omega, rfl, by simp⟩⟩

/-- An append of no text. -/
theorem append_no {w : World} {H : Nat} {a : Option Addr} {n c : Nat} {xs : List ByteArray} (h : Sr w H (.slice a n c) xs) (d : Nat) (ty : TypeId) :
    (Builtin.append_ #[22, 22] ty #[.slice a n c, .slice none 0 d]).run Tryd.prog w = .ok (.slice a n c) w := by
  have hl := h.cap
  obtain ⟨i0, hi, -⟩ := info_parts info9
  rcases h.2 with ⟨h1, -⟩ | ⟨g, cap, cur, h1, -⟩
  · rw [Value.slice.injEq] at h1
    obtain ⟨rfl, rfl, rfl⟩ := h1
    simp [Builtin.append_, run_underlying Tryd.underlying22, sizeOf, typeInfo, hi, Builtin.lenOf, Builtin.firstCells]
  · rw [Value.slice.injEq] at h1
    obtain ⟨rfl, -, -⟩ := h1
    simp [Builtin.append_, run_underlying Tryd.underlying22, sizeOf, typeInfo, hi, Builtin.lenOf, Builtin.firstCells, storeCells, hl]

/-- An append of a slice's texts, none or not. -/
theorem append_any {w : World} {H : Nat} {v : Value} {xs ys : List ByteArray} (h : Sr w H v xs) (hH : H ≤ w.heap.size) (a : Option Addr) (n c : Nat) (hn : n = ys.length) (hy : Ss w a ys) (hb : (xs.length + ys.length) * 16 ≤ 140737488355328) (ty : TypeId) :
    ∃ v' w', (Builtin.append_ #[22, 22] ty #[v, .slice a n c]).run Tryd.prog w = .ok v' w' ∧ Sr w' H v' (xs ++ ys) ∧ Kept v.ownBlock.toList w w' := by
  cases a with
  | none =>
    have : ys = [] := by
      cases ys with
      | nil => rfl
      | cons y l => obtain ⟨b, off, e, -⟩ := hy.2 0 (by simp); cases e
    subst this
    subst hn
    obtain ⟨va, vn, vc, rfl⟩ := h.slice
    exact ⟨_, _, append_no h c ty, by rw [List.append_nil]; exact h, Kept.refl _ _⟩
  | some ad =>
    obtain ⟨v', w', hr, h2, h3⟩ := append_texts h hH _ n c hn hy (by simp) hb ty
    exact ⟨v', w', hr, h2, (Kept.refl _ w).grown h3 fun x hx => Or.inl (by rw [hx]; simp)⟩

end Go.Proofs.YtffmfgjinpigeaaDoor
