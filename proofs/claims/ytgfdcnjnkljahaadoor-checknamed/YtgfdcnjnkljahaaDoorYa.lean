/-
  Maps of ints to ints, of a call's own, told plainly.
-/
import Derived.Test.YtgfdcnjnkljahaaDoorXh
import Derived.Maps.OwnSet
import Derived.Maps.Views
namespace Go.Proofs.YtgfdcnjnkljahaaDoor
open Go.RowKit Go.Lib Go.Maps
set_option linter.unusedVariables false

/-- An int of the language. -/
def Wf (k : Int) : Prop := (Lit.int .i64 k).wf = true

theorem wf_of {k : Int} (h1 : -9223372036854775808 ≤ k) (h2 : k ≤ 9223372036854775807) : Wf k := WalkArith.wf_i64 ⟨h1, h2⟩

theorem int_law : Keyed Tryd.prog 3 := int_keyed Tryd.underlying3

theorem int_zero (w : World) : (zeroValue 3).run Tryd.prog w = .ok (.int .i64 0) w := by kernel_rfl

/-- Block b is a map of at most n entries that has g. -/
def Mi (w : World) (b n : Nat) (g : Int → Option Int) : Prop :=
  ∃ D : DataW Unit, w.ownsMap Tryd.prog 3 (plainElem Tryd.prog 3) b n D ∧ ∀ k, Wf k → Maps.has D (.int .i64 k) = (g k).isSome ∧ D.atKey (.int .i64 k) (.lit (.int .i64 0)) = .lit (.int .i64 ((g k).getD 0))

theorem Mi.made (w : World) : Mi (w.alloc (.map #[] 0)) w.heap.size 0 (fun _ => none) :=
  ⟨_, World.ownsMap_made w _ _ _, fun k hk => ⟨rfl, rfl⟩⟩

theorem Mi.block {w : World} {b n : Nat} {g : Int → Option Int} (h : Mi w b n g) : b < w.heap.size := by
  obtain ⟨D, h1, -⟩ := h; exact h1.lt

theorem Mi.same {w w' : World} {b n : Nat} {g : Int → Option Int} (h : Mi w b n g) (hb : w'.heap[b]? = w.heap[b]?) : Mi w' b n g := by
  obtain ⟨D, ⟨es, clock, h1, h2⟩, h3⟩ := h
  exact ⟨D, ⟨es, clock, by rw [hb]; exact h1, h2⟩, h3⟩

theorem Mi.kept {F : List Nat} {w w' : World} {b n : Nat} {g : Int → Option Int} (h : Mi w b n g) (k : Kept F w w') (hF : b ∉ F) : Mi w' b n g :=
  h.same (k.block b h.block hF)

theorem Mi.look {w : World} {b n : Nat} {g : Int → Option Int} (h : Mi w b n g) {k : Int} (hk : Wf k) : (Instr.lookup 53 (.map (some b)) (.int .i64 k) false).run Tryd.prog w = .ok (.int .i64 ((g k).getD 0)) w := by
  obtain ⟨D, h1, h2⟩ := h
  obtain ⟨c, hrun, hat, -⟩ := h1.lookup_int int_law Tryd.underlying53 Tryd.underlying3 (int_zero w) (keyOf_int_mk Tryd.underlying3 hk)
  rw [(h2 k hk).2] at hat
  have hat2 : (g k).getD 0 = c := by simpa using hat
  rw [hrun, hat2]

theorem Mi.look_ok {w : World} {b n : Nat} {g : Int → Option Int} (h : Mi w b n g) {k : Int} (hk : Wf k) : (Instr.lookup 53 (.map (some b)) (.int .i64 k) true).run Tryd.prog w = .ok (.tuple #[.int .i64 ((g k).getD 0), .bool (g k).isSome]) w := by
  obtain ⟨D, h1, h2⟩ := h
  obtain ⟨v, ps, hrun, hv⟩ := h1.look_ok int_law Tryd.underlying53 (int_zero w) (plainElem_int Tryd.underlying3 (by decide)) (keyOf_int_mk Tryd.underlying3 hk)
  obtain ⟨c, rfl, hc, -⟩ := plainElem_int_inv Tryd.underlying3 hv
  simp only [Prod.mk.injEq] at hc
  have hat := hc.1
  rw [(h2 k hk).2] at hat
  have hat2 : (g k).getD 0 = c := by simpa using hat
  rw [hrun, hat2, (h2 k hk).1]

theorem Mi.put {w : World} {b n : Nat} {g : Int → Option Int} (h : Mi w b n g) (hn : n < 1000000) {k v : Int} (hk : Wf k) (hv : Wf v) :
    ∃ w', (Instr.mapUpdate 53 (.map (some b)) (.int .i64 k) (.int .i64 v)).run Tryd.prog w = .ok () w' ∧ Mi w' b (n + 1) (fun j => if j = k then some v else g j) ∧ Kept [b] w w' := by
  obtain ⟨D, h1, h2⟩ := h
  obtain ⟨w', hrun, h3, h4⟩ := h1.update int_law Tryd.underlying53 (by unfold maxLen; omega) (keyOf_int_mk Tryd.underlying3 hk) (plainElem_int Tryd.underlying3 hv)
  refine ⟨w', hrun, ⟨_, h3, fun j hj => ?_⟩, ((Kept.refl [b] w).grown h4 (fun k e => Or.inl (by simp at e; simp [e])))⟩
  by_cases e : j = k
  · subst e
    dsimp only
    rw [has_put_same h1.isMap (by trivial), atKey_put_same h1.isMap (by trivial), if_pos rfl]
    exact ⟨rfl, rfl⟩
  · have ne : (Lit.int .i64 j) ≠ (Lit.int .i64 k) := fun h => by injection h with _ h; exact e h
    dsimp only
    rw [has_put_other ne, atKey_put_other ne, if_neg e]
    exact h2 j hj

theorem Mi.mono {w : World} {b n m : Nat} {g : Int → Option Int} (h : Mi w b n g) (hm : n ≤ m) : Mi w b m g := by
  obtain ⟨D, h1, h2⟩ := h
  exact ⟨D, h1.mono hm, h2⟩

end Go.Proofs.YtgfdcnjnkljahaaDoor
