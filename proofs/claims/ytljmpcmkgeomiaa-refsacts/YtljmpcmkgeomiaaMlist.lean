/-
  The law's own list of the dead, and its look at the counts.
-/
import Derived.Test.YtljmpcmkgeomiaaMd
namespace Go.Proofs.Ytljmpcmkgeomiaa
open Go.RowKit
set_option linter.unusedVariables false

theorem Own.one_more {w : World} {H : Nat} {v : Value} {xs : List Int} (h : Own w H v xs) (hH : H ≤ w.heap.size) (y : Int) (hb : xs.length + 1 ≤ 1000000) (ty : TypeId) (hv : ∀ k, v.ownBlock = some k → H ≤ k) {w0 : World} (hk : Kept [] w0 w) (h0 : H = w0.heap.size) :
    ∃ a c w', (Builtin.append_ #[33, 33] ty #[v, .slice (some ⟨w.heap.size, 0, none⟩) 1 1]).run Try.prog (w.alloc (.cells #[.int .i64 y] 3)) = .ok (.slice a (xs ++ [y]).length c) w' ∧ Own w' H (.slice a (xs ++ [y]).length c) (xs ++ [y]) ∧ Kept [] w0 w' := by
  have hk2 : Kept [] w (w.alloc (.cells #[.int .i64 y] 3)) := (Kept.refl [] w).alloc _
  obtain ⟨v', w', hr, h2, h3, h4⟩ := append_row (h.kept hk2) (by simp; omega) w.heap.size y (by have e := heap_alloc_new w (.cells #[.int .i64 y] 3); simp only [World.cell?, e]; rfl) hb ty
  obtain ⟨a, c, e, -⟩ := h2.slice
  subst e
  exact ⟨a, c, w', hr, h2, (hk.trans hk2 (by simp)).grown h3 fun x hx => Or.inr (by rw [← h0]; exact hv x hx)⟩

set_option maxRecDepth 100000 in
set_option maxHeartbeats 1000000 in
theorem p_list {w : World} {p : Nat → Nat} {k n : Nat} {m : Mo} (h : Md w p k n m) (n64 : n ≤ 64) :
    Calls Try.prog 17 #[.pointer (some ⟨p 0, 0, none⟩)] w fun e w' => ∃ u, e = .returned u ∧ Own w' w.heap.size u (m.list n) ∧ Kept [] w w' := by
  have H0 : Hid (_) := h
  clear h
  go_enter Try.func17, Try.ntmps17
  go_wp2_with fail
  go_loopw [3, 4] (fun s i wr => ∃ (j : Nat) (a : Option Addr) (c : Nat), i = .int .i64 (j : Int) ∧ s = .slice a (m.list j).length c ∧ j ≤ n ∧ Hid (Own wr w.heap.size (.slice a (m.list j).length c) (m.list j) ∧ Kept [] w wr)) (fun _ i _ => (n - intOf i).toNat)
  case atStart => exact ⟨0, none, 0, rfl, rfl, by omega, Own.nil _ _, Kept.refl _ _⟩
  case round =>
    obtain ⟨j, a, c, rfl, rfl, hj, HJ⟩ := hrel
    have hM : Md wr p k n m := H0.out.kept HJ.out.2 (by simp)
    obtain ⟨c0, c1, c2, c3, c4, c5, c6, c7⟩ := hM.main
    have hl := m.list_length j
    by_cases hlt : j < n
    · have i0 : (j : Int) < (n : Int) := by omega
      have i1 : (0 : Int) ≤ (j : Int) := by omega
      have q1 := hM.dead j hlt
      clear hM
      cases hd : m.dead j
      · rw [hd] at q1
        have E : Hid (m.list (j + 1) = m.list j) := if_neg (by rw [hd]; simp)
        clear hd
        go_wp2
        go_roundw
        case rel => exact ⟨j + 1, a, c, by go_num, by rw [E.out], by omega, by rw [E.out]; exact HJ.out⟩
        case measure => simp [intOf]; omega
      · rw [hd] at q1
        have E : Hid (m.list (j + 1) = m.list j ++ [(j : Int)]) := if_pos hd
        clear hd
        obtain ⟨a', c', w3, hr, k1, k2⟩ := Own.one_more HJ.out.1 HJ.out.2.size (j : Int) (by omega) 33 (fun x hx => (HJ.out.1.block x hx).1) HJ.out.2 rfl
        have HQ : Hid (_ ∧ _) := ⟨k1, k2⟩
        clear k1 k2 HJ
        go_wp2_with (at_builtin; refine wpList_append_run _ rfl _ _ 33 33 rfl _ _ rfl rfl _ _ hr ?_)
        go_roundw
        case rel => exact ⟨j + 1, a', c', by go_num, by rw [E.out, List.length_append]; rfl, by omega, by rw [E.out]; exact HQ.out⟩
        case measure => simp [intOf]; omega
    · have e : j = n := by omega
      subst e
      clear hM
      go_wp2_with fail
      go_ret
      exact ⟨_, rfl, HJ.out⟩

end Go.Proofs.Ytljmpcmkgeomiaa
