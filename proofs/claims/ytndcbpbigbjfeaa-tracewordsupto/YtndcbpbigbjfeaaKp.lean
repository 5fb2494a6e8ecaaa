/-
  KeptAccesss, SpoilInts.
-/
import Derived.Test.YtndcbpbigbjfeaaAk
namespace Go.Proofs.Ytndcbpbigbjfeaa
open Go.RowKit
set_option linter.unusedSimpArgs false
set_option linter.unusedVariables false

set_option maxRecDepth 100000 in
set_option maxHeartbeats 2000000 in
theorem p_kept {w : World} {H g cap c : Nat} {a : Option Addr} {X : List (Int × Bool)} (h : OwnA w H (.slice (some ⟨g, 0, none⟩) (X.length + 2) cap) (X ++ twin)) (k : Al w a X) (hcap : X.length + 2 ≤ cap) (hn : X.length * 16 ≤ 140737488355328) :
    Calls Try.prog 13 #[.slice (some ⟨g, 0, none⟩) X.length cap, .slice a X.length c] w fun e w' => e = .returned (.bool true) ∧ Still w w' := by
  obtain ⟨a', c', e1, -, hA⟩ := h.al
  simp only [Value.slice.injEq] at e1
  obtain ⟨rfl, -, rfl⟩ := e1
  have hx : Al w (some ⟨g, 0, none⟩) X := hA.head
  have g0 : (X ++ twin)[X.length]? = some (77777, false) := by simp [twin]
  have g1 : (X ++ twin)[X.length + 1]? = some (77777, false) := by rw [List.getElem?_append_right (by omega)]; simp [twin]
  obtain ⟨b0, o0, e0, x0, x1⟩ := hA _ _ _ g0
  obtain ⟨b1, o1, e1, x2, x3⟩ := hA _ _ _ g1
  simp only [Option.some.injEq, Addr.mk.injEq, and_true] at e0 e1
  obtain ⟨rfl, rfl⟩ := e0
  obtain ⟨rfl, rfl⟩ := e1
  rw [Nat.zero_add] at x0 x1 x2 x3
  have HH : Hid (Al w (some ⟨g, 0, none⟩) X ∧ Al w a X) := ⟨hx, k⟩
  have k0 : (0 : Int) ≤ (X.length : Int) := by omega
  have k1 : (0 : Int) ≤ (X.length : Int) + 2 := by omega
  have k2 : (X.length : Int) + 2 ≤ (cap : Int) := by omega
  have k3 : (X.length : Int) < (X.length : Int) + 2 := by omega
  have k4 : (0 : Int) ≤ (X.length : Int) + 1 := by omega
  have k5 : (X.length : Int) + 1 < (X.length : Int) + 2 := by omega
  clear h hA k hx g0 g1
  go_enter Try.func13, Try.ntmps13
  go_wp2_with fail
  refine (p_sameA (c := cap) (d := c) HH.out.1 HH.out.2 hn).mono ?_
  rintro e w1 ⟨rfl, s1⟩
  have y0 := cell_still s1 x0
  have y1 := cell_still s1 x1
  have y2 := cell_still s1 x2
  have y3 := cell_still s1 x3
  have HS : Hid (Still w w1) := s1
  clear x0 x1 x2 x3 s1
  go_wp2_with fail
  go_ret
  exact ⟨rfl, HS.out⟩

set_option maxRecDepth 100000 in
set_option maxHeartbeats 2000000 in
theorem p_spoil {w : World} {H : Nat} {u : Value} {L : List Int} (h : Own w H u L) (hn : L.length * 8 ≤ 140737488355328) :
    Calls Try.prog 14 #[u] w fun e w' => e = .returned (.tuple #[]) ∧ w.grownBy w' u.ownBlock := by
  rcases h.form with ⟨rfl, rfl⟩ | ⟨g, cap, cur, rfl, -, -, hcap, -⟩
  · go_enter Try.func14, Try.ntmps14
    go_wp2_with fail
    go_loopw [2] (fun i wr => i = .int .i64 0 ∧ wr = w) (fun _ _ => 0)
    case atStart => exact ⟨rfl, rfl⟩
    case round =>
      obtain ⟨rfl, rfl⟩ := hrel
      go_wp2
      go_end0
      exact ⟨rfl, rfl, rfl, rfl, Nat.le_refl _, fun _ _ _ => rfl⟩
  · have HO : Hid (Own w H (.slice (some ⟨g, 0, none⟩) L.length cap) L) := h
    obtain ⟨n, hn'⟩ : ∃ n, n = L.length := ⟨_, rfl⟩
    rw [← hn'] at HO hn hcap
    rw [← hn']
    have HN : Hid (_ = _) := hn'
    clear hn' h
    go_enter Try.func14, Try.ntmps14
    go_wp2_with fail
    go_loopw [2] (fun i wr => ∃ k : Nat, k ≤ n ∧ i = .int .i64 (k : Int) ∧ Hid (∃ L' : List Int, L'.length = n ∧ Own wr H (.slice (some ⟨g, 0, none⟩) n cap) L' ∧ w.grownBy wr (some g))) (fun i _ => (n - intOf i).toNat)
    case atStart => exact ⟨0, by omega, rfl, L, HN.out.symm, HO.out, rfl, rfl, rfl, Nat.le_refl _, fun _ _ _ => rfl⟩
    case round =>
      obtain ⟨k, hk, rfl, HJ⟩ := hrel
      by_cases hlt : k < n
      · have i0 : (0 : Int) ≤ (k : Int) := by omega
        have i1 : (k : Int) < (n : Int) := by omega
        obtain ⟨L', hl, ho, hg⟩ := HJ.out
        obtain ⟨x0, x1, -⟩ := ho.cell k (by omega)
        obtain ⟨z, hz⟩ : ∃ z, z = L'.getD k 0 := ⟨_, rfl⟩
        rw [← hz] at x0
        have HS : Hid (∀ y : Int, ∃ L2 : List Int, L2.length = n ∧ Own (wr.setCell ⟨g, k, none⟩ (.int .i64 y)) H (.slice (some ⟨g, 0, none⟩) n cap) L2 ∧ w.grownBy (wr.setCell ⟨g, k, none⟩ (.int .i64 y)) (some g)) := fun y => by
          refine ⟨L'.set k y, by simpa using hl, ho.set k (by omega) y, hg.os, hg.tape, hg.output, by have := hg.size; simpa [World.setCell] using this, fun j hj hne => ?_⟩
          rw [Below.heap_setCell _ _ _ _ (fun e => hne (by rw [e]))]
          exact hg.block j hj hne
        clear hl ho hg hz HJ
        go_wp2
        go_roundw
        case rel => exact ⟨k + 1, by omega, by go_num, HS.out _⟩
        case measure => simp [intOf]; omega
      · have i1 : ¬ (k : Int) < (n : Int) := by omega
        go_wp2
        go_end0
        obtain ⟨L', -, -, hg⟩ := HJ.out
        exact ⟨rfl, hg⟩

end Go.Proofs.Ytndcbpbigbjfeaa
