/-
  share: have two rising rows an int in common?
-/
import Derived.Test.YtndcbpbigbjfeaaJo
namespace Go.Proofs.Ytndcbpbigbjfeaa
open Go.RowKit
set_option linter.unusedSimpArgs false
set_option linter.unusedVariables false

theorem sh_left {X Y : List Int} {x y : Int} (hy : Rises (y :: Y)) (h : x < y) : (∃ z ∈ x :: X, z ∈ y :: Y) ↔ ∃ z ∈ X, z ∈ y :: Y := by
  obtain ⟨b1, -⟩ := List.pairwise_cons.1 hy
  constructor
  · rintro ⟨z, h1, h2⟩
    rcases List.mem_cons.1 h1 with rfl | h1
    · rcases List.mem_cons.1 h2 with rfl | h2
      · omega
      · have := b1 _ h2; omega
    · exact ⟨z, h1, h2⟩
  · rintro ⟨z, h1, h2⟩
    exact ⟨z, List.mem_cons_of_mem _ h1, h2⟩

theorem sh_right {X Y : List Int} {x y : Int} (hx : Rises (x :: X)) (h : y < x) : (∃ z ∈ x :: X, z ∈ y :: Y) ↔ ∃ z ∈ x :: X, z ∈ Y := by
  obtain ⟨b1, -⟩ := List.pairwise_cons.1 hx
  constructor
  · rintro ⟨z, h1, h2⟩
    rcases List.mem_cons.1 h2 with rfl | h2
    · rcases List.mem_cons.1 h1 with rfl | h1
      · omega
      · have := b1 _ h1; omega
    · exact ⟨z, h1, h2⟩
  · rintro ⟨z, h1, h2⟩
    exact ⟨z, h1, List.mem_cons_of_mem _ h2⟩

set_option maxRecDepth 100000 in
set_option maxHeartbeats 4000000 in
theorem p_share {w : World} {u v : Value} {X Y : List Int} (hu : Rd w u X) (hv : Rd w v Y) (hx : Rises X) (hy : Rises Y) :
    Calls Try.prog 23 #[u, v] w fun e w' => e = .returned (.bool (decide (∃ x ∈ X, x ∈ Y))) ∧ Still w w' := by
  obtain ⟨a0, c0, rfl, l0, -⟩ := id hu
  obtain ⟨a1, c1, rfl, l1, -⟩ := id hv
  have HJ : Hid (Rises X ∧ Rises Y ∧ Rd w _ X ∧ Rd w _ Y) := ⟨hx, hy, hu, hv⟩
  clear hu hv hx hy
  go_enter Try.func23, Try.ntmps23
  go_wp2_with fail
  go_loopw [0, 1] (fun p q wr => ∃ X' Y', lenOf p = X'.length ∧ lenOf q = Y'.length ∧ Hid (((∃ x ∈ X, x ∈ Y) ↔ ∃ x ∈ X', x ∈ Y') ∧ Rises X' ∧ Rises Y' ∧ Rd w p X' ∧ Rd w q Y' ∧ Still w wr)) (fun p q _ => lenOf p + lenOf q)
  case atStart => exact ⟨X, Y, rfl, rfl, Iff.rfl, HJ.out.1, HJ.out.2.1, HJ.out.2.2.1, HJ.out.2.2.2, Below.refl _ _⟩
  case round =>
    clear HJ
    obtain ⟨X', Y', -, -, HR⟩ := hrel
    cases X' with
    | nil =>
      obtain ⟨pa, pc, rfl⟩ := HR.out.2.2.2.1.nil
      obtain ⟨qa, qc, rfl, -⟩ := id HR.out.2.2.2.2.1
      have hf : decide (∃ x ∈ X, x ∈ Y) = false := by rw [decide_eq_false_iff_not, HR.out.1]; simp
      go_wp2_with fail
      go_quiet (fail)
      go_wp2
      go_ret
      exact ⟨by rw [hf]; rfl, Below.drewN HR.out.2.2.2.2.2 _⟩
    | cons x X' =>
      obtain ⟨pb, po, pc, rfl, px, ph, pt⟩ := HR.out.2.2.2.1.cons
      have k1 : (0 : Int) < (X'.length : Int) + 1 := by omega
      have j1 : (1 : Int) ≤ (X'.length : Int) + 1 := by omega
      cases Y' with
      | nil =>
        obtain ⟨qa, qc, rfl⟩ := HR.out.2.2.2.2.1.nil
        have hf : decide (∃ x ∈ X, x ∈ Y) = false := by rw [decide_eq_false_iff_not, HR.out.1]; simp
        go_wp2_with fail
        go_quiet (fail)
        go_wp2
        go_ret
        exact ⟨by rw [hf]; rfl, Below.drewN HR.out.2.2.2.2.2 _⟩
      | cons y Y' =>
        obtain ⟨qb, qo, qc, rfl, qx, qh, qt⟩ := HR.out.2.2.2.2.1.cons
        have k2 : (0 : Int) < (Y'.length : Int) + 1 := by omega
        have j2 : (1 : Int) ≤ (Y'.length : Int) + 1 := by omega
        have hp1 := cell_still HR.out.2.2.2.2.2 ph
        have hq1 := cell_still HR.out.2.2.2.2.2 qh
        have HT : Hid (_ ∧ _) := ⟨pt, qt⟩
        clear ph qh pt qt
        obtain ⟨n1, hn1⟩ : ∃ n1 : Nat, n1 = 0 := ⟨0, rfl⟩
        rcases Int.lt_trichotomy x y with hl | rfl | hl
        · have HM : Hid (_ ∧ _) := ⟨HR.out.1.trans (sh_left HR.out.2.2.1 hl), HR.out.2⟩
          have t0 : (x != y) = true := by simp; omega
          clear HR
          go_wp2_with fail
          go_quiet (fail)
          revert nq; intro n1
          go_wp2_with fail
          go_quiet (fail)
          revert nq; intro n2
          go_wp2
          all_goals go_roundw
          case rel => exact ⟨X', y :: Y', rfl, rfl, HM.out.1, (List.pairwise_cons.1 HM.out.2.1).2, HM.out.2.2.1, HT.out.1 _ (fun hpc => by rw [if_neg hpc]), HM.out.2.2.2.2.1, Below.drewN HM.out.2.2.2.2.2 _⟩
          case measure => simp [lenOf]
        · have hf : decide (∃ x ∈ X, x ∈ Y) = true := by rw [decide_eq_true_iff, HR.out.1]; exact ⟨x, by simp, by simp⟩
          have t0 : (x != x) = false := by simp
          go_wp2_with fail
          go_quiet (fail)
          go_wp2
          go_ret
          exact ⟨by rw [hf]; rfl, Below.drewN HR.out.2.2.2.2.2 _⟩
        · have HM : Hid (_ ∧ _) := ⟨HR.out.1.trans (sh_right HR.out.2.1 hl), HR.out.2⟩
          have t0 : (x != y) = true := by simp; omega
          have t1 : ¬ x < y := by omega
          clear HR
          go_wp2_with fail
          go_quiet (fail)
          revert nq; intro n1
          go_wp2_with fail
          go_quiet (fail)
          revert nq; intro n2
          go_wp2
          all_goals go_roundw
          case rel => exact ⟨x :: X', Y', rfl, rfl, HM.out.1, HM.out.2.1, (List.pairwise_cons.1 HM.out.2.2.1).2, HM.out.2.2.2.1, HT.out.2 _ (fun hpc => by rw [if_neg hpc]), Below.drewN HM.out.2.2.2.2.2 _⟩
          case measure => simp [lenOf]

end Go.Proofs.Ytndcbpbigbjfeaa
