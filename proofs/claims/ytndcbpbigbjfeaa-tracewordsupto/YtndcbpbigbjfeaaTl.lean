/-
  settle.
-/
import Derived.Test.YtndcbpbigbjfeaaTk
namespace Go.Proofs.Ytndcbpbigbjfeaa
open Go.RowKit
set_option linter.unusedSimpArgs false
set_option linter.unusedVariables false

set_option maxRecDepth 100000 in
set_option maxHeartbeats 4000000 in
theorem frozen_still {w w' : World} (h : Still w w') {g i : Nat} (hg : g < w.heap.size) (hf : w.frozen? ⟨g, i, none⟩ = false) : w'.frozen? ⟨g, i, none⟩ = false := by rw [Below.frozen h hg]; exact hf

set_option maxRecDepth 100000 in
set_option maxHeartbeats 4000000 in
theorem p_settle {w0 w : World} {c : Nat} {v : Value} {vs : List Value} {R : List (List Int)} {X : List Int} (h : St w0 w c v vs R) (hi : Inv R X) (hR : R ≠ []) (hX : X.length * 16 ≤ 140737488355328) :
    Calls Try.prog 27 #[.pointer (some ⟨c, 0, none⟩)] w fun e w' => e = .returned (.tuple #[]) ∧ ∃ v' vs' R', St w0 w' c v' vs' R' ∧ Inv R' X ∧ Big R' ∧ R' ≠ [] := by
  obtain ⟨a, cap, rfl, hcap, -⟩ := h.slice
  have c0 := h.c0.1
  have hb := hi.big_init
  have hl := hi.len
  have hpos : 0 < R.length := List.length_pos_iff.2 hR
  have HH : Hid (St w0 w c (.slice a R.length cap) vs R ∧ Inv R X) := ⟨h, hi⟩
  clear h hi
  go_enter Try.func27, Try.ntmps27
  go_wp2_with fail
  go_loopw [2] (fun i wr => ∃ k v' vs' R', R' ≠ [] ∧ i = .int .i64 k ∧ k = (R'.length : Int) - 1 ∧ Hid (St w0 wr c v' vs' R' ∧ Inv R' X)) (fun i _ => (intOf i).toNat)
  case atStart => exact ⟨_, _, _, R, hR, rfl, rfl, HH⟩
  case round =>
    clear HH c0
    obtain ⟨k, v', vs', R', hne, rfl, hk, HJ⟩ := hrel
    have hpos' : 0 < R'.length := List.length_pos_iff.2 hne
    by_cases h2 : 2 ≤ R'.length
    · obtain ⟨Q, p, l, rfl⟩ := two_last R' h2
      obtain ⟨g, cap', ap, cp, al, cl, rfl, hcap', hgc, x1, x2, x3, x4, x5, op, ol⟩ := HJ.out.1.two
      have c0 := HJ.out.1.c0.1
      have c1 := HJ.out.1.c0.2
      have hpl : p.length + l.length ≤ X.length := by
        have h1 := HJ.out.2.len
        rw [show Q ++ [p, l] = Q ++ ([p] ++ [l]) from rfl, tot_append, tot_append, tot_one, tot_one] at h1
        omega
      have hQ : 2 * Q.length ≤ X.length + 4 := by
        have h1 := HJ.out.2.big_init
        have h2 := HJ.out.2.len
        simp at h1; omega
      obtain rfl : k = (Q.length : Int) + 1 := by rw [hk]; simp; omega
      clear hk
      have k0 : (0 : Int) < (Q.length : Int) + 1 := by omega
      have k1 : (0 : Int) ≤ (Q.length : Int) := by omega
      have k2 : (Q.length : Int) < (Q.length : Int) + 2 := by omega
      have k3 : (0 : Int) ≤ (Q.length : Int) + 1 := by omega
      have k4 : (Q.length : Int) + 1 < (Q.length : Int) + 2 := by omega
      have gl : g < wr.heap.size := World.block_lt_of_cell? _ _ x3
      have HI : Hid (Rises p ∧ Rises l) := ⟨(HJ.out.2.ne p (by simp)).2, (HJ.out.2.ne l (by simp)).2⟩
      by_cases hlt : p.length < 2 * l.length
      · have t0 : (p.length : Int) < 2 * (l.length : Int) := by omega
        have q1 : IntKind.i64.wrap (Q.length : Int) = (Q.length : Int) := by rw [IntKind.wrap_i64]; omega
        have q3 : IntKind.i64.wrap ((2 : Int) * (l.length : Int)) = 2 * (l.length : Int) := by rw [IntKind.wrap_i64]; omega
        go_wp2_with fail
        go_quiet (fail)
        go_wp2_with fail
        refine wp_region_held_drew (S := fun w' => w'.cell? ⟨c, 0, none⟩ = some (.slice (some ⟨g, 0, none⟩) (Q.length + 2) cap') ∧ w'.cell? ⟨g, Q.length + 1, none⟩ = some (.slice al l.length cl)) (by kernel_rfl) ?_ (fun hHeld => ?_)
        · exact ⟨c0, x5⟩
        refine wpAnyH_take (i := 0) (v := ?vs0) rfl (by kernel_rfl) (by kernel_rfl) (by kernel_rfl) (fun _ _ _ h => h) (Or.inl ⟨by rfl, ?hys0⟩) (by assumption) ?_
        case hys0 =>
          intro w hSw
          (try dsimp only at hSw)
          go_simp
          try with_reducible rfl
        try simp only [Act.put, List.setIfInBounds_toArray, List.set_cons_zero, List.set_cons_succ, List.getElem_toArray, List.getElem_cons_zero, List.getElem_cons_succ]
        refine wpAnyH_take (i := 1) (v := ?vs1) rfl (by kernel_rfl) (by kernel_rfl) (by kernel_rfl) (fun _ _ _ h => h) (Or.inl ⟨by rfl, ?hys1⟩) (by assumption) ?_
        case hys1 =>
          intro w hSw
          (try dsimp only at hSw)
          go_simp
          try with_reducible rfl
        try simp only [Act.put, List.setIfInBounds_toArray, List.set_cons_zero, List.set_cons_succ, List.getElem_toArray, List.getElem_cons_zero, List.getElem_cons_succ]
        refine wpAnyH_take (i := 2) (v := ?vs2) rfl (by kernel_rfl) (by kernel_rfl) (by kernel_rfl) (fun _ _ _ h => h) (Or.inl ⟨by rfl, ?hys2⟩) (by assumption) ?_
        case hys2 =>
          intro w hSw
          (try dsimp only at hSw)
          go_simp
          try with_reducible rfl
        try simp only [Act.put, List.setIfInBounds_toArray, List.set_cons_zero, List.set_cons_succ, List.getElem_toArray, List.getElem_cons_zero, List.getElem_cons_succ]
        refine wpAnyH_take (i := 3) (v := ?vs3) rfl (by kernel_rfl) (by kernel_rfl) (by kernel_rfl) (fun _ _ _ h => h) (Or.inl ⟨by rfl, ?hys3⟩) (by assumption) ?_
        case hys3 =>
          intro w hSw
          (try dsimp only at hSw)
          go_simp
          try with_reducible rfl
        try simp only [Act.put, List.setIfInBounds_toArray, List.set_cons_zero, List.set_cons_succ, List.getElem_toArray, List.getElem_cons_zero, List.getElem_cons_succ]
        refine wpAnyH_take (i := 4) (v := ?vs4) rfl (by kernel_rfl) (by kernel_rfl) (by kernel_rfl) (fun _ _ _ h => h) (Or.inl ⟨by rfl, ?hys4⟩) (by assumption) ?_
        case hys4 =>
          intro w hSw
          (try dsimp only at hSw)
          go_simp
          try with_reducible rfl
        try simp only [Act.put, List.setIfInBounds_toArray, List.set_cons_zero, List.set_cons_succ, List.getElem_toArray, List.getElem_cons_zero, List.getElem_cons_succ]
        refine wpAnyH_take (i := 5) (v := ?vs5) rfl (by kernel_rfl) (by kernel_rfl) (by kernel_rfl) (fun _ _ _ h => h) (Or.inl ⟨by rfl, ?hys5⟩) (by assumption) ?_
        case hys5 =>
          intro w hSw
          (try dsimp only at hSw)
          go_simp
          try with_reducible rfl
        try simp only [Act.put, List.setIfInBounds_toArray, List.set_cons_zero, List.set_cons_succ, List.getElem_toArray, List.getElem_cons_zero, List.getElem_cons_succ]
        refine wpAnyH_take (i := 6) (v := ?vs6) rfl (by kernel_rfl) (by kernel_rfl) (by kernel_rfl) (fun _ _ _ h => h) (Or.inl ⟨by rfl, ?hys6⟩) (by assumption) ?_
        case hys6 =>
          intro w hSw
          (try dsimp only at hSw)
          go_simp
          try with_reducible rfl
        try simp only [Act.put, List.setIfInBounds_toArray, List.set_cons_zero, List.set_cons_succ, List.getElem_toArray, List.getElem_cons_zero, List.getElem_cons_succ]
        refine wpAnyH_take (i := 7) (v := ?vs7) rfl (by kernel_rfl) (by kernel_rfl) (by kernel_rfl) (fun _ _ _ h => h) (Or.inl ⟨by rfl, ?hys7⟩) (by assumption) ?_
        case hys7 =>
          intro w hSw
          (try dsimp only at hSw)
          go_simp
          try with_reducible rfl
        try simp only [Act.put, List.setIfInBounds_toArray, List.set_cons_zero, List.set_cons_succ, List.getElem_toArray, List.getElem_cons_zero, List.getElem_cons_succ]
        refine wpAnyH_take (i := 8) (v := ?vs8) rfl (by kernel_rfl) (by kernel_rfl) (by kernel_rfl) (fun _ _ _ h => h) (Or.inl ⟨by rfl, ?hys8⟩) (by assumption) ?_
        case hys8 =>
          intro w hSw
          (try dsimp only at hSw)
          go_simp
          try with_reducible rfl
        try simp only [Act.put, List.setIfInBounds_toArray, List.set_cons_zero, List.set_cons_succ, List.getElem_toArray, List.getElem_cons_zero, List.getElem_cons_succ]
        refine wpAnyH_take (i := 9) (v := ?vs9) rfl (by kernel_rfl) (by kernel_rfl) (by kernel_rfl) (fun _ _ _ h => h) (Or.inl ⟨by rfl, ?hys9⟩) (by assumption) ?_
        case hys9 =>
          intro w hSw
          (try dsimp only at hSw)
          go_simp
          try with_reducible rfl
        try simp only [Act.put, List.setIfInBounds_toArray, List.set_cons_zero, List.set_cons_succ, List.getElem_toArray, List.getElem_cons_zero, List.getElem_cons_succ]
        refine wpAnyH_take (i := 10) (v := ?vs10) rfl (by kernel_rfl) (by kernel_rfl) (by kernel_rfl) (fun _ _ _ h => h) (Or.inl ⟨by rfl, ?hys10⟩) (by assumption) ?_
        case hys10 =>
          intro w hSw
          (try dsimp only at hSw)
          go_simp
          try with_reducible rfl
        try simp only [Act.put, List.setIfInBounds_toArray, List.set_cons_zero, List.set_cons_succ, List.getElem_toArray, List.getElem_cons_zero, List.getElem_cons_succ]
        refine wpAnyH_take (i := 11) (v := ?vs11) rfl (by kernel_rfl) (by kernel_rfl) (by kernel_rfl) (fun _ _ _ h => h) (Or.inl ⟨by rfl, ?hys11⟩) (by assumption) ?_
        case hys11 =>
          intro w hSw
          (try dsimp only at hSw)
          go_simp
          try with_reducible rfl
        try simp only [Act.put, List.setIfInBounds_toArray, List.set_cons_zero, List.set_cons_succ, List.getElem_toArray, List.getElem_cons_zero, List.getElem_cons_succ]
        refine wpAnyH_take (i := 12) (v := ?vs12) rfl (by kernel_rfl) (by kernel_rfl) (by kernel_rfl) (fun _ _ _ h => h) (Or.inl ⟨by rfl, ?hys12⟩) (by assumption) ?_
        case hys12 =>
          intro w hSw
          (try dsimp only at hSw)
          go_simp
          try with_reducible rfl
        try simp only [Act.put, List.setIfInBounds_toArray, List.set_cons_zero, List.set_cons_succ, List.getElem_toArray, List.getElem_cons_zero, List.getElem_cons_succ]
        refine wpAnyH_take (i := 14) (v := ?vs14) rfl (by kernel_rfl) (by kernel_rfl) (by kernel_rfl) (fun _ _ _ h => h) (Or.inl ⟨by rfl, ?hys14⟩) (by assumption) ?_
        case hys14 =>
          intro w hSw
          (try dsimp only at hSw)
          go_simp
          try with_reducible rfl
        try simp only [Act.put, List.setIfInBounds_toArray, List.set_cons_zero, List.set_cons_succ, List.getElem_toArray, List.getElem_cons_zero, List.getElem_cons_succ]
        refine wpAnyH_take (i := 15) (v := ?vs15) rfl (by kernel_rfl) (by kernel_rfl) (by kernel_rfl) (fun _ _ _ h => h) (Or.inl ⟨by rfl, ?hys15⟩) (by assumption) ?_
        case hys15 =>
          intro w hSw
          (try dsimp only at hSw)
          go_simp
          try with_reducible rfl
        try simp only [Act.put, List.setIfInBounds_toArray, List.set_cons_zero, List.set_cons_succ, List.getElem_toArray, List.getElem_cons_zero, List.getElem_cons_succ]
        refine wpAnyH_take (i := 16) (v := ?vs16) rfl (by kernel_rfl) (by kernel_rfl) (by kernel_rfl) (fun _ _ _ h => h) (Or.inl ⟨by rfl, ?hys16⟩) (by assumption) ?_
        case hys16 =>
          intro w hSw
          (try dsimp only at hSw)
          go_simp
          try with_reducible rfl
        try simp only [Act.put, List.setIfInBounds_toArray, List.set_cons_zero, List.set_cons_succ, List.getElem_toArray, List.getElem_cons_zero, List.getElem_cons_succ]
        refine wpAnyH_take (i := 17) (v := ?vs17) rfl (by kernel_rfl) (by kernel_rfl) (by kernel_rfl) (fun _ _ _ h => h) (Or.inl ⟨by rfl, ?hys17⟩) (by assumption) ?_
        case hys17 =>
          intro w hSw
          (try dsimp only at hSw)
          go_simp
          try with_reducible rfl
        try simp only [Act.put, List.setIfInBounds_toArray, List.set_cons_zero, List.set_cons_succ, List.getElem_toArray, List.getElem_cons_zero, List.getElem_cons_succ]
        refine wpAnyH_take (i := 18) (v := ?vs18) rfl (by kernel_rfl) (by kernel_rfl) (by kernel_rfl) (fun _ _ _ h => h) (Or.inl ⟨by rfl, ?hys18⟩) (by assumption) ?_
        case hys18 =>
          intro w hSw
          (try dsimp only at hSw)
          go_simp
          try with_reducible rfl
        try simp only [Act.put, List.setIfInBounds_toArray, List.set_cons_zero, List.set_cons_succ, List.getElem_toArray, List.getElem_cons_zero, List.getElem_cons_succ]
        refine wpAnyH_take (i := 19) (v := ?vs19) rfl (by kernel_rfl) (by kernel_rfl) (by kernel_rfl) (fun _ _ _ h => h) (Or.inl ⟨by rfl, ?hys19⟩) (by assumption) ?_
        case hys19 =>
          intro w hSw
          (try dsimp only at hSw)
          go_simp
          try with_reducible rfl
        try simp only [Act.put, List.setIfInBounds_toArray, List.set_cons_zero, List.set_cons_succ, List.getElem_toArray, List.getElem_cons_zero, List.getElem_cons_succ]
        refine wpAnyH_take (i := 20) (v := ?vs20) rfl (by kernel_rfl) (by kernel_rfl) (by kernel_rfl) (fun _ _ _ h => h) (Or.inl ⟨by rfl, ?hys20⟩) (by assumption) ?_
        case hys20 =>
          intro w hSw
          (try dsimp only at hSw)
          go_simp
          try with_reducible rfl
        try simp only [Act.put, List.setIfInBounds_toArray, List.set_cons_zero, List.set_cons_succ, List.getElem_toArray, List.getElem_cons_zero, List.getElem_cons_succ]
        refine wpAnyH_ready (rs := [13]) (by kernel_rfl) (by simp) ?_
        refine AllReadyH.cons rfl (fun K hK => ?_) AllReadyH.nil
        go_simp
        refine hK.out _ _ ?_ (fun hHeld => ?_)
        · exact ⟨c0, x5⟩
        clear hK K
        try simp only [Act.put, List.setIfInBounds_toArray, List.set_cons_zero, List.set_cons_succ, List.getElem_toArray, List.getElem_cons_zero, List.getElem_cons_succ]
        refine wpAnyH_ready (rs := [21]) (by kernel_rfl) (by simp) ?_
        refine AllReadyH.cons rfl (fun K hK => ?_) AllReadyH.nil
        go_simp
        refine (p_join (op.rd.still (Below.drewN (Below.refl _ _) (nq + 1))) (ol.rd.still (Below.drewN (Below.refl _ _) (nq + 1))) HI.out.1 HI.out.2 (by omega)).mono ?_
        rintro e w1 ⟨r, rfl, ho, hs0⟩
        obtain ⟨ra, rc, rfl⟩ := ho.isSlice
        have hs : Still wr w1 := Still.then (Below.drewN (Below.refl _ wr) (nq + 1)) hs0
        have z0 := cell_still hs c0
        have z2 := cell_still hs x3
        have z3 := frozen_still hs gl x4
        have z4 := cell_still hs x5
        have HO : Hid (Own w1 wr.heap.size (.slice ra (canon (p ++ l)).length rc) (canon (p ++ l)) ∧ Still wr w1) := ⟨ho, hs⟩
        clear ho hs hs0
        refine hK.out _ _ ?_ (fun hHeld => ?_)
        · exact ⟨z0, z4⟩
        clear hK K
        try simp only [Act.put, List.setIfInBounds_toArray, List.set_cons_zero, List.set_cons_succ, List.getElem_toArray, List.getElem_cons_zero, List.getElem_cons_succ]
        refine wpAnyH_take (i := 22) (v := ?vs22) rfl (by kernel_rfl) (by kernel_rfl) (by kernel_rfl) (fun _ _ _ h => h) (Or.inl ⟨by rfl, ?hys22⟩) (by assumption) ?_
        case hys22 =>
          intro w hSw
          (try dsimp only at hSw)
          go_simp
          try with_reducible rfl
        try simp only [Act.put, List.setIfInBounds_toArray, List.set_cons_zero, List.set_cons_succ, List.getElem_toArray, List.getElem_cons_zero, List.getElem_cons_succ]
        refine wpAnyH_ready (rs := [23]) (by kernel_rfl) (by simp) ?_
        refine AllReadyH.cons rfl (fun K hK => ?_) AllReadyH.nil
        go_simp
        refine hK.out _ _ ?_ (fun hHeld => ?_)
        · exact ⟨by rw [World.cell?_setCell_far _ _ _ _ hgc]; exact z0, (World.cell?_setCell_other w1 ⟨g, Q.length, none⟩ ⟨g, Q.length + 1, none⟩ _ (by simp)).trans z4⟩
        clear hK K
        try simp only [Act.put, List.setIfInBounds_toArray, List.set_cons_zero, List.set_cons_succ, List.getElem_toArray, List.getElem_cons_zero, List.getElem_cons_succ]
        refine wpAnyH_done (by kernel_rfl) ?_ _
        have HS : Hid (St w0 (((w1.setCell ⟨g, Q.length, none⟩ (.slice ra (canon (p ++ l)).length rc)).setCell ⟨c, 0, none⟩ (.slice (some ⟨g, 0, none⟩) (Q.length + 1) cap'))) c (.slice (some ⟨g, 0, none⟩) (Q.length + 1) cap') ((vs'.set Q.length (.slice ra (canon (p ++ l)).length rc)).take (Q.length + 1)) (Q ++ [canon (p ++ l)])) := by
          have := (HJ.out.1.joined rfl x1 HO.out.2 HO.out.1).cut (m := Q.length + 1) rfl (by simp)
          rwa [show (Q ++ [canon (p ++ l), l]).take (Q.length + 1) = Q ++ [canon (p ++ l)] from by rw [List.take_append, List.take_of_length_le (by omega)]; simp] at this
        have y0 : (w1.setCell ⟨g, Q.length, none⟩ (.slice ra (canon (p ++ l)).length rc)).cell? ⟨c, 0, none⟩ = some (.slice (some ⟨g, 0, none⟩) (Q.length + 2) cap') := hHeld.1
        have y1 : (w1.setCell ⟨g, Q.length, none⟩ (.slice ra (canon (p ++ l)).length rc)).frozen? ⟨c, 0, none⟩ = false := (HJ.out.1.joined rfl x1 HO.out.2 HO.out.1).c0.2
        have m1 : (Q.length : Int) + 1 ≤ (cap' : Int) := by omega
        clear z0 z2 z3 z4 hHeld c0 c1 x2 x3 x4 x5
        obtain ⟨W, hW⟩ : ∃ W, W = w1.setCell ⟨g, Q.length, none⟩ (.slice ra (canon (p ++ l)).length rc) := ⟨_, rfl⟩
        rw [← hW] at y0 y1 HS
        rw [← hW]
        clear hW
        go_wp2
        go_roundw
        case rel => exact ⟨_, _, _, Q ++ [canon (p ++ l)], by simp, rfl, by simp, HS.out, HJ.out.2.joined⟩
        case measure => simp [intOf]
      · have t0 : decide ((p.length : Int) < 2 * (l.length : Int)) = false := by simp; omega
        have q3 : IntKind.i64.wrap ((2 : Int) * (l.length : Int)) = 2 * (l.length : Int) := by rw [IntKind.wrap_i64]; omega
        go_wp2_with fail
        go_quiet (fail)
        go_wp2
        go_end0
        exact ⟨rfl, _, _, _, HJ.out.1.still (Below.drewN (Below.refl _ _) _), HJ.out.2, HJ.out.2.settled (by omega), by simp⟩
    · obtain rfl : k = 0 := by omega
      clear hk
      have hbig : Big R' := fun i r hi _ => by omega
      go_wp2_with fail
      go_quiet (fail)
      go_wp2
      go_end0
      exact ⟨rfl, _, _, _, HJ.out.1.still (Below.drewN (Below.refl _ _) _), HJ.out.2, hbig, hne⟩

end Go.Proofs.Ytndcbpbigbjfeaa
