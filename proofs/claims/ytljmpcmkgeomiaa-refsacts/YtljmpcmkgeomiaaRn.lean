/-
  Counts of package refs: how they are made.
-/
import Derived.Test.YtljmpcmkgeomiaaOwn
namespace Go.Proofs.Ytljmpcmkgeomiaa
open Go.RowKit
set_option linter.unusedVariables false

/-- The words with all 0 ahead of row r, place j. -/
def zr (W : Nat → Nat → Int) (r j : Nat) : Nat → Nat → Int := fun r' i' => if r' < r ∨ (r' = r ∧ i' < j) then 0 else W r' i'

theorem words_any {w : World} {p : Ap} {A : Ar} (h : ArIs 56 w p A) :
    Calls Try.prog 25 #[.pointer (some ⟨p.b, 0, none⟩)] w fun e w' => e = .returned (.int .i64 (A.words.length : Int)) ∧ w' = w := by
  obtain ⟨c0, c1⟩ := h.cell
  go_enter Try.func25, Try.ntmps25
  go_wp2
  go_ret
  exact ⟨rfl, rfl⟩

section
variable {P : Nat → Nat → Prop} {S : List (Nat × Obj)} {w0 w : World} {b g f n k L N : Nat} {W : Nat → Nat → Int}

theorem r_words (h : Rs P S w0 w b g f n k L N W) : Calls Try.prog 25 #[.pointer (some ⟨b, 0, none⟩)] w fun e w' => e = .returned (.int .i64 (L : Int)) ∧ w' = w := by
  obtain ⟨F, hS, A, ⟨hK, p, rfl, hf, hm, hs⟩, rfl, -⟩ := h
  exact words_any hm

theorem Rs.zero {r j : Nat} (h : Rs P S w0 w b g f n k L N (upd (zr W r j) r j 0)) : Rs P S w0 w b g f n k L N (zr W r (j + 1)) := by
  refine h.as fun r' i' _ _ => ?_
  unfold upd zr
  by_cases e : r' = r ∧ i' = j
  · rw [if_pos e, if_pos (by omega)]
  · rw [if_neg e]
    by_cases e2 : r' < r ∨ (r' = r ∧ i' < j)
    · rw [if_pos e2, if_pos (by omega)]
    · rw [if_neg e2, if_neg (by omega)]

theorem Rs.line {r : Nat} (h : Rs P S w0 w b g f n k L N (zr W r (n + 2))) : Rs P S w0 w b g f n k L N (zr W (r + 1) 0) := by
  refine h.as fun r' i' _ _ => ?_
  unfold zr
  by_cases e2 : r' < r ∨ (r' = r ∧ i' < n + 2)
  · rw [if_pos e2, if_pos (by omega)]
  · rw [if_neg e2, if_neg (by omega)]

set_option maxRecDepth 100000 in
set_option maxHeartbeats 2000000 in
theorem r_clear (h : Rs P S w0 w b g f n k L N W) (hP : ∀ c x, P c x) (hN : N < 990000) :
    Calls Try.prog 26 #[.pointer (some ⟨g, 0, none⟩)] w fun e w' => e = .returned (.tuple #[]) ∧ Rs P S w0 w' b g f n k L (N + 700) (fun _ _ => 0) := by
  have F := h.fx
  have n64 := F.nhi
  have k8 := F.khi
  have hm : (k + 2) * (n + 2) ≤ 10 * 66 := Nat.mul_le_mul (by omega) (by omega)
  have H0 : Hid (_) := h
  go_enter Try.func26, Try.ntmps26
  go_wp2_with fail
  refine (r_rows h).mono ?_
  rintro e w' ⟨rfl, rfl⟩
  clear h
  go_wp2_with fail
  go_loopw [7] (fun i wr => ∃ r : Nat, i = .int .i64 (r : Int) ∧ r ≤ k + 2 ∧ Hid (Rs P S w0 wr b g f n k L (N + r * (n + 2)) (zr W r 0))) (fun i _ => (k + 2 - intOf i).toNat)
  case atStart => exact ⟨0, rfl, by omega, (H0.out.mono (by omega)).as fun r i _ _ => by unfold zr; rw [if_neg (by omega)]⟩
  case round =>
    obtain ⟨r, rfl, hr, HJ⟩ := hrel
    by_cases hlt : r < k + 2
    · have i0 : (r : Int) < ((k + 2 : Nat) : Int) := by omega
      have i1 : (r : Int) < (k : Int) + 2 := by omega
      have hrow := row_le (n := n) hlt
      obtain ⟨c0, c1, c2⟩ := Rs.cells HJ.out
      obtain ⟨c, hc, hcd⟩ : ∃ c, c < k ∧ ((r < k ∧ c = r) ∨ (k ≤ r ∧ c = 0)) := by
        by_cases h1 : r < k
        · exact ⟨r, h1, Or.inl ⟨h1, rfl⟩⟩
        · exact ⟨0, F.klo, Or.inr ⟨by omega, rfl⟩⟩
      go_wp2_with fail
      refine (r_cores HJ.out).mono ?_
      rintro e w1 ⟨rfl, rfl⟩
      clear c0 c1 c2
      rcases hcd with ⟨h1, rfl⟩ | ⟨h1, rfl⟩
      · have i2 : (c : Int) < (k : Int) := by omega
        have hcr : c < k + 2 := by omega
        go_wp2_with fail
        refine (r_rowWords HJ.out).mono ?_
        rintro e w1 ⟨rfl, rfl⟩
        go_wp2_with fail
        go_loopw [20] (fun i wr => ∃ j : Nat, i = .int .i64 (j : Int) ∧ j ≤ n + 2 ∧ Hid (Rs P S w0 wr b g f n k L (N + c * (n + 2) + j) (zr W c j))) (fun i _ => (n + 2 - intOf i).toNat)
        case atStart => exact ⟨0, rfl, by omega, HJ.out⟩
        case round =>
          clear HJ
          obtain ⟨j, rfl, hj, HJ⟩ := hrel
          by_cases hjl : j < n + 2
          · have i3 : (j : Int) < ((n + 2 : Nat) : Int) := by omega
            have i4 : (j : Int) < (n : Int) + 2 := by omega
            have hl := pl_lt F hcr hjl
            have hL := F.lhi
            have hw : wrap64 (((pl f n c 0 : Nat) : Int) + (j : Int)) = ((pl f n c j : Nat) : Int) := by unfold pl at hl ⊢; rw [wrap_small _ (by omega) (by omega)]; omega
            go_wp2_with fail
            refine (r_rowAt HJ.out c hcr).mono ?_
            rintro e w2 ⟨rfl, hk⟩
            have H2 : Hid (_) := Rs.still HJ.out hk
            clear hk HJ
            go_wp2_with fail
            rw [hw]
            refine (r_store H2.out c c j 0 hc hcr hjl (hP _ _) (by omega)).mono ?_
            rintro e w3 ⟨rfl, h3⟩
            have H3 : Hid (_) := h3.zero
            clear h3 H2
            go_wp2
            go_roundw
            case rel => exact ⟨j + 1, by go_num, by omega, H3.out⟩
            case measure => simp [intOf]; omega
          · have e : j = n + 2 := by omega
            have H3 : Hid (Rs P S w0 _ b g f n k L (N + (c + 1) * (n + 2)) (zr W (c + 1) 0)) := (by have h0 := HJ.out; rw [e] at h0; exact (Rs.line h0).mono (by rw [Nat.add_mul, Nat.one_mul]; omega))
            have i3 : ¬ (j : Int) < ((n + 2 : Nat) : Int) := by omega
            have i4 : ¬ (j : Int) < (n : Int) + 2 := by omega
            clear e HJ
            go_wp2
            go_roundw
            case rel => exact ⟨c + 1, by go_num, by omega, H3.out⟩
            case measure => simp [intOf]; omega
      · have i2 : ¬ (r : Int) < (k : Int) := by omega
        have hcr : r < k + 2 := by omega
        go_wp2_with fail
        refine (r_rowWords HJ.out).mono ?_
        rintro e w1 ⟨rfl, rfl⟩
        go_wp2_with fail
        go_loopw [20] (fun i wr => ∃ j : Nat, i = .int .i64 (j : Int) ∧ j ≤ n + 2 ∧ Hid (Rs P S w0 wr b g f n k L (N + r * (n + 2) + j) (zr W r j))) (fun i _ => (n + 2 - intOf i).toNat)
        case atStart => exact ⟨0, rfl, by omega, HJ.out⟩
        case round =>
          clear HJ
          obtain ⟨j, rfl, hj, HJ⟩ := hrel
          by_cases hjl : j < n + 2
          · have i3 : (j : Int) < ((n + 2 : Nat) : Int) := by omega
            have i4 : (j : Int) < (n : Int) + 2 := by omega
            have hl := pl_lt F hcr hjl
            have hL := F.lhi
            have hw : wrap64 (((pl f n r 0 : Nat) : Int) + (j : Int)) = ((pl f n r j : Nat) : Int) := by unfold pl at hl ⊢; rw [wrap_small _ (by omega) (by omega)]; omega
            go_wp2_with fail
            refine (r_rowAt HJ.out r hcr).mono ?_
            rintro e w2 ⟨rfl, hk⟩
            have H2 : Hid (_) := Rs.still HJ.out hk
            clear hk HJ
            go_wp2_with fail
            rw [hw]
            refine (r_store H2.out 0 r j 0 hc hcr hjl (hP _ _) (by omega)).mono ?_
            rintro e w3 ⟨rfl, h3⟩
            have H3 : Hid (_) := h3.zero
            clear h3 H2
            go_wp2
            go_roundw
            case rel => exact ⟨j + 1, by go_num, by omega, H3.out⟩
            case measure => simp [intOf]; omega
          · have e : j = n + 2 := by omega
            have H3 : Hid (Rs P S w0 _ b g f n k L (N + (r + 1) * (n + 2)) (zr W (r + 1) 0)) := (by have h0 := HJ.out; rw [e] at h0; exact (Rs.line h0).mono (by rw [Nat.add_mul, Nat.one_mul]; omega))
            have i3 : ¬ (j : Int) < ((n + 2 : Nat) : Int) := by omega
            have i4 : ¬ (j : Int) < (n : Int) + 2 := by omega
            clear e HJ
            go_wp2
            go_roundw
            case rel => exact ⟨r + 1, by go_num, by omega, H3.out⟩
            case measure => simp [intOf]; omega
    · have e : r = k + 2 := by omega
      subst e
      go_wp2_with fail
      go_end0
      exact ⟨rfl, (HJ.out.mono (by omega)).as fun r i hr hi => by unfold zr; rw [if_pos (by omega)]⟩

theorem Rs.made {A : Ar} (h : Hs S w0 w b A) (hg : (g, box b f n) ∈ S) (F : Fx A.traces.length f n A.words.length) (hN : ∀ c, (A.traces.getD c []).length ≤ N) (hP : ∀ c x, P c x) (hw : ∀ c, c < A.traces.length → ∀ x ∈ A.traces.getD c [], ∃ j : Nat, x.1 = (j : Int)) :
    Rs P S w0 w b g f n A.traces.length A.words.length N (fun r i => wordAt A.words (pl f n r i)) :=
  ⟨F, hg, A, h, rfl, rfl, hN, fun c hc x hx => by obtain ⟨j, hj⟩ := hw c hc x hx; exact ⟨j, hj, hP c j⟩, fun _ _ _ _ => rfl⟩

set_option maxRecDepth 100000 in
set_option maxHeartbeats 2000000 in
theorem r_new {A : Ar} (h : Hs S w0 w b A) (F : Fx A.traces.length f n A.words.length) (hN : ∀ c, (A.traces.getD c []).length ≤ N) (hN2 : N < 990000) (hP : ∀ c x, P c x) (hw : ∀ c, c < A.traces.length → ∀ x ∈ A.traces.getD c [], ∃ j : Nat, x.1 = (j : Int)) :
    Calls Try.prog 8 #[.pointer (some ⟨b, 0, none⟩), .int .i64 (f : Int), .int .i64 (n : Int)] w fun e w' => ∃ g, e = .returned (.tuple #[.pointer (some ⟨g, 0, none⟩), .int .i64 0]) ∧ Rs P ((g, box b f n) :: S) w0 w' b g f n A.traces.length A.words.length (N + 700) (fun _ _ => 0) := by
  have H0 : Hid (_) := Rs.made (h.push (box b f n)) (List.mem_cons_self ..) F hN hP hw
  generalize hk : A.traces.length = k at *
  generalize hl : A.words.length = L at *
  clear hk hl h
  have n64 := F.nhi
  have n1 := F.nlo
  have k8 := F.khi
  have hf := F.fit
  have hL := F.lhi
  have hm : (k + 2) * (n + 2) ≤ 10 * 66 := Nat.mul_le_mul (by omega) (by omega)
  have d1 : decide ((f : Int) < 0) = false := by simp
  have d2 : decide ((n : Int) < 1) = false := by simp; omega
  have d3 : decide (64 < (n : Int)) = false := by simp; omega
  have i1 : ¬ (n : Int) < 1 := by omega
  have i2 : ¬ 64 < (n : Int) := by omega
  have i3 : (n : Int) ≤ 64 := by omega
  have i4 : 1 ≤ (n : Int) := by omega
  have E : Hid (wrap64 (((k : Int) + 2) * ((n : Int) + 2)) ≤ (L : Int) - (f : Int)) := by
    have e : ((k : Int) + 2) * ((n : Int) + 2) = (((k + 2) * (n + 2) : Nat) : Int) := by rw [Int.natCast_mul]; rfl
    show wrap64 (((k : Int) + 2) * ((n : Int) + 2)) ≤ (L : Int) - (f : Int)
    rw [e, wrap_small _ (by omega) (by omega)]
    omega
  obtain ⟨W0, hW0⟩ : ∃ W0, W0 = w.alloc (box b f n) := ⟨_, rfl⟩
  rw [← hW0] at H0
  have HW : Hid (w.alloc (.cells #[.pointer (some ⟨b, 0, none⟩), .int .i64 (f : Int), .int .i64 (n : Int)] 58 (0, 0)) = W0) := hW0.symm
  clear hW0
  go_enter Try.func8, Try.ntmps8
  go_wp2_with fail
  rw [HW.out]
  clear HW
  refine (r_rows H0.out).mono ?_
  rintro e w1 ⟨rfl, rfl⟩
  go_wp2_with fail
  refine (r_rowWords H0.out).mono ?_
  rintro e w1 ⟨rfl, rfl⟩
  go_wp2_with fail
  refine (r_words H0.out).mono ?_
  rintro e w1 ⟨rfl, rfl⟩
  have d6 : wrap64 (((k : Int) + 2) * ((n : Int) + 2)) ≤ (L : Int) - (f : Int) := E.out
  have d7 : decide ((L : Int) - (f : Int) < wrap64 (((k : Int) + 2) * ((n : Int) + 2))) = false := decide_eq_false (Int.not_lt.2 d6)
  clear E
  go_wp2_with fail
  refine (r_clear H0.out hP hN2).mono ?_
  rintro e w1 ⟨rfl, h1⟩
  have H1 : Hid (_) := h1
  clear h1 H0
  go_wp2_with fail
  go_ret2
  exact ⟨_, rfl, H1.out⟩

end
end Go.Proofs.Ytljmpcmkgeomiaa
