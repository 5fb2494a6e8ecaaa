/-
  What the cores made, and whether the inodes are of it: made.
-/
import Derived.Test.YtgfdcnjnkljahaaDoorZf
namespace Go.Proofs.YtgfdcnjnkljahaaDoor
open Go.RowKit Go.Lib Go.Maps
set_option linter.unusedVariables false
set_option linter.unusedSimpArgs false

theorem n_core (w : World) (x : Int) (h0 : 2 ≤ x) (h1 : x ≤ 9223372036854775807) :
    Calls Tryd.prog 46 #[.int .i64 x] w fun e w' => e = .returned (.int .i64 ((x - 2) % 8)) ∧ w' = w := by
  have i0 : ¬ x < 2 := by omega
  have e0 : wrap64 (x - 2) = x - 2 := by unfold wrap64; omega
  have e1 : (x - 2).tmod 8 = (x - 2) % 8 := Int.tmod_eq_emod_of_nonneg (by omega)
  have e2 : wrap64 ((x - 2) % 8) = (x - 2) % 8 := by unfold wrap64; omega
  have HE : Hid (_ ∧ _ ∧ _) := ⟨e0, e1, e2⟩
  clear e0 e1 e2
  go_enter Tryd.func46, Tryd.ntmps46
  go_wp2_with fail
  go_ret
  exact ⟨congrArg (fun z => Ending.returned (.int .i64 z)) (by first | rw [HE.out.1, HE.out.2.1, HE.out.2.2] | (have := HE.out; omega)), rfl⟩

theorem n_core_no (w : World) (x : Int) (h0 : x < 2) :
    Calls Tryd.prog 46 #[.int .i64 x] w fun e w' => e = .returned (.int .i64 (-1)) ∧ w' = w := by
  go_enter Tryd.func46, Tryd.ntmps46
  go_wp2_with fail
  go_ret
  exact ⟨rfl, rfl⟩

theorem Wf.le {k : Int} (h : Wf k) : k ≤ 9223372036854775807 := by
  unfold Wf at h
  simp [Lit.wf] at h
  omega

theorem t_isGiven {U : World} {h : Wh} {p : Pl} {S : Sta} {n : Nat} {wM w : World} {v : Value} {T : List Fi} (m : Md U h p S n wM w v T) (hf : Few S) (num : Int) (hw : Wf num) :
    Calls Tryd.prog 31 #[.pointer (some ⟨h.X, 0, none⟩), .int .i64 num] w fun e w' => e = .returned (.bool (givenR S num)) ∧ w' = w := by
  have c2 := m.c2
  have hn := hf.n3
  have h9 := hw.le
  have HM : Hid (IntA w p.a3 S.made) := m.svw.mad
  clear m hf hw
  by_cases h0 : num < 2
  · have HR : Hid (givenR S num = false) := by show _ = _; unfold givenR; simp; intro h; omega
    have HC : Hid (_) := fun W => n_core_no W num h0
    go_enter Tryd.func31, Tryd.ntmps31
    go_wp2_with fail
    refine (HC.out _).mono ?_
    rintro e w1 ⟨rfl, hw1⟩
    have hw2 := hw1.symm
    subst hw2
    clear hw1
    go_wp2_with fail
    go_ret
    exact ⟨by rw [HR.out]; rfl, rfl⟩
  · obtain ⟨k, hk⟩ : ∃ k : Nat, ((num - 2) % 8) = (k : Int) := ⟨((num - 2) % 8).toNat, by omega⟩
    have hkn : ((num - 2) % 8).toNat = k := by omega
    have HC : Hid (∀ W, Calls Tryd.prog 46 #[.int .i64 num] W fun e w' => e = .returned (.int .i64 (k : Int)) ∧ w' = W) := fun W => by rw [← hk]; exact n_core W num (by omega) h9
    by_cases hlt : k < S.made.length
    · obtain ⟨b, o, ea, i0⟩ := HM.out k hlt
      obtain ⟨mm, hmm⟩ : ∃ mm, mm = S.made[k] := ⟨_, rfl⟩
      have hmd : S.made.getD k 0 = mm := by rw [hmm]; simp [hlt]
      rw [← hmm] at i0
      have HR : Hid (givenR S num = decide ((num - 2) / 8 < min mm 32)) := by show _ = _; unfold givenR; rw [hkn, hmd]; simp [hlt]; intro _; omega
      have e1 : (num - 2).tdiv 8 = (num - 2) / 8 := Int.tdiv_eq_ediv_of_nonneg (by omega)
      have e0 : wrap64 (num - 2) = num - 2 := by unfold wrap64; omega
      have e2 : wrap64 ((num - 2) / 8) = (num - 2) / 8 := by unfold wrap64; omega
      have e3 : IntKind.i64.wrap (num - 2) = num - 2 := by rw [IntKind.wrap_i64]; omega
      have e4 : IntKind.i64.wrap ((num - 2) / 8) = (num - 2) / 8 := by rw [IntKind.wrap_i64]; omega
      have d0 : ¬ (k : Int) < 0 := by omega
      have d1 : ¬ (S.made.length : Int) ≤ (k : Int) := by omega
      have j0 : (0 : Int) ≤ (k : Int) := by omega
      have j1 : (k : Int) < (S.made.length : Int) := by omega
      have HMn : Hid (∀ y, (if (32 : Int) < y then 32 else y) = min y 32 ∧ (if y < 32 then y else 32) = min y 32) := fun y => ⟨by rw [Int.min_def]; split <;> split <;> omega, by rw [Int.min_def]; split <;> split <;> omega⟩
      rw [ea] at c2
      clear hk hkn hmm hmd HM h0
      by_cases hm : mm ≤ 32
      · have HR2 : Hid (givenR S num = decide ((num - 2) / 8 < mm)) := by show _ = _; rw [HR.out, show min mm 32 = mm by omega]
        clear HR HMn
        go_enter Tryd.func31, Tryd.ntmps31
        go_wp2_with fail
        refine (HC.out _).mono ?_
        rintro e w1 ⟨rfl, hw1⟩
        have hw2 := hw1.symm
        subst hw2
        clear hw1
        go_wp2_with fail
        go_ret
        exact ⟨by rw [HR2.out]; rfl, rfl⟩
      · have HR2 : Hid (givenR S num = decide ((num - 2) / 8 < 32)) := by show _ = _; rw [HR.out, show min mm 32 = 32 by omega]
        clear HR HMn
        go_enter Tryd.func31, Tryd.ntmps31
        go_wp2_with fail
        refine (HC.out _).mono ?_
        rintro e w1 ⟨rfl, hw1⟩
        have hw2 := hw1.symm
        subst hw2
        clear hw1
        go_wp2_with fail
        go_ret
        exact ⟨by rw [HR2.out]; rfl, rfl⟩
    · have HR : Hid (givenR S num = false) := by show _ = _; unfold givenR; rw [hkn]; simp [hlt]
      have d0 : ¬ (k : Int) < 0 := by omega
      have d1 : (S.made.length : Int) ≤ (k : Int) := by omega
      clear hk hkn HM h0
      go_enter Tryd.func31, Tryd.ntmps31
      go_wp2_with fail
      refine (HC.out _).mono ?_
      rintro e w1 ⟨rfl, hw1⟩
      have hw2 := hw1.symm
      subst hw2
      clear hw1
      go_wp2_with fail
      go_ret
      exact ⟨by rw [HR.out]; rfl, rfl⟩

end Go.Proofs.YtgfdcnjnkljahaaDoor
