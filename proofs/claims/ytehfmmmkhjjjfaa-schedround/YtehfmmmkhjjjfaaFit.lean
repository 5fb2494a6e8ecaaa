/-
  fit: a row of waits for n cores.
-/
import Derived.Test.YtehfmmmkhjjjfaaMath
import Derived.Test.YtehfmmmkhjjjfaaLeaf
namespace Go.Proofs.Ytehfmmmkhjjjfaa
open Go.RowKit
set_option linter.unusedSimpArgs false
set_option linter.unusedVariables false

set_option maxHeartbeats 400000 in
theorem fit_any {w : World} {H : Nat} {v : Value} {xs : List Int} (hO : Own w H v xs) (hx : xs.length ≤ 1048576) (n : Nat) (hn : n ≤ 1048576) (hH : H ≤ w.heap.size) :
    Calls Try.prog 23 #[v, .int .i64 (n : Int)] w fun e w' => ∃ v', e = .returned v' ∧ Own w' H v' (fitl xs n) ∧ Below H w w' := by
  by_cases hle : n ≤ xs.length
  · have hf : fitl xs n = xs.take n := by simp [fitl, show n - xs.length = 0 by omega]
    have HF : Hid (_ = _) := hf
    clear hf
    rcases hO.form with ⟨rfl, rfl⟩ | ⟨g, cap, cur, rfl, h2, h3, h4, h5, h6, h7⟩
    · have : n = 0 := by simpa using hle
      subst this
      have HO : Hid (_) := hO
      clear hO
      go_enter Try.func23, Try.ntmps23
      go_wp2
      go_ret
      exact ⟨_, rfl, by rw [HF.out]; exact Own.nil _ _, Below.refl _ _⟩
    · have HO : Hid (_) := hO.first n hle
      have c0 : (0 : Int) ≤ (n : Int) := by omega
      have c1 : (n : Int) ≤ (cap : Int) := by omega
      have c2 : (n : Int) ≤ (xs.length : Int) := by omega
      clear hO h3 h7
      go_enter Try.func23, Try.ntmps23
      go_wp2
      go_ret
      exact ⟨_, rfl, by rw [HF.out]; exact HO.out, Below.refl _ _⟩
  · obtain ⟨m, hm⟩ : ∃ m, n = xs.length + m := ⟨n - xs.length, by omega⟩
    have hf : fitl xs n = xs ++ List.replicate m 0 := by
      simp only [fitl, show n - xs.length = m by omega]
      rw [List.take_of_length_le (by simp; omega)]
    obtain ⟨v', w', hr, hO', hg⟩ := run_append_zeros 23 w H v xs hO m (by omega) hx (by omega) hH
    have HF : Hid (_ ∧ Own w' H v' (xs ++ List.replicate m 0) ∧ Below H w w') := ⟨hf, hO', (Below.refl _ _).grown hg hH (fun k hk => (hO.block k hk).1)⟩
    obtain ⟨av, cv, rfl⟩ := hO.isSlice
    have c1 : ¬ (n : Int) ≤ (xs.length : Int) := by omega
    have c2 : (n : Int) - (xs.length : Int) = (m : Int) := by omega
    have HM : Hid (_ = _) := hm
    clear hO hO' hg hf hm
    go_enter Try.func23, Try.ntmps23
    go_wp2_with (first
      | (at_builtin; refine wpList_append_run _ rfl _ _ 23 3 rfl _ _ rfl rfl _ _ hr ?_))
    go_ret
    exact ⟨_, rfl, by rw [HF.out.1]; exact HF.out.2.1, HF.out.2.2⟩

end Go.Proofs.Ytehfmmmkhjjjfaa
