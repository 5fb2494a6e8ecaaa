/-
  all: the runs become one.
-/
import Derived.Test.YtndcbpbigbjfeaaTk
namespace Go.Proofs.Ytndcbpbigbjfeaa
open Go.RowKit
set_option linter.unusedSimpArgs false
set_option linter.unusedVariables false

theorem flat_len (R : List (List Int)) : R.flatten.length = tot R := by simp [tot, List.length_flatten]

theorem tot_drop (R : List (List Int)) (n : Nat) : tot (R.drop n) ≤ tot R := by
  have : tot R = tot (R.take n) + tot (R.drop n) := by rw [← tot_append, List.take_append_drop]
  omega

theorem canon_nil : canon [] = [] := rfl

set_option maxRecDepth 100000 in
set_option maxHeartbeats 4000000 in
theorem p_all {w0 w : World} {c : Nat} {v : Value} {vs : List Value} {R : List (List Int)} {X : List Int} (h : St w0 w c v vs R) (hi : Inv R X) (hX : X.length * 16 ≤ 140737488355328) :
    Calls Try.prog 26 #[.pointer (some ⟨c, 0, none⟩)] w fun e w' => ∃ r, e = .returned r ∧ Own w' w.heap.size r (canon X) ∧ Still w w' := by
  obtain ⟨a, cap, rfl, hcap, hat⟩ := h.slice
  have c0 := h.c0.1
  have hb := hi.big_init
  have hl := hi.len
  have HH : Hid (St w0 w c (.slice a R.length cap) vs R ∧ Inv R X) := ⟨h, hi⟩
  have HA : Hid (∀ (i : Nat) (x : Value), vs[i]? = some x → ∃ g, a = some ⟨g, 0, none⟩ ∧ g ≠ c ∧ w.cell? ⟨g, i, none⟩ = some x ∧ w.frozen? ⟨g, i, none⟩ = false) := hat
  have hR : R.length ≤ 17592186044416 := by omega
  clear h hi hat hb
  go_enter Try.func26, Try.ntmps26
  go_wp2_with fail
  go_loopw [3, 4] (fun s i wr => ∃ (k : Int) (n : Nat), n ≤ R.length ∧ i = .int .i64 k ∧ k = (n : Int) - 1 ∧ Hid (Own wr w.heap.size s (canon ((R.drop n).flatten)) ∧ Still w wr)) (fun _ i _ => (intOf i + 1).toNat)
  case atStart => exact ⟨_, R.length, Nat.le_refl _, rfl, rfl, by rw [List.drop_length]; exact Own.nil w _, Below.refl _ _⟩
  case round =>
    obtain ⟨k, n, hn, rfl, hk, HJ⟩ := hrel
    by_cases h0 : n = 0
    · have t0 : decide ((0 : Int) ≤ k) = false := by simp; omega
      have he : canon ((R.drop n).flatten) = canon X := by
        subst h0
        refine canon_same fun z => ?_
        rw [List.drop_zero, List.mem_flatten, ← HH.out.2.mem z]
      have HF : Hid (Own wr w.heap.size u3 (canon X) ∧ Still w wr) := by
        have := HJ.out
        rw [he] at this
        exact this
      clear hk
      go_wp2_with fail
      go_ret
      exact ⟨_, rfl, HF.out⟩
    · obtain ⟨m, rfl⟩ : ∃ m, n = m + 1 := ⟨n - 1, by omega⟩
      obtain rfl : k = (m : Int) := by omega
      clear hk h0
      obtain ⟨r, hr⟩ : ∃ r, R[m]? = some r := ⟨R[m], by simp⟩
      obtain ⟨x, hx, ho⟩ := HH.out.1.at hr
      obtain ⟨ra, rc, rfl⟩ := ho.isSlice
      obtain ⟨g, rfl, -, x2, -⟩ := HA.out m _ hx
      have d0 := cell_still HJ.out.2 c0
      have d1 := cell_still HJ.out.2 x2
      have hdrop : R.drop m = r :: R.drop (m + 1) := by
        obtain ⟨h1, h2⟩ := List.getElem?_eq_some_iff.1 hr
        rw [List.drop_eq_getElem_cons h1, h2]
      have hsz : r.length + (canon ((R.drop (m + 1)).flatten)).length ≤ X.length := by
        have h1 := length_canon ((R.drop (m + 1)).flatten)
        rw [flat_len] at h1
        have h2 := tot_drop R m
        rw [hdrop, show r :: R.drop (m + 1) = [r] ++ R.drop (m + 1) from rfl, tot_append, tot_one] at h2
        omega
      have hcan : canon (r ++ canon ((R.drop (m + 1)).flatten)) = canon ((R.drop m).flatten) := by
        refine canon_same fun z => ?_
        rw [hdrop, List.flatten_cons, List.mem_append, List.mem_append, mem_canon]
      have HC : Hid (_ = _) := hcan
      have k1 : (0 : Int) ≤ (m : Int) := by omega
      have k2 : (m : Int) < (R.length : Int) := by have := (List.getElem?_eq_some_iff.1 hr).1; omega
      have HR : Hid (Rises r ∧ Own wr w.heap.size u3 (canon ((R.drop (m + 1)).flatten)) ∧ Still w wr) := ⟨(HH.out.2.ne r (List.mem_of_getElem? hr)).2, HJ.out⟩
      clear HJ x2 hcan hdrop hr hx
      go_wp2_with fail
      refine (p_join (ho.rd.still HR.out.2.2) HR.out.2.1.rd HR.out.1 (rises_canon _) (by omega)).mono ?_
      rintro e w1 ⟨q, rfl, hq, hs⟩
      rw [HC.out] at hq
      have HQ : Hid (Own w1 w.heap.size q (canon ((R.drop m).flatten)) ∧ Still w w1) := ⟨hq.mono HR.out.2.2.size, HR.out.2.2.then hs⟩
      clear hq hs d0 d1
      go_wp2
      go_roundw
      case rel => exact ⟨_, m, by omega, rfl, by first | rfl | omega, HQ.out⟩
      case measure => simp [intOf]

end Go.Proofs.Ytndcbpbigbjfeaa
