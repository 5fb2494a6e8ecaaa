/-
  Package path: Print, Code, Below.
-/
import Derived.Test.YtffmfgjinpigeaaDoorPt
namespace Go.Proofs.YtffmfgjinpigeaaDoor
open Go.RowKit
set_option linter.unusedVariables false

theorem Sr.cap {w : World} {H : Nat} {a : Option Addr} {n c : Nat} {xs : List ByteArray} (h : Sr w H (.slice a n c) xs) : n ≤ c := by
  rcases h.2 with ⟨h1, h2⟩ | ⟨g, cap, cur, h1, hb, hgg, h4, -⟩
  · rw [Value.slice.injEq] at h1; omega
  · rw [Value.slice.injEq] at h1; omega

theorem tx_mem {l : List ByteArray} {j : Nat} (h : j < l.length) : tx l j ∈ l := List.mem_of_getElem? (tx_at h)

theorem may_not {l : List ByteArray} {j : Nat} (h : j < l.length) (h2 : chk (tx l j) ≠ 0) : allMay l = false := by
  rw [← Bool.not_eq_true]
  intro e
  exact h2 (all_may e _ (tx_mem h))

theorem may_all {l : List ByteArray} (h : ∀ j, j < l.length → chk (tx l j) = 0) : allMay l = true := by
  unfold allMay
  rw [List.all_eq_true]
  intro x hx
  obtain ⟨i, hi, rfl⟩ := List.mem_iff_getElem.1 hx
  have := h i hi
  have h2 := tx_at hi
  rw [List.getElem?_eq_getElem hi] at h2
  rw [Option.some.inj h2, this]
  rfl

theorem tx_small {l : List ByteArray} (h : ∀ j, j < l.length → chk (tx l j) = 0) (j : Nat) : (tx l j).size ≤ 12 := by
  rcases Nat.lt_or_ge j l.length with h1 | h1
  · exact (chk_size (h j h1)).1
  · unfold tx
    rw [List.getD_eq_getElem?_getD, List.getElem?_eq_none h1]
    exact Nat.zero_le _

/-- What Print leaves. -/
def Printed (l : List ByteArray) (w : World) (e : Ending) (w' : World) : Prop :=
  e = .returned (.tuple #[.string (printR l).1, .int .i64 (printR l).2]) ∧ Kept [] w w'

theorem Printed.mk {l : List ByteArray} {w w' : World} {t : ByteArray} {x : Int} (h : printR l = (t, x)) (hk : Kept [] w w') : Printed l w (.returned (.tuple #[.string t, .int .i64 x])) w' :=
  ⟨by rw [h], hk⟩

set_option maxRecDepth 100000 in
set_option maxHeartbeats 4000000 in
theorem p_print (a : Option Addr) (n c : Nat) (l : List ByteArray) (w : World) (hT : Tab w) (hn : n = l.length) (ha : Ss w a l) : Calls Tryd.prog 16 #[.slice a n c] w (Printed l w) := by
  have hn63 : n ≤ 9223372036854775807 := by have := ha.1; omega
  have HA : Hid (Ss w a l ∧ n = l.length ∧ Tab w) := ⟨ha, hn, hT⟩
  clear hT hn ha
  go_enter Tryd.func16, Tryd.ntmps16
  go_wp2_with fail
  go_loopw [9] (fun s wr => ∃ (j : Nat), s = .int .i64 (j : Int) ∧ j ≤ n ∧ Hid (Kept [] w wr ∧ ∀ i, i < j → chk (tx l i) = 0)) (fun s _ => (n - intOf s).toNat)
  case atStart => exact ⟨0, rfl, by omega, Kept.refl _ _, fun i hi => by omega⟩
  case round =>
    obtain ⟨j, rfl, hj, HJ⟩ := hrel
    by_cases hlt : j < n
    · have k1 : (j : Int) < (n : Int) := by omega
      obtain ⟨b1, o1, rfl, c1⟩ := (HA.out.1.kept HJ.out.1).2 j (by have := HA.out.2.1; omega)
      have hmay := n_may (tx l j) wr (HA.out.2.2.kept HJ.out.1)
      obtain ⟨x, hx⟩ : ∃ x, tx l j = x := ⟨_, rfl⟩
      rw [hx] at c1 hmay
      by_cases hc : chk x = 0
      · rw [hc] at hmay
        have HM : Hid (_) := hmay
        have HX : Hid (∀ i, i < j + 1 → chk (tx l i) = 0) := fun i hi => by
          rcases Nat.lt_or_ge i j with h | h
          · exact HJ.out.2 i h
          · have : i = j := by omega
            rw [this, hx]; exact hc
        clear hmay hx hc
        go_wp2_with fail
        refine Calls.mono HM.out ?_
        rintro e w2 ⟨rfl, hk⟩
        have HK : Hid (_) := HJ.out.1.trans hk (by simp)
        clear hk HM
        go_wp2_with fail
        go_roundw
        case rel => exact ⟨j + 1, by go_num, by omega, HK.out, HX.out⟩
        case measure => simp [intOf]; omega
      · have hcb : (chk x == 0) = false := by simpa using hc
        rw [hcb] at hmay
        have HM : Hid (_) := hmay
        have HE : Hid (printR l = (⟨#[]⟩, 1100)) := by
          show printR l = _
          unfold printR
          rw [if_pos (may_not (j := j) (by have := HA.out.2.1; omega) (by rw [hx]; exact hc))]
        clear hmay hx hc hcb
        go_wp2_with fail
        refine Calls.mono HM.out ?_
        rintro e w2 ⟨rfl, hk⟩
        have HK : Hid (_) := HJ.out.1.trans hk (by simp)
        clear hk HM
        go_wp2_with fail
        go_ret2
        exact Printed.mk HE.out HK.out
    · have k1 : ¬ (j : Int) < (n : Int) := by omega
      have HM : Hid (allMay l = true) := may_all fun i hi => HJ.out.2 i (by have := HA.out.2.1; omega)
      by_cases h4 : 4 < n
      · have k2 : (4 : Int) < (n : Int) := by omega
        have HE : Hid (printR l = (⟨#[]⟩, 1102)) := by
          show printR l = _
          unfold printR
          rw [if_neg (by rw [HM.out]; simp), if_pos (by have := HA.out.2.1; omega)]
        go_wp2_with fail
        go_ret2
        exact Printed.mk HE.out HJ.out.1
      · have k2 : ¬ (4 : Int) < (n : Int) := by omega
        have HE : Hid (printR l = (joinP l, 0)) := by
          show printR l = _
          unfold printR
          rw [if_neg (by rw [HM.out]; simp), if_neg (by have := HA.out.2.1; omega)]
        have hjl := join_long HM.out (by have := HA.out.2.1; omega)
        have k3 : ¬ (64 : Int) < ((joinP l).size : Int) := by omega
        have hj0 := p_join a n c l wr HA.out.2.1 (by omega) (HA.out.1.kept HJ.out.1) (tx_small fun i hi => HJ.out.2 i (by have := HA.out.2.1; omega))
        have HC : Hid (_) := hj0
        clear hj0
        obtain ⟨t, ht⟩ : ∃ t, joinP l = t := ⟨_, rfl⟩
        rw [ht] at HC HE k3 hjl
        clear ht
        go_wp2_with fail
        refine Calls.mono HC.out ?_
        rintro e w2 ⟨rfl, hk⟩
        have HK : Hid (_) := HJ.out.1.trans hk (by simp)
        clear hk HC
        go_wp2_with fail
        go_ret2
        exact Printed.mk HE.out HK.out

def codes (e : Int) : Prop := e = 0 ∨ e = 1100 ∨ e = 1101 ∨ e = 1102

theorem first_code (l : List ByteArray) : codes (firstErr l) := by
  unfold codes
  induction l with
  | nil => exact Or.inl rfl
  | cons p l ih =>
    rw [firstErr]
    split
    · exact ih
    split
    · simp
    · simp

theorem parse_code (s : ByteArray) : codes (parseR s).2 := by
  unfold parseR
  split
  · simp [codes]
  split
  · simp [codes]
  split
  · simp [codes]
  split
  · exact first_code _
  split
  · simp [codes]
  · simp [codes]

set_option maxRecDepth 100000 in
set_option maxHeartbeats 2000000 in
theorem p_code (e : Int) (he : codes e) (w : World) : Calls Tryd.prog 13 #[.int .i64 e] w fun r w' => r = .returned (.int .i64 (codeR e)) ∧ w' = w := by
  rcases he with rfl | rfl | rfl | rfl
  · go_enter Tryd.func13, Tryd.ntmps13
    go_wp2_with fail
    go_ret
    exact ⟨rfl, rfl⟩
  · go_enter Tryd.func13, Tryd.ntmps13
    go_wp2_with fail
    go_ret
    exact ⟨rfl, rfl⟩
  · go_enter Tryd.func13, Tryd.ntmps13
    go_wp2_with fail
    go_ret
    exact ⟨rfl, rfl⟩
  · go_enter Tryd.func13, Tryd.ntmps13
    go_wp2_with fail
    go_ret
    exact ⟨rfl, rfl⟩

set_option maxRecDepth 100000 in
set_option maxHeartbeats 4000000 in
theorem p_below (a b : ByteArray) (w : World) (hT : Tab w) : Calls Tryd.prog 18 #[.string a, .string b] w fun e w' => e = .returned (.bool (belowR a b)) ∧ Kept [] w w' := by
  have HT : Hid (Tab w) := hT
  clear hT
  obtain ⟨z, hz⟩ : ∃ z, belowR a b = z := ⟨_, rfl⟩
  rw [hz]
  unfold belowR at hz
  have hf := (parse_few a).1
  have hg := (parse_few b).1
  have HA : Hid (_) := p_parse a w HT.out
  obtain ⟨⟨xs, x⟩, hx⟩ : ∃ p, parseR a = p := ⟨_, rfl⟩
  obtain ⟨⟨ys, y⟩, hy⟩ : ∃ p, parseR b = p := ⟨_, rfl⟩
  rw [hx, hy] at hz
  rw [hx] at hf
  rw [hy] at hg
  simp only [] at hz hf hg
  have HX : Hid (parseR a = (xs, x)) := hx
  have HY : Hid (parseR b = (ys, y)) := hy
  have HZ : Hid (_ = z) := hz
  clear hx hy hz
  go_enter Tryd.func18, Tryd.ntmps18
  go_wp2_with fail
  refine Calls.mono HA.out ?_
  rintro e w1 ⟨v, he, hS, hk⟩
  rw [HX.out] at he hS
  simp only [] at he hS
  subst he
  obtain ⟨a1, c1, hv, hread1, -⟩ := hS.read
  obtain ⟨n, hn⟩ : ∃ n, xs.length = n := ⟨_, rfl⟩
  rw [hn] at hv hf
  subst hv
  have HS : Hid (Ss w1 a1 xs ∧ xs.length = n ∧ Kept [] w w1 ∧ Tab w1) := ⟨hread1, hn, hk, HT.out.kept hk⟩
  clear hS hread1 hk HA HT hn
  by_cases hx0 : x = 0
  · subst hx0
    have HB : Hid (_) := p_parse b w1 HS.out.2.2.2
    go_wp2_with fail
    refine Calls.mono HB.out ?_
    rintro e w2 ⟨v, he, hS, hk⟩
    rw [HY.out] at he hS
    simp only [] at he hS
    subst he
    obtain ⟨a2, c2, hv, hread2, -⟩ := hS.read
    obtain ⟨m, hm⟩ : ∃ m, ys.length = m := ⟨_, rfl⟩
    rw [hm] at hv hg
    subst hv
    have HK : Hid (Kept [] w w2) := HS.out.2.2.1.trans hk (by simp)
    have HS2 : Hid (Ss w2 a1 xs ∧ Ss w2 a2 ys ∧ ys.length = m) := ⟨HS.out.1.kept hk, hread2, hm⟩
    have hcap := hS.cap
    clear hS hread2 hk HB hm
    by_cases hy0 : y = 0
    · subst hy0
      by_cases hlt : n < m
      · have k1 : (n : Int) < (m : Int) := by omega
        obtain ⟨b2, o2, rfl, -⟩ := HS2.out.2.1.2 0 (by have := HS2.out.2.2; omega)
        have HE : Hid (decide (xs = ys.take n) = z) := by
          show _ = z
          rw [← HZ.out]
          have h1 := HS.out.2.1
          have h2 := HS2.out.2.2
          simp [h1, h2, hlt]
        have k2 : n ≤ c2 := by omega
        have k3 : (n : Int) ≤ (c2 : Int) := by omega
        have k4 : ¬ c2 = 0 := by omega
        go_wp2_with fail
        refine (slices_equal _ _ _ _ _ _ xs (ys.take n) w2 HS.out.2.1.symm (by have := HS2.out.2.2; rw [List.length_take]; omega) HS2.out.1 (HS2.out.2.1.take n)).mono ?_
        rintro e w3 ⟨rfl, q, rfl⟩
        rw [HE.out]
        go_wp2_with fail
        go_ret
        exact ⟨rfl, HK.out.drewN q⟩
      · have k1 : ¬ (n : Int) < (m : Int) := by omega
        have HE : Hid (false = z) := by
          show _ = z
          rw [← HZ.out]
          have h1 := HS.out.2.1
          have h2 := HS2.out.2.2
          simp [h1, h2, hlt]
        go_wp2_with fail
        go_ret
        exact ⟨ret_bool HE.out, HK.out⟩
    · have hyb : (y == 0) = false := by simpa using hy0
      have HE : Hid (false = z) := by
        show _ = z
        rw [← HZ.out, hyb]
        simp
      go_wp2_with fail
      go_ret
      exact ⟨ret_bool HE.out, HK.out⟩
  · have hxb : (x == 0) = false := by simpa using hx0
    have HE : Hid (false = z) := by
      show _ = z
      rw [← HZ.out, hxb]
      simp
    go_wp2_with fail
    go_ret
    exact ⟨ret_bool HE.out, HS.out.2.2.1⟩

end Go.Proofs.YtffmfgjinpigeaaDoor
