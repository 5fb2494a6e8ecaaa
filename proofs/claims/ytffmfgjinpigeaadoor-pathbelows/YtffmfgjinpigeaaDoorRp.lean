/-
  The document's own answer for paths: Parse, Print, Code, Below.
-/
import Derived.Test.YtffmfgjinpigeaaDoorPv
namespace Go.Proofs.YtffmfgjinpigeaaDoor
open Go.RowKit
set_option linter.unusedVariables false

/-- What is left of the pieces at a place of the loop. -/
def segsR (s : ByteArray) (f j : Nat) : List ByteArray := if j ≤ s.size then segs s f j else []

theorem segsR_on {s : ByteArray} {f j : Nat} (h : j < s.size) (e : at8 s j ≠ 47) : segsR s f j = segsR s f (j + 1) := by
  unfold segsR
  rw [if_pos (by omega), if_pos (by omega), segs_on h e]

theorem segsR_cut {s : ByteArray} {f j : Nat} (h : j ≤ s.size) (e : j < s.size → at8 s j = 47) : segsR s f j = s.extract f j :: segsR s (j + 1) (j + 1) := by
  unfold segsR
  rw [if_pos h]
  rcases Nat.lt_or_ge j s.size with h1 | h1
  · rw [if_pos (by omega), segs_stroke h1 (e h1)]
  · have : j = s.size := by omega
    subst this
    rw [if_neg (by omega), segs_end (by omega)]

set_option maxRecDepth 100000 in
set_option maxHeartbeats 2000000 in
theorem f_code (e : Int) (he : codes e) (w : World) : Calls Tryd.prog 14 #[.int .i64 e] w fun r w' => r = .returned (.int .i64 (codeR e)) ∧ w' = w := by
  rcases he with rfl | rfl | rfl | rfl
  · go_enter Tryd.func14, Tryd.ntmps14
    go_wp2_with fail
    go_ret
    exact ⟨rfl, rfl⟩
  · go_enter Tryd.func14, Tryd.ntmps14
    go_wp2_with fail
    go_ret
    exact ⟨rfl, rfl⟩
  · go_enter Tryd.func14, Tryd.ntmps14
    go_wp2_with fail
    go_ret
    exact ⟨rfl, rfl⟩
  · go_enter Tryd.func14, Tryd.ntmps14
    go_wp2_with fail
    go_ret
    exact ⟨rfl, rfl⟩

theorem first_piece {p : ByteArray} {l : List ByteArray} (h : chk p = 0) : firstErr (p :: l) = firstErr l := by rw [firstErr, if_pos h]

set_option maxRecDepth 100000 in
set_option maxHeartbeats 4000000 in
theorem f_parse (s : ByteArray) (w : World) : Calls Tryd.prog 10 #[.string s] w (Parsed s w) := by
  by_cases hl : 64 < s.size
  · have i0 : (64 : Int) < (s.size : Int) := by omega
    have HP : Hid (parseR s = ([], 1101)) := by show parseR s = _; unfold parseR; rw [if_pos hl]
    go_enter Tryd.func10, Tryd.ntmps10
    go_wp2_with fail
    go_ret2
    exact Parsed.mk HP.out (Sr.nil _ _) (Kept.refl _ _)
  have i0 : ¬ (64 : Int) < (s.size : Int) := by omega
  by_cases h0 : s.size = 0
  · have HP : Hid (parseR s = ([], 1100)) := by show parseR s = _; unfold parseR; rw [if_neg hl, if_pos (Or.inl h0)]
    have t1 : s.toList.isEmpty = true := by
      rw [List.isEmpty_iff]
      apply List.eq_nil_of_length_eq_zero
      rw [ByteArray.toList_eq]; simpa using h0
    go_enter Tryd.func10, Tryd.ntmps10
    go_wp2_with fail
    go_ret2
    exact Parsed.mk HP.out (Sr.nil _ _) (Kept.refl _ _)
  have hpos : 0 < s.size := by omega
  have i1 : (0 : Int) < (s.size : Int) := by omega
  have t1 : s.toList.isEmpty = false := by
    rw [← Bool.not_eq_true, List.isEmpty_iff]
    intro e
    have : s.toList.length = s.size := by rw [ByteArray.toList_eq]; simp
    rw [e] at this
    simp at this
    omega
  have hv := at8_val hpos
  by_cases h47 : at8 s 0 ≠ 47
  · have HP : Hid (parseR s = ([], 1100)) := by show parseR s = _; unfold parseR; rw [if_neg hl, if_pos (Or.inr h47)]
    have hv1 : ¬ (s[0]'hpos).toNat = 47 := by rw [hv]; exact h47
    have hv2 : ¬ ((s[0]'hpos).toNat : Int) = 47 := by omega
    clear hv
    go_enter Tryd.func10, Tryd.ntmps10
    go_wp2_with fail
    go_ret2
    exact Parsed.mk HP.out (Sr.nil _ _) (Kept.refl _ _)
  have h47 : at8 s 0 = 47 := by omega
  rw [h47] at hv
  have hv1 : (s[0]'hpos).toNat = 47 := hv
  have hv2 : ((s[0]'hpos).toNat : Int) = 47 := by omega
  by_cases h1 : s.size = 1
  · have HP : Hid (parseR s = ([], 0)) := by show parseR s = _; unfold parseR; rw [if_neg hl, if_neg (by omega), if_pos h1]
    have es : s = ⟨#[47]⟩ := bytes_ext (by rw [one_47]; exact h1) fun i hi => by
      have : i = 0 := by omega
      subst this
      rw [at8_47]; omega
    have t2 : (s.toList == [47]) = true := by rw [ByteArray.toList_eq, es]; rfl
    clear es
    go_enter Tryd.func10, Tryd.ntmps10
    go_wp2_with fail
    go_ret2
    exact Parsed.mk HP.out (Sr.nil _ _) (Kept.refl _ _)
  have t2 : (s.toList == [47]) = false := by
    rw [← Bool.not_eq_true, beq_iff_eq]
    intro e
    have : s.toList.length = s.size := by rw [ByteArray.toList_eq]; simp
    rw [e] at this
    simp at this
    omega
  have HR : Hid (∀ xs, xs = segs s 1 1 → parseR s = if firstErr xs ≠ 0 then ([], firstErr xs) else if 4 < xs.length then ([], 1102) else (xs, 0)) := by
    show ∀ xs, _
    intro xs hx
    subst hx
    unfold parseR
    rw [if_neg hl, if_neg (by omega), if_neg h1]
  have hs64 : s.size ≤ 64 := by omega
  have h2 : 1 ≤ s.size := by omega
  have hlen := segs_len s 64 1 1 (by omega)
  have HL : Hid (segsR s 1 1 = segs s 1 1) := if_pos h2
  clear hl h0 h47 h1 hv
  go_enter Tryd.func10, Tryd.ntmps10
  go_wp2_with fail
  go_loopw [4, 5, 6] (fun v f i wr => ∃ (j fr : Nat) (a : Option Addr) (n c : Nat), v = .slice a n c ∧ f = .int .i64 (fr : Int) ∧ i = .int .i64 (j : Int) ∧ fr ≤ j ∧ j ≤ s.size + 1 ∧ Hid (∃ xs, Sr wr w.heap.size (.slice a n c) xs ∧ n = xs.length ∧ xs ++ segsR s fr j = segs s 1 1 ∧ firstErr (segsR s fr j) = firstErr (segs s 1 1) ∧ xs.length ≤ j) ∧ Hid (Kept [] w wr)) (fun _ _ i _ => (s.size + 1 - intOf i).toNat)
  case atStart => exact ⟨1, 1, _, _, _, rfl, rfl, rfl, by omega, by omega, ⟨[], Sr.nil _ _, rfl, HL.out, by rw [HL.out], by simp⟩, Kept.refl _ _⟩
  case round =>
    obtain ⟨j, fr, a, n, c, rfl, rfl, rfl, hfj, hj, HX, HK⟩ := hrel
    by_cases hle : j ≤ s.size
    · have k1 : (j : Int) ≤ (s.size : Int) := by omega
      by_cases hon : j < s.size ∧ at8 s j ≠ 47
      · have k2 : (j : Int) < (s.size : Int) := by omega
        have k3 := hon.1
        have u1 := at8_val hon.1
        have u2 : ¬ (s[j]'k3).toNat = 47 := by rw [u1]; exact hon.2
        have u3 : ¬ ((s[j]'k3).toNat : Int) = 47 := by omega
        have HX2 : Hid (∃ xs, Sr wr w.heap.size (.slice a n c) xs ∧ n = xs.length ∧ xs ++ segsR s fr (j + 1) = segs s 1 1 ∧ firstErr (segsR s fr (j + 1)) = firstErr (segs s 1 1) ∧ xs.length ≤ j + 1) := by
          obtain ⟨xs, q1, q2, q3, q4, q5⟩ := HX.out
          have e := segsR_on (f := fr) hon.1 hon.2
          exact ⟨xs, q1, q2, by rw [← e]; exact q3, by rw [← e]; exact q4, by omega⟩
        clear u1 hon HX
        go_wp2_with fail
        go_roundw
        case rel => exact ⟨j + 1, fr, _, _, _, rfl, rfl, by go_num, by omega, by omega, HX2.out, HK.out⟩
        case measure => simp [intOf]; omega
      · obtain ⟨xs, q1, q2, q3, q4, q5⟩ := HX.out
        have e := segsR_cut (f := fr) hle (fun h => by omega)
        rw [e] at q3 q4
        have hck := f_check (s.extract fr j) wr (by rw [ByteArray.size_extract]; omega)
        have hany := chk_any (s.extract fr j)
        have k4 : (fr : Int) ≤ (j : Int) := by omega
        by_cases hc : chk (s.extract fr j) = 0
        · rw [first_piece hc] at q4
          rw [hc] at hck
          have HC : Hid (_) := hck
          obtain ⟨v', w', hr, h5, h6⟩ := append_text q1 HK.out.size (s.extract fr j) (by omega) 22
          have HE : Hid (Sr w' w.heap.size v' (xs ++ [s.extract fr j]) ∧ xs ++ [s.extract fr j] ++ segsR s (j + 1) (j + 1) = segs s 1 1 ∧ firstErr (segsR s (j + 1) (j + 1)) = firstErr (segs s 1 1) ∧ (xs ++ [s.extract fr j]).length ≤ j + 1 ∧ Kept [] w w') := ⟨h5, by rw [List.append_assoc]; exact q3, q4, by rw [List.length_append, List.length_singleton]; omega, HK.out.trans h6 fun x hx => Or.inr (q1.block x (by simpa using hx)).1⟩
          have HA : Hid (_) := hr
          obtain ⟨va, vc, hva, -⟩ := h5.read
          obtain ⟨m, hm⟩ : ∃ m, (xs ++ [s.extract fr j]).length = m := ⟨_, rfl⟩
          rw [hm] at hva
          subst hva
          have HM : Hid (m = (xs ++ [s.extract fr j]).length) := hm.symm
          clear q1 q2 q3 q4 q5 e hck hany hc h5 h6 hr HX hm
          by_cases hend : j < s.size
          · have k2 : (j : Int) < (s.size : Int) := by omega
            have u2 : (s[j]'hend).toNat = 47 := by rw [at8_val hend]; omega
            have u3 : ((s[j]'hend).toNat : Int) = 47 := by omega
            clear hon
            go_wp2_with fail
            refine Calls.mono HC.out ?_
            rintro e w2 ⟨rfl, hw2⟩
            have hw3 := hw2.symm
            subst hw3
            go_wp2_with (at_builtin; refine wpList_append_run _ rfl _ _ 22 22 rfl _ _ rfl rfl _ _ HA.out ?_)
            go_roundw
            case rel => exact ⟨j + 1, j + 1, _, _, _, rfl, by go_num, by go_num, by omega, by omega, ⟨_, HE.out.1, HM.out, HE.out.2.1, HE.out.2.2.1, HE.out.2.2.2.1⟩, HE.out.2.2.2.2⟩
            case measure => simp [intOf]; omega
          · have k2 : ¬ (j : Int) < (s.size : Int) := by omega
            clear hon
            go_wp2_with fail
            refine Calls.mono HC.out ?_
            rintro e w2 ⟨rfl, hw2⟩
            have hw3 := hw2.symm
            subst hw3
            go_wp2_with (at_builtin; refine wpList_append_run _ rfl _ _ 22 22 rfl _ _ rfl rfl _ _ HA.out ?_)
            go_roundw
            case rel => exact ⟨j + 1, j + 1, _, _, _, rfl, by go_num, by go_num, by omega, by omega, ⟨_, HE.out.1, HM.out, HE.out.2.1, HE.out.2.2.1, HE.out.2.2.2.1⟩, HE.out.2.2.2.2⟩
            case measure => simp [intOf]; omega
        · rw [firstErr, if_neg hc] at q4
          have hany2 : chk (s.extract fr j) = 801 ∨ chk (s.extract fr j) = 800 := by omega
          clear hany
          rcases hany2 with hc8 | hc8
          · have HE : Hid (parseR s = ([], 1101)) := by
              show parseR s = _
              rw [if_pos hc8] at q4
              rw [HR.out _ rfl, ← q4, if_pos (by omega)]
            rw [hc8] at hck
            have HC : Hid (_) := hck
            clear q1 q2 q3 q4 q5 e hck hc hc8 HX
            by_cases hend : j < s.size
            · have k2 : (j : Int) < (s.size : Int) := by omega
              have u2 : (s[j]'hend).toNat = 47 := by rw [at8_val hend]; omega
              have u3 : ((s[j]'hend).toNat : Int) = 47 := by omega
              clear hon
              go_wp2_with fail
              refine Calls.mono HC.out ?_
              rintro e w2 ⟨rfl, hw2⟩
              have hw3 := hw2.symm
              subst hw3
              go_wp2_with fail
              go_ret2
              exact Parsed.mk HE.out (Sr.nil _ _) HK.out
            · have k2 : ¬ (j : Int) < (s.size : Int) := by omega
              clear hon
              go_wp2_with fail
              refine Calls.mono HC.out ?_
              rintro e w2 ⟨rfl, hw2⟩
              have hw3 := hw2.symm
              subst hw3
              go_wp2_with fail
              go_ret2
              exact Parsed.mk HE.out (Sr.nil _ _) HK.out
          · have HE : Hid (parseR s = ([], 1100)) := by
              show parseR s = _
              rw [if_neg (by omega)] at q4
              rw [HR.out _ rfl, ← q4, if_pos (by omega)]
            rw [hc8] at hck
            have HC : Hid (_) := hck
            clear q1 q2 q3 q4 q5 e hck hc hc8 HX
            by_cases hend : j < s.size
            · have k2 : (j : Int) < (s.size : Int) := by omega
              have u2 : (s[j]'hend).toNat = 47 := by rw [at8_val hend]; omega
              have u3 : ((s[j]'hend).toNat : Int) = 47 := by omega
              clear hon
              go_wp2_with fail
              refine Calls.mono HC.out ?_
              rintro e w2 ⟨rfl, hw2⟩
              have hw3 := hw2.symm
              subst hw3
              go_wp2_with fail
              go_ret2
              exact Parsed.mk HE.out (Sr.nil _ _) HK.out
            · have k2 : ¬ (j : Int) < (s.size : Int) := by omega
              clear hon
              go_wp2_with fail
              refine Calls.mono HC.out ?_
              rintro e w2 ⟨rfl, hw2⟩
              have hw3 := hw2.symm
              subst hw3
              go_wp2_with fail
              go_ret2
              exact Parsed.mk HE.out (Sr.nil _ _) HK.out
    · have k1 : ¬ (j : Int) ≤ (s.size : Int) := by omega
      obtain ⟨xs, q1, q2, q3, q4, q5⟩ := HX.out
      have e : segsR s fr j = [] := if_neg hle
      rw [e] at q3 q4
      rw [List.append_nil] at q3
      have HS : Hid (Sr wr w.heap.size (.slice a n c) xs) := q1
      by_cases h4 : 4 < n
      · have k2 : (4 : Int) < (n : Int) := by omega
        have HE : Hid (parseR s = ([], 1102)) := by
          show parseR s = _
          rw [HR.out xs q3, q3, ← q4, if_neg (by simp [firstErr]), if_pos (by rw [← q3]; omega)]
        clear q1 q2 q3 q4 q5 e HX
        go_wp2_with fail
        go_ret2
        exact Parsed.mk HE.out (Sr.nil _ _) HK.out
      · have k2 : ¬ (4 : Int) < (n : Int) := by omega
        have HE : Hid (parseR s = (xs, 0)) := by
          show parseR s = _
          rw [HR.out xs q3, q3, ← q4, if_neg (by simp [firstErr]), if_neg (by rw [← q3]; omega)]
        clear q1 q2 q3 q4 q5 e HX
        go_wp2_with fail
        go_ret2
        exact Parsed.mk HE.out HS.out HK.out

theorem app_stroke {l : List ByteArray} {j : Nat} (h : j < l.length) : joinL (l.take (j + 1)) = joinL (l.take j) ++ ⟨#[47]⟩ ++ tx l j := by rw [joinL_take h, app_assoc]

set_option maxRecDepth 100000 in
set_option maxHeartbeats 4000000 in
theorem f_print (a : Option Addr) (n c : Nat) (l : List ByteArray) (w : World) (hn : n = l.length) (ha : Ss w a l) (hz : ∀ j, (tx l j).size ≤ 9223372036854775000) : Calls Tryd.prog 17 #[.slice a n c] w (Printed l w) := by
  have hn63 : n ≤ 9223372036854775807 := by have := ha.1; omega
  have HA : Hid (Ss w a l ∧ n = l.length ∧ ∀ j, (tx l j).size ≤ 9223372036854775000) := ⟨ha, hn, hz⟩
  clear hn ha hz
  go_enter Tryd.func17, Tryd.ntmps17
  go_wp2_with fail
  go_loopw [5] (fun s wr => ∃ (j : Nat), s = .int .i64 (j : Int) ∧ j ≤ n ∧ wr = w ∧ Hid (∀ i, i < j → chk (tx l i) = 0)) (fun s _ => (n - intOf s).toNat)
  case atStart => exact ⟨0, rfl, by omega, rfl, fun i hi => by omega⟩
  case round =>
    obtain ⟨j, rfl, hj, hwr, HJ⟩ := hrel
    have hwr2 := hwr.symm
    subst hwr2
    by_cases hlt : j < n
    · have k1 : (j : Int) < (n : Int) := by omega
      obtain ⟨b1, o1, rfl, c1⟩ := HA.out.1.2 j (by have := HA.out.2.1; omega)
      have hmay := f_check (tx l j) w (HA.out.2.2 j)
      obtain ⟨x, hx⟩ : ∃ x, tx l j = x := ⟨_, rfl⟩
      rw [hx] at c1 hmay
      by_cases hc : chk x = 0
      · rw [hc] at hmay
        have HM : Hid (_) := hmay
        have HX : Hid (∀ i, i < j + 1 → chk (tx l i) = 0) := fun i hi => by
          rcases Nat.lt_or_ge i j with h | h
          · exact HJ.out i h
          · have : i = j := by omega
            rw [this, hx]; exact hc
        clear hmay hx hc
        go_wp2_with fail
        refine Calls.mono HM.out ?_
        rintro e w2 ⟨rfl, hw2⟩
        have hw3 := hw2.symm
        subst hw3
        clear HM
        go_wp2_with fail
        go_roundw
        case rel => exact ⟨j + 1, by go_num, by omega, by trivial, HX.out⟩
        case measure => simp [intOf]; omega
      · have HE : Hid (printR l = (⟨#[]⟩, 1100)) := by
          show printR l = _
          unfold printR
          rw [if_pos (may_not (j := j) (by have := HA.out.2.1; omega) (by rw [hx]; exact hc))]
        obtain ⟨z, hzz⟩ : ∃ z, chk x = z := ⟨_, rfl⟩
        rw [hzz] at hmay hc
        have hcb : (z == 0) = false := by simpa using hc
        have HM : Hid (_) := hmay
        clear hmay hx hzz
        go_wp2_with fail
        refine Calls.mono HM.out ?_
        rintro e w2 ⟨rfl, hw2⟩
        have hw3 := hw2.symm
        subst hw3
        clear HM
        go_wp2_with fail
        go_ret2
        exact Printed.mk HE.out (Kept.refl _ _)
    · have k1 : ¬ (j : Int) < (n : Int) := by omega
      have HM : Hid (allMay l = true) := may_all fun i hi => HJ.out i (by have := HA.out.2.1; omega)
      have HT : Hid (∀ j, (tx l j).size ≤ 12) := tx_small fun i hi => HJ.out i (by have := HA.out.2.1; omega)
      by_cases h4 : 4 < n
      · have k2 : (4 : Int) < (n : Int) := by omega
        have HE : Hid (printR l = (⟨#[]⟩, 1102)) := by
          show printR l = _
          unfold printR
          rw [if_neg (by rw [HM.out]; simp), if_pos (by have := HA.out.2.1; omega)]
        go_wp2_with fail
        go_ret2
        exact Printed.mk HE.out (Kept.refl _ _)
      · have k2 : ¬ (4 : Int) < (n : Int) := by omega
        have HE : Hid (printR l = (joinP l, 0)) := by
          show printR l = _
          unfold printR
          rw [if_neg (by rw [HM.out]; simp), if_neg (by have := HA.out.2.1; omega)]
        go_wp2_with fail
        clear HJ k1 hlt
        go_loopw [4, 6] (fun v s wr2 => ∃ (i : Nat) (t : ByteArray), v = .string t ∧ s = .int .i64 (i : Int) ∧ i ≤ n ∧ t.size ≤ 13 * i ∧ wr2 = w ∧ Hid (t = joinL (l.take i))) (fun _ s _ => (n - intOf s).toNat)
        case atStart => exact ⟨0, _, rfl, rfl, by omega, by exact Nat.zero_le _, rfl, by rfl⟩
        case round =>
          obtain ⟨i, t, rfl, rfl, hi, hts, hww, HI⟩ := hrel
          have hww2 := hww.symm
          subst hww2
          by_cases hlt : i < n
          · have k3 : (i : Int) < (n : Int) := by omega
            obtain ⟨b1, o1, rfl, c1⟩ := HA.out.1.2 i (by have := HA.out.2.1; omega)
            have hst := app_stroke (l := l) (j := i) (by have := HA.out.2.1; omega)
            have hx12 := HT.out i
            obtain ⟨x, hx⟩ : ∃ x, tx l i = x := ⟨_, rfl⟩
            rw [hx] at c1 hst hx12
            rw [← HI.out] at hst
            have HS : Hid (_) := hst.symm
            have hsz : (t ++ ⟨#[47]⟩ ++ x).size ≤ 13 * (i + 1) := by rw [ByteArray.size_append, ByteArray.size_append, one_47]; omega
            clear hst hx
            go_wp2_with fail
            go_roundw
            case rel => exact ⟨i + 1, _, rfl, by go_num, by omega, by first | exact hsz | (simpa using hsz), by trivial, HS.out⟩
            case measure => simp [intOf]; omega
          · have k3 : ¬ (i : Int) < (n : Int) := by omega
            have k4 : ¬ (64 : Int) < (t.size : Int) := by omega
            have ht := HI.out
            rw [List.take_of_length_le (by have := HA.out.2.1; omega)] at ht
            by_cases hl : l = []
            · have HF : Hid (printR l = (⟨#[47]⟩, 0)) := by
                show printR l = _
                rw [HE.out, hl]
                rfl
              have et : t = ⟨#[]⟩ := by rw [ht, hl]; rfl
              have t1 : t.toList.isEmpty = true := by rw [ByteArray.toList_eq, et]; rfl
              clear ht hl HI et
              go_wp2_with fail
              go_ret2
              exact Printed.mk HF.out (Kept.refl _ _)
            · have HF : Hid (printR l = (t, 0)) := by
                show printR l = _
                rw [HE.out, ht]
                unfold joinP
                rw [if_neg hl]
              have t1 : t.toList.isEmpty = false := by
                rw [← Bool.not_eq_true, List.isEmpty_iff]
                intro e
                have h1 : t.toList.length = t.size := by rw [ByteArray.toList_eq]; simp
                rw [e, ht] at h1
                cases l with
                | nil => exact hl rfl
                | cons p l' =>
                  rw [(join_first p l').2] at h1
                  simp at h1
                  omega
              clear ht hl HI
              go_wp2_with fail
              go_ret2
              exact Printed.mk HF.out (Kept.refl _ _)

theorem take_or {xs ys : List ByteArray} {k : Nat} (hk : k < xs.length) (h : tx xs k ≠ tx ys k) (hl : xs.length < ys.length) : xs ≠ ys.take xs.length := by
  intro e
  apply h
  have h1 := tx_at hk
  have h2 : (ys.take xs.length)[k]? = ys[k]? := List.getElem?_take_of_lt hk
  rw [← e, h1, tx_at (by omega)] at h2
  exact Option.some.inj h2

theorem take_all {xs ys : List ByteArray} (hl : xs.length < ys.length) (h : ∀ j, j < xs.length → tx xs j = tx ys j) : xs = ys.take xs.length := by
  apply tx_ext
  · rw [List.length_take]; omega
  · intro j hj
    rw [h j hj]
    unfold tx
    rw [List.getD_eq_getElem?_getD, List.getD_eq_getElem?_getD, List.getElem?_take_of_lt hj]

set_option maxRecDepth 100000 in
set_option maxHeartbeats 4000000 in
theorem f_below (a b : ByteArray) (w : World) : Calls Tryd.prog 19 #[.string a, .string b] w fun e w' => e = .returned (.bool (belowR a b)) ∧ Kept [] w w' := by
  obtain ⟨z, hz⟩ : ∃ z, belowR a b = z := ⟨_, rfl⟩
  rw [hz]
  unfold belowR at hz
  have hf := (parse_few a).1
  have hg := (parse_few b).1
  have HA : Hid (_) := f_parse a w
  obtain ⟨⟨xs, x⟩, hx⟩ : ∃ p, parseR a = p := ⟨_, rfl⟩
  obtain ⟨⟨ys, y⟩, hy⟩ : ∃ p, parseR b = p := ⟨_, rfl⟩
  rw [hx, hy] at hz
  rw [hx] at hf
  rw [hy] at hg
  simp only [] at hz hf hg
  have HX : Hid (parseR a = (xs, x)) := hx
  have HY : Hid (parseR b = (ys, y)) := hy
  have HZ : Hid (_ = z) := hz
  clear hx hy hz
  go_enter Tryd.func19, Tryd.ntmps19
  go_wp2_with fail
  refine Calls.mono HA.out ?_
  rintro e w1 ⟨v, he, hS, hk⟩
  rw [HX.out] at he hS
  simp only [] at he hS
  subst he
  obtain ⟨a1, c1, hv, hread1, -⟩ := hS.read
  obtain ⟨n, hn⟩ : ∃ n, xs.length = n := ⟨_, rfl⟩
  rw [hn] at hv hf
  subst hv
  have HS : Hid (Ss w1 a1 xs ∧ xs.length = n ∧ Kept [] w w1) := ⟨hread1, hn, hk⟩
  clear hS hread1 hk HA hn
  have HB : Hid (_) := f_parse b w1
  go_wp2_with fail
  refine Calls.mono HB.out ?_
  rintro e w2 ⟨v, he, hS, hk⟩
  rw [HY.out] at he hS
  simp only [] at he hS
  subst he
  obtain ⟨a2, c2, hv, hread2, -⟩ := hS.read
  obtain ⟨m, hm⟩ : ∃ m, ys.length = m := ⟨_, rfl⟩
  rw [hm] at hv hg
  subst hv
  have HK : Hid (Kept [] w w2) := HS.out.2.2.trans hk (by simp)
  have HS2 : Hid (Ss w2 a1 xs ∧ Ss w2 a2 ys ∧ ys.length = m ∧ xs.length = n) := ⟨HS.out.1.kept hk, hread2, hm, HS.out.2.1⟩
  clear hS hread2 hk HB hm
  by_cases hx0 : x = 0
  · subst hx0
    by_cases hy0 : y = 0
    · subst hy0
      by_cases hlt : n < m
      · have k1 : ¬ (m : Int) ≤ (n : Int) := by omega
        have k2 : ¬ (n : Int) ≥ (m : Int) := by omega
        have HE : Hid (decide (xs = ys.take xs.length) = z) := by
          show _ = z
          rw [← HZ.out]
          have h1 := HS2.out.2.2.2
          have h2 := HS2.out.2.2.1
          simp [h1, h2, hlt]
        clear HZ
        go_wp2_with fail
        go_loopw [9] (fun s wr => ∃ (k q : Nat), s = .int .i64 (k : Int) ∧ k ≤ n ∧ wr = w2.drewN q ∧ Hid (∀ j, j < k → tx xs j = tx ys j)) (fun s _ => (n - intOf s).toNat)
        case atStart => exact ⟨0, 0, rfl, by omega, rfl, fun j hj => by omega⟩
        case round =>
          obtain ⟨k, q, rfl, hk, rfl, HJ⟩ := hrel
          by_cases hkn : k < n
          · have i1 : (k : Int) < (n : Int) := by omega
            have i2 : (k : Int) < (m : Int) := by omega
            obtain ⟨b1, o1, rfl, d1⟩ := HS2.out.1.2 k (by have := HS2.out.2.2.2; omega)
            obtain ⟨b2, o2, rfl, d2⟩ := HS2.out.2.1.2 k (by have := HS2.out.2.2.1; omega)
            obtain ⟨x, hx⟩ : ∃ x, tx xs k = x := ⟨_, rfl⟩
            obtain ⟨y, hy⟩ : ∃ y, tx ys k = y := ⟨_, rfl⟩
            rw [hx] at d1
            rw [hy] at d2
            by_cases hxy : x = y
            · subst hxy
              have HQ : Hid (tx xs k = tx ys k) := hx.trans hy.symm
              clear hx hy
              go_wp2_with fail
              go_region
              go_wp2_with fail
              go_roundw
              case rel => exact ⟨k + 1, q + 1, by go_num, by omega, rfl, fun j hj => by
                rcases Nat.lt_or_ge j k with h | h
                · exact HJ.out j h
                · have : j = k := by omega
                  rw [this]; exact HQ.out⟩
              case measure => simp [intOf]; omega
            · have hne : ¬ x.toList = y.toList := fun e => hxy (by apply ByteArray.ext; apply Array.ext'; rw [ByteArray.toList_eq, ByteArray.toList_eq] at e; exact e)
              have hnb : (x.toList == y.toList) = false := by simpa using hne
              have HF : Hid (false = z) := by
                show false = z
                rw [← HE.out]
                symm
                rw [decide_eq_false_iff_not]
                exact take_or (k := k) (by have := HS2.out.2.2.2; omega) (by rw [hx, hy]; exact hxy) (by have := HS2.out.2.2.2; have := HS2.out.2.2.1; omega)
              clear hx hy hxy
              go_wp2_with fail
              go_region
              go_wp2_with fail
              go_ret
              exact ⟨ret_bool HF.out, HK.out.drewN _⟩
          · have i1 : ¬ (k : Int) < (n : Int) := by omega
            have HF : Hid (true = z) := by
              show true = z
              rw [← HE.out]
              symm
              rw [decide_eq_true_eq]
              exact take_all (by have := HS2.out.2.2.2; have := HS2.out.2.2.1; omega) fun j hj => HJ.out j (by have := HS2.out.2.2.2; omega)
            go_wp2_with fail
            go_ret
            exact ⟨ret_bool HF.out, HK.out.drewN _⟩
      · have k1 : (m : Int) ≤ (n : Int) := by omega
        have k2 : (n : Int) ≥ (m : Int) := by omega
        have HE : Hid (false = z) := by
          show _ = z
          rw [← HZ.out]
          have h1 := HS2.out.2.2.2
          have h2 := HS2.out.2.2.1
          simp [h1, h2, hlt]
        go_wp2_with fail
        go_ret
        exact ⟨ret_bool HE.out, HK.out⟩
    · have hyb : (y == 0) = false := by simpa using hy0
      have HE : Hid (false = z) := by
        show _ = z
        rw [← HZ.out, hyb]
        simp
      go_wp2_with fail
      go_ret
      exact ⟨ret_bool HE.out, HK.out⟩
  · have hxb : (x == 0) = false := by simpa using hx0
    have HE : Hid (false = z) := by
      show _ = z
      rw [← HZ.out, hxb]
      simp
    go_wp2_with fail
    go_ret
    exact ⟨ret_bool HE.out, HK.out⟩

end Go.Proofs.YtffmfgjinpigeaaDoor
