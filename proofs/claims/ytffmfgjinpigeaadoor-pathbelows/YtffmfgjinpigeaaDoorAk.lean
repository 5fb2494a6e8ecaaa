/-
  Paths of known bytes, by reckoning; what every package path answers (awake).
-/
import Derived.Test.YtffmfgjinpigeaaDoorRp
import Derived.Test.YtffmfgjinpigeaaDoorAw
namespace Go.Proofs.YtffmfgjinpigeaaDoor
open Go.RowKit
set_option linter.unusedVariables false

def segsF : Nat → ByteArray → Nat → Nat → List ByteArray
  | 0, s, f, _ => [s.extract f s.size]
  | n + 1, s, f, i => if i < s.size then (if at8 s i = 47 then s.extract f i :: segsF n s (i + 1) (i + 1) else segsF n s f (i + 1)) else [s.extract f s.size]

theorem segs_fuel (s : ByteArray) (n : Nat) : ∀ f i, s.size ≤ i + n → segs s f i = segsF n s f i := by
  induction n with
  | zero => intro f i h; rw [segs_end (by omega)]; rfl
  | succ n ih =>
    intro f i h
    rw [segsF]
    by_cases h1 : i < s.size
    · rw [if_pos h1]
      by_cases h2 : at8 s i = 47
      · rw [if_pos h2, segs_stroke h1 h2, ih _ _ (by omega)]
      · rw [if_neg h2, segs_on h1 h2, ih _ _ (by omega)]
    · rw [if_neg h1, segs_end h1]

def firstF : List ByteArray → Int
  | [] => 0
  | p :: l => if chkF p = 0 then firstF l else if chkF p = 801 then 1101 else 1100

theorem first_eq (l : List ByteArray) : firstErr l = firstF l := by
  induction l with
  | nil => rfl
  | cons p l ih => rw [firstErr, firstF, ih, chk_eq]

def parseF (s : ByteArray) : List ByteArray × Int :=
  if 64 < s.size then ([], 1101) else if s.size = 0 ∨ at8 s 0 ≠ 47 then ([], 1100) else if s.size = 1 then ([], 0)
  else if firstF (segsF 64 s 1 1) ≠ 0 then ([], firstF (segsF 64 s 1 1)) else if 4 < (segsF 64 s 1 1).length then ([], 1102) else (segsF 64 s 1 1, 0)

theorem parse_eq (s : ByteArray) : parseR s = parseF s := by
  unfold parseR parseF
  by_cases h : 64 < s.size
  · rw [if_pos h, if_pos h]
  · rw [if_neg h, if_neg h, segs_fuel s 64 1 1 (by omega), first_eq]

theorem v_abc : parseR ⟨#[47, 97, 47, 98, 99]⟩ = ([⟨#[97]⟩, ⟨#[98, 99]⟩], 0) := by rw [parse_eq]; decide +kernel
theorem v_root : parseR ⟨#[47]⟩ = ([], 0) := by rw [parse_eq]; decide +kernel
theorem v_none : parseR ⟨#[97]⟩ = ([], 1100) := by rw [parse_eq]; decide +kernel
theorem v_two : parseR ⟨#[47, 97, 47, 47, 98]⟩ = ([], 1100) := by rw [parse_eq]; decide +kernel
theorem v_pa : parseR ⟨#[47, 97]⟩ = ([⟨#[97]⟩], 0) := by rw [parse_eq]; decide +kernel
theorem v_pab : parseR ⟨#[47, 97, 47, 98]⟩ = ([⟨#[97]⟩, ⟨#[98]⟩], 0) := by rw [parse_eq]; decide +kernel
theorem v_xy : printR [⟨#[120]⟩, ⟨#[121]⟩] = (⟨#[47, 120, 47, 121]⟩, 0) := by
  have h : allMay [⟨#[120]⟩, ⟨#[121]⟩] = true := by
    unfold allMay
    simp only [List.all_cons, List.all_nil, chk_eq]
    decide +kernel
  unfold printR
  rw [h]
  decide +kernel
theorem v_below : belowR ⟨#[47, 97]⟩ ⟨#[47, 97, 47, 98]⟩ = true := by
  unfold belowR
  rw [v_pa, v_pab]
  decide +kernel

/-- Two texts that were built for a call. -/
theorem two_texts (w : World) (x y : ByteArray) : Ss (w.alloc (.cells #[.string x, .string y] 9)) (some ⟨w.heap.size, 0, none⟩) [x, y] :=
  ⟨by simp, fun i hi => ⟨_, _, rfl, by
    rw [cell_of_row _ _ _ _ _ _ (heap_alloc_new w _)]
    have : i = 0 ∨ i = 1 := by simp at hi; omega
    rcases this with rfl | rfl
    · rfl
    · rfl⟩⟩

set_option maxRecDepth 100000 in
set_option maxHeartbeats 4000000 in
theorem awake_any (w : World) (hT : Tab w) : Calls Tryd.prog 15 #[] w fun e w' => e = .returned (.bool true) ∧ Kept [] w w' := by
  have HT : Hid (Tab w) := hT
  clear hT
  go_enter Tryd.func15, Tryd.ntmps15
  go_wp2_with fail
  refine (p_parse _ w HT.out).mono ?_
  rintro e w1 ⟨v, he, hS, hk⟩
  rw [v_abc] at he hS
  simp only [] at he hS
  subst he
  obtain ⟨a1, c1, hv, hr1, -⟩ := hS.read
  simp only [List.length_cons, List.length_nil] at hv
  subst hv
  have H1 : Hid (Ss w1 a1 [⟨#[97]⟩, ⟨#[98, 99]⟩] ∧ Kept [] w w1 ∧ Tab w1) := ⟨hr1, hk, HT.out.kept hk⟩
  clear hS hr1 hk HT
  go_wp2_with fail
  refine (p_parse _ w1 H1.out.2.2).mono ?_
  rintro e w2 ⟨v, he, hS, hk⟩
  rw [v_root] at he hS
  simp only [] at he hS
  subst he
  obtain ⟨a2, c2, hv, hr2, -⟩ := hS.read
  simp only [List.length_nil] at hv
  subst hv
  have H2 : Hid (Ss w2 a1 [⟨#[97]⟩, ⟨#[98, 99]⟩] ∧ Kept [] w w2 ∧ Tab w2) := ⟨H1.out.1.kept hk, H1.out.2.1.trans hk (by simp), H1.out.2.2.kept hk⟩
  clear hS hr2 hk H1
  go_wp2_with fail
  refine (p_parse _ w2 H2.out.2.2).mono ?_
  rintro e w3 ⟨v, he, hS, hk⟩
  rw [v_none] at he hS
  simp only [] at he hS
  subst he
  obtain ⟨a3, c3, hv, hr3, -⟩ := hS.read
  simp only [List.length_nil] at hv
  subst hv
  have hka := hk.alloc (.cells #[.string ⟨#[120]⟩, .string ⟨#[121]⟩] 9)
  have H3 : Hid (Ss (w3.alloc (.cells #[.string ⟨#[120]⟩, .string ⟨#[121]⟩] 9)) a1 [⟨#[97]⟩, ⟨#[98, 99]⟩] ∧ Kept [] w (w3.alloc (.cells #[.string ⟨#[120]⟩, .string ⟨#[121]⟩] 9)) ∧ Tab (w3.alloc (.cells #[.string ⟨#[120]⟩, .string ⟨#[121]⟩] 9))) := ⟨H2.out.1.kept hka, H2.out.2.1.trans hka (by simp), H2.out.2.2.kept hka⟩
  clear hS hr3 hk H2 hka
  go_wp2_with fail
  refine (p_print _ _ _ [⟨#[120]⟩, ⟨#[121]⟩] _ H3.out.2.2 rfl (two_texts w3 _ _)).mono ?_
  rintro e w4 ⟨he, hk⟩
  rw [v_xy] at he
  simp only [] at he
  subst he
  have H4 : Hid (Ss w4 a1 [⟨#[97]⟩, ⟨#[98, 99]⟩] ∧ Kept [] w w4 ∧ Tab w4) := ⟨H3.out.1.kept hk, H3.out.2.1.trans hk (by simp), H3.out.2.2.kept hk⟩
  clear hk H3
  go_wp2_with fail
  refine (p_parse _ w4 H4.out.2.2).mono ?_
  rintro e w5 ⟨v, he, hS, hk⟩
  rw [v_two] at he hS
  simp only [] at he hS
  subst he
  obtain ⟨a5, c5, hv, hr5, -⟩ := hS.read
  simp only [List.length_nil] at hv
  subst hv
  have H5 : Hid (Ss w5 a1 [⟨#[97]⟩, ⟨#[98, 99]⟩] ∧ Kept [] w w5 ∧ Tab w5) := ⟨H4.out.1.kept hk, H4.out.2.1.trans hk (by simp), H4.out.2.2.kept hk⟩
  clear hS hr5 hk H4
  go_wp2_with fail
  refine (num_of _ w5).mono ?_
  rintro e w6 ⟨rfl, hw⟩
  have hw2 := hw.symm
  subst hw2
  go_wp2_with fail
  refine (same_texts _ _ _ _ _ _ [⟨#[97]⟩, ⟨#[98, 99]⟩] [⟨#[97]⟩, ⟨#[98, 99]⟩] _ rfl rfl (H5.out.1.kept ((Kept.refl [] w5).alloc _)) (two_texts w5 _ _)).mono ?_
  rintro e w6 ⟨rfl, q, hw⟩
  rw [show (decide (([⟨#[97]⟩, ⟨#[98, 99]⟩] : List ByteArray) = [⟨#[97]⟩, ⟨#[98, 99]⟩])) = true from decide_eq_true rfl]
  have hk6 : Kept [] w5 w6 := by rw [hw]; exact ((Kept.refl [] w5).alloc _).drewN q
  have H6 : Hid (Kept [] w w6 ∧ Tab w6) := ⟨H5.out.2.1.trans hk6 (by simp), H5.out.2.2.kept hk6⟩
  clear hw hk6 H5
  go_wp2_with fail
  refine (num_of _ w6).mono ?_
  rintro e w7 ⟨rfl, hw⟩
  have hw2 := hw.symm
  subst hw2
  go_wp2_with fail
  refine (num_of _ w6).mono ?_
  rintro e w7 ⟨rfl, hw⟩
  have hw2 := hw.symm
  subst hw2
  go_wp2_with fail
  refine (num_of _ w6).mono ?_
  rintro e w7 ⟨rfl, hw⟩
  have hw2 := hw.symm
  subst hw2
  go_wp2_with fail
  refine (num_of _ w6).mono ?_
  rintro e w7 ⟨rfl, hw⟩
  have hw2 := hw.symm
  subst hw2
  go_wp2_with fail
  refine (p_code _ (Or.inr (Or.inl rfl)) w6).mono ?_
  rintro e w7 ⟨rfl, hw⟩
  have hw2 := hw.symm
  subst hw2
  rw [show codeR 1100 = 9 from rfl]
  go_wp2_with fail
  refine (p_below _ _ w6 H6.out.2).mono ?_
  rintro e w7 ⟨rfl, hk⟩
  rw [v_below]
  have H7 : Hid (Kept [] w w7) := H6.out.1.trans hk (by simp)
  clear hk
  go_wp2_with fail
  go_ret
  exact ⟨rfl, H7.out⟩

end Go.Proofs.YtffmfgjinpigeaaDoor
