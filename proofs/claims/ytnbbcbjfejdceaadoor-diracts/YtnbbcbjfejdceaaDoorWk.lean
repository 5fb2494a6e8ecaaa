/-
  The program is awake.
-/
import Derived.Test.YtnbbcbjfejdceaaDoorMk
namespace Go.Proofs.YtnbbcbjfejdceaaDoor
open Go.RowKit
set_option linter.unusedVariables false

theorem may_b : chk ⟨#[98]⟩ = 0 := by rw [chk_eq]; decide +kernel
theorem may_c : chk ⟨#[99]⟩ = 0 := by rw [chk_eq]; decide +kernel
theorem bkt_b : bkt ⟨#[98]⟩ = ((3 : Nat) : Int) := by unfold bkt; rw [rs_fuel _ 1 0 (by decide)]; decide +kernel
theorem bkt_c : bkt ⟨#[99]⟩ = ((4 : Nat) : Int) := by unfold bkt; rw [rs_fuel _ 1 0 (by decide)]; decide +kernel
theorem b_ne_c : (⟨#[98]⟩ : ByteArray) ≠ ⟨#[99]⟩ := by decide

theorem not_full {E : List En} (h : E.length < 4) (b : Int) (but : ByteArray) : ¬ 4 ≤ many E b but := by have := many_le E b but; omega

theorem drop_one (s : ByteArray) (x : Int) : dropE [(s, x)] s = [] := by simp [dropE]

theorem num9 (n : Int) (w : World) : Calls Tryd.prog 11 #[.int .i64 n] w fun e w' => e = .returned (.int .i64 n) ∧ w' = w := num n w

/-- A name is there, or it is not. -/
theorem here_or (E : List En) (s : ByteArray) : (∃ x, (s, x) ∈ E) ∨ ∀ x ∈ E, x.1 ≠ s := by
  by_cases h : ∃ x, (s, x) ∈ E
  · exact Or.inl h
  · exact Or.inr fun x hx e => h ⟨x.2, by rw [← e]; exact hx⟩

theorem find_any {I : Trc → Prop} {S : List (Nat × Obj)} {w0 w : World} {b g f k L N : Nat} {E : List En} (h : Dd I S w0 w b g f k L N E) (c : Nat) (s : ByteArray) (hc : c < k) (hN : N < 700000) (hI : ∀ n : Nat, n < 8 → bkt s = (n : Int) → Rd I c f n) :
    Calls Tryd.prog 14 #[.pointer (some ⟨g, 0, none⟩), .int .i64 (c : Int), .string s] w fun e w' => ∃ x z : Int, e = .returned (.tuple #[.int .i64 x, .int .i64 z]) ∧ ((x = 0 ∧ (z = 900 ∨ z = 903)) ∨ z = 0) ∧ Dd I S w0 w' b g f k L (N + 12) E := by
  by_cases hs : chk s = 0
  · obtain ⟨n, hn8, hn⟩ := bkt_nat s
    rcases here_or E s with ⟨x, hx⟩ | hno
    · exact (e_find_yes h c n s x hx hn hc (hI n hn8 hn) (by omega)).mono fun _ _ ⟨he, hd⟩ => ⟨x, 0, he, Or.inr rfl, hd⟩
    · exact (e_find_no h c n s hs hno hn hc (hI n hn8 hn) (by omega)).mono fun _ _ ⟨he, hd⟩ => ⟨0, 903, he, Or.inl ⟨rfl, Or.inr rfl⟩, hd⟩
  · exact (e_find_bad h (c : Int) s (by omega)).mono fun _ _ ⟨he, hd⟩ => ⟨0, 900, he, Or.inl ⟨rfl, Or.inl rfl⟩, hd.mono (by omega)⟩

theorem insert_any {I : Trc → Prop} {S : List (Nat × Obj)} {w0 w : World} {b g f k L N : Nat} {E : List En} (h : Dd I S w0 w b g f k L N E) (c : Nat) (s : ByteArray) (num : Int) (hc : c < k) (hn1 : 1 ≤ num) (hn2 : num ≤ 2147483647) (hN : N < 700000) (hI : ∀ n : Nat, n < 8 → bkt s = (n : Int) → Rd I c f n ∧ Wr I c f n) :
    Calls Tryd.prog 10 #[.pointer (some ⟨g, 0, none⟩), .int .i64 (c : Int), .string s, .int .i64 num] w fun e w' => ∃ (z : Int) (E' : List En), e = .returned (.int .i64 z) ∧ Dd I S w0 w' b g f k L (N + 15) E' := by
  by_cases hs : chk s = 0
  · obtain ⟨n, hn8, hn⟩ := bkt_nat s
    obtain ⟨i1, i2⟩ := hI n hn8 hn
    rcases here_or E s with hx | hno
    · exact (e_insert_exist h c n s num hx hn hc hn1 hn2 i1 i2 (by omega)).mono fun _ _ ⟨he, hd⟩ => ⟨_, _, he, hd⟩
    · by_cases hf : 4 ≤ many E (n : Int) noname
      · exact (e_insert_full h c n s num hs hno hf hn hc hn1 hn2 i1 i2 (by omega)).mono fun _ _ ⟨he, hd⟩ => ⟨_, _, he, hd⟩
      · exact (e_insert_ok h c n s num hs hno hf hn hc hn1 hn2 i1 i2 (by omega)).mono fun _ _ ⟨he, hd⟩ => ⟨_, _, he, hd⟩
  · exact (e_insert_bad h (c : Int) s num (by omega)).mono fun _ _ ⟨he, hd⟩ => ⟨_, _, he, hd.mono (by omega)⟩

theorem remove_any {I : Trc → Prop} {S : List (Nat × Obj)} {w0 w : World} {b g f k L N : Nat} {E : List En} (h : Dd I S w0 w b g f k L N E) (c : Nat) (s : ByteArray) (hc : c < k) (hN : N < 700000) (hI : ∀ n : Nat, n < 8 → bkt s = (n : Int) → Rd I c f n ∧ Wr I c f n) :
    Calls Tryd.prog 12 #[.pointer (some ⟨g, 0, none⟩), .int .i64 (c : Int), .string s] w fun e w' => ∃ (z : Int) (E' : List En), e = .returned (.int .i64 z) ∧ Dd I S w0 w' b g f k L (N + 15) E' := by
  by_cases hs : chk s = 0
  · obtain ⟨n, hn8, hn⟩ := bkt_nat s
    obtain ⟨i1, i2⟩ := hI n hn8 hn
    rcases here_or E s with ⟨x, hx⟩ | hno
    · exact (e_remove_yes h c n s x hx hn hc i1 i2 (by omega)).mono fun _ _ ⟨he, hd⟩ => ⟨_, _, he, hd⟩
    · exact (e_remove_no h c n s hs hno hn hc i1 i2 (by omega)).mono fun _ _ ⟨he, hd⟩ => ⟨_, _, he, hd⟩
  · exact (e_remove_bad h (c : Int) s (by omega)).mono fun _ _ ⟨he, hd⟩ => ⟨_, _, he, hd.mono (by omega)⟩

/-- One entry written out as a slice of its own. -/
theorem Er.lit (w : World) (e : En) : Er 61 (w.alloc (.cells #[.string e.1, .int .i64 e.2] 61)) 0 (.slice (some ⟨w.heap.size, 0, none⟩) 1 1) [e] :=
  ⟨rfl, Or.inr ⟨w.heap.size, 1, #[.string e.1, .int .i64 e.2], rfl, Nat.zero_le _, heap_alloc_new _ _, Nat.le_refl _, by unfold maxLen; omega, rfl, rfl⟩⟩

set_option maxRecDepth 100000 in
set_option maxHeartbeats 4000000 in
theorem awake_dir (w : World) (hT : Tab w) : Calls Tryd.prog 19 #[] w fun e w' => e = .returned (.bool true) ∧ Kept [] w w' := by
  have HT : Hid (_) := hT
  clear hT
  go_enter Tryd.func19, Tryd.ntmps19
  go_wp2_with fail
  refine (made_any w HT.out).mono ?_
  rintro e w1 ⟨b, g, rfl, h1⟩
  have H1 : Hid (_) := h1
  clear h1 HT
  go_wp2_with fail
  refine (e_insert_ok H1.out 0 3 ⟨#[98]⟩ 5 may_b (by simp) (not_full (by simp) _ _) bkt_b (by omega) (by omega) (by omega) (anyR _ _ _) (anyW _ _ _) (by omega)).mono ?_
  rintro e w2 ⟨rfl, h2⟩
  have H2 : Hid (Dd AnyT [(g, box b 0)] w w2 b g 0 4 1024 111 [(⟨#[98]⟩, 5)]) := h2
  clear h2 H1
  go_wp2_with fail
  refine (e_insert_exist H2.out 1 3 ⟨#[98]⟩ 6 ⟨5, by simp⟩ bkt_b (by omega) (by omega) (by omega) (anyR _ _ _) (anyW _ _ _) (by omega)).mono ?_
  rintro e w3 ⟨rfl, h3⟩
  have H3 : Hid (_) := h3
  clear h3 H2
  go_wp2_with fail
  refine (e_find_yes H3.out 2 3 ⟨#[98]⟩ 5 (by simp) bkt_b (by omega) (anyR _ _ _) (by omega)).mono ?_
  rintro e w4 ⟨rfl, h4⟩
  have H4 : Hid (_) := h4
  clear h4 H3
  go_wp2_with fail
  refine (e_find_no H4.out 2 4 ⟨#[99]⟩ may_c (by intro x hx; rw [List.mem_singleton] at hx; rw [hx]; exact b_ne_c) bkt_c (by omega) (anyR _ _ _) (by omega)).mono ?_
  rintro e w5 ⟨rfl, h5⟩
  have H5 : Hid (_) := h5
  clear h5 H4
  go_wp2_with fail
  refine (e_move_ok H5.out 0 ⟨#[98]⟩ ⟨#[99]⟩ 5 may_c (by simp) (by intro x hx; rw [List.mem_singleton] at hx; rw [hx]; exact b_ne_c) (not_full (by simp) _ _) (by omega) (fun n _ => anyR _ _ n) (fun n _ => anyW _ _ n) (by omega)).mono ?_
  rintro e w6 ⟨rfl, h6⟩
  rw [drop_one] at h6
  have H6 : Hid (Dd AnyT [(g, box b 0)] w w6 b g 0 4 1024 _ [(⟨#[99]⟩, 5)]) := h6
  clear h6 H5
  go_wp2_with fail
  refine (e_remove_no H6.out 0 3 ⟨#[98]⟩ may_b (by intro x hx; rw [List.mem_singleton] at hx; rw [hx]; exact b_ne_c.symm) bkt_b (by omega) (anyR _ _ _) (anyW _ _ _) (by omega)).mono ?_
  rintro e w7 ⟨rfl, h7⟩
  have H7 : Hid (_) := h7
  clear h7 H6
  go_wp2_with fail
  refine (e_insert_bad H7.out 4 ⟨#[122]⟩ 1 (by omega)).mono ?_
  rintro e w8 ⟨rfl, h8⟩
  have H8 : Hid (_) := h8
  clear h8 H7
  go_wp2_with (first
    | (go_at_call 11; refine (num _ _).mono ?_; rintro e w' ⟨rfl, rfl⟩))
  refine (e_list H8.out 3 (by omega) (fun n _ => anyR _ _ n) (by omega)).mono ?_
  rintro e w9 ⟨u, D, rfl, hu, h9, -⟩
  have HU : Hid (Er 61 (w9.alloc (.cells #[.string ⟨#[99]⟩, .int .i64 5] 61)) 0 u [(⟨#[99]⟩, 5)]) := (hu.own fun x hx => h9.at_ (by simp [hx])).kept ((Kept.refl [] w9).alloc _) (by simp)
  have H9 : Hid (_) := h9.old
  clear hu h9 H8
  go_wp2_with fail
  refine (same_entries HU.out (Er.lit w9 (⟨#[99]⟩, 5)) (by simp) true (by simp)).mono ?_
  rintro e w10 ⟨rfl, hk⟩
  have H10 : Hid (_) := (H9.out.trans ((Kept.refl [] w9).alloc (.cells #[.string ⟨#[99]⟩, .int .i64 5] 61)) (by simp)).trans hk (by simp)
  clear hk H9 HU
  go_wp2_with fail
  go_ret
  exact ⟨rfl, H10.out⟩

end Go.Proofs.YtnbbcbjfejdceaaDoor
