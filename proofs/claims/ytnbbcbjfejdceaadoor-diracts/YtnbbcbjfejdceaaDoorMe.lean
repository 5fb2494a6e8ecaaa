/-
  The law's own answer to an act.
-/
import Derived.Test.YtnbbcbjfejdceaaDoorMc
namespace Go.Proofs.YtnbbcbjfejdceaaDoor
open Go.RowKit
set_option linter.unusedVariables false

section
variable {I : Trc → Prop} {S : List (Nat × Obj)} {w0 w : World} {b g f k L N : Nat} {E0 : List En} {mb : Nat} {E : List En} {kd c num : Int} {s t : ByteArray}

theorem Md.box (h : Md I S w0 w b g f k L N E0 mb E) : (g, Go.Proofs.YtnbbcbjfejdceaaDoor.box b f) ∈ S := by
  obtain ⟨u, D, h1, h2, h3, h4, h5⟩ := h
  exact h5

theorem no_at {E : List En} {s : ByteArray} {i : Nat} {y : Int} (hx : ∀ x ∈ E, x.1 ≠ s) (hi : E[i]? = some (s, y)) : False := hx _ (List.mem_of_getElem? hi) rfl

theorem at_num {E : List En} (h : Rise E) {s : ByteArray} {i : Nat} {x y : Int} (hx : (s, x) ∈ E) (hi : E[i]? = some (s, y)) : y = x := by
  have := rise_name h (List.mem_of_getElem? hi) hx rfl
  exact (Prod.mk.inj this).2

theorem tup2 {a b c d : Int} (h1 : a = c) (h2 : b = d) : Ending.returned (.tuple #[.int .i64 a, .int .i64 b]) = .returned (.tuple #[.int .i64 c, .int .i64 d]) := by rw [h1, h2]

set_option maxRecDepth 100000 in
set_option maxHeartbeats 4000000 in
theorem m_act_bad (h : Md I S w0 w b g f k L N E0 mb E) (hR : Rise E) (hE : ∀ x ∈ E, chk x.1 = 0) (hl : E.length ≤ 1000) (hg : ¬ Gd c s) :
    Calls Tryd.prog 16 #[.pointer (some ⟨mb, 0, none⟩), .agg #[.int .i64 kd, .int .i64 c, .int .i64 num, .string s, .string t]] w fun e w' => e = .returned (.tuple #[.int .i64 0, .int .i64 900]) ∧ Md I S w0 w' b g f k L N E0 mb E := by
  have HM : Hid (Md I S w0 (w.alloc (xob kd c num s t)) b g f k L N E0 mb E) := h.still ((Kept.refl [] w).alloc _)
  clear hR hE h
  by_cases h1 : c < 0
  · clear hg
    go_enter Tryd.func16, Tryd.ntmps16
    go_wp2_with fail
    go_ret2
    exact ⟨rfl, HM.out⟩
  · by_cases h2 : 3 < c
    · clear hg
      have d1 : decide (c < 0) = false := by simp; omega
      go_enter Tryd.func16, Tryd.ntmps16
      go_wp2_with fail
      go_ret2
      exact ⟨rfl, HM.out⟩
    · have hs : chk s ≠ 0 := fun e => hg ⟨by omega, by omega, e⟩
      have t0 : (chk s == 0) = false := by simpa using hs
      have t1 : (chk s != 0) = true := by simpa using hs
      have d1 : decide (c < 0) = false := by simp; omega
      have d2 : decide (3 < c) = false := by simp; omega
      clear hg
      go_enter Tryd.func16, Tryd.ntmps16
      go_wp2_with fail
      refine (f_check_any s _).mono ?_
      rintro e w1 ⟨rfl, hw1⟩
      subst hw1
      go_wp2_with fail
      go_ret2
      exact ⟨rfl, HM.out⟩

set_option maxRecDepth 100000 in
set_option maxHeartbeats 4000000 in
theorem m_act_num1 (h : Md I S w0 w b g f k L N E0 mb E) (hR : Rise E) (hE : ∀ x ∈ E, chk x.1 = 0) (hl : E.length ≤ 1000) (hg : Gd c s) (hk : kd < 5) (hn : num < 1) :
    Calls Tryd.prog 16 #[.pointer (some ⟨mb, 0, none⟩), .agg #[.int .i64 kd, .int .i64 c, .int .i64 num, .string s, .string t]] w fun e w' => e = .returned (.tuple #[.int .i64 0, .int .i64 900]) ∧ Md I S w0 w' b g f k L N E0 mb E := by
  obtain ⟨hc1, hc2, hs⟩ := hg
  have d1 : decide (c < 0) = false := by simp; omega
  have d2 : decide (3 < c) = false := by simp; omega
  have HH : Hid (Rise E ∧ (∀ x ∈ E, chk x.1 = 0) ∧ chk s = 0 ∧ (g, Go.Proofs.YtnbbcbjfejdceaaDoor.box b f) ∈ S) := ⟨hR, hE, hs, h.box⟩
  have HM : Hid (Md I ((w.heap.size, xob kd c num s t) :: S) w0 (w.alloc (xob kd c num s t)) b g f k L N E0 mb E) := h.push _
  obtain ⟨W, hW⟩ : ∃ W, W = w.alloc (xob kd c num s t) := ⟨_, rfl⟩
  rw [← hW] at HM
  have HW : Hid (w.alloc (.cells #[.int .i64 kd, .int .i64 c, .int .i64 num, .string s, .string t] 32 (0, 0)) = W) := hW.symm
  clear hW hR hE h hs
  go_enter Tryd.func16, Tryd.ntmps16
  go_wp2_with fail
  refine (f_check_any s _).mono ?_
  rintro e w1 ⟨rfl, hw1⟩
  subst hw1
  rw [HW.out, HH.out.2.2.1]
  clear HW
  generalize w.heap.size = bx at *
  obtain ⟨y0, y1, y2, y3, y4⟩ := xob_cells (Md.at_ HM.out (List.mem_cons_self ..))
  go_wp2_with fail
  refine (m_at (Md.mo HM.out) (by omega) s).mono ?_
  rintro e w1 ⟨hw, hcase⟩
  subst hw
  obtain ⟨kk, rfl⟩ : ∃ kk : Int, e = .returned (.int .i64 kk) := by rcases hcase with ⟨h, -⟩ | ⟨_, _, h, -⟩ <;> exact ⟨_, h⟩
  clear hcase
  go_wp2_with fail
  go_ret2
  exact ⟨rfl, Md.less HM.out HH.out.2.2.2⟩

set_option maxRecDepth 100000 in
set_option maxHeartbeats 4000000 in
theorem m_act_num2 (h : Md I S w0 w b g f k L N E0 mb E) (hR : Rise E) (hE : ∀ x ∈ E, chk x.1 = 0) (hl : E.length ≤ 1000) (hg : Gd c s) (hk : kd < 5) (hn : 2147483647 < num) :
    Calls Tryd.prog 16 #[.pointer (some ⟨mb, 0, none⟩), .agg #[.int .i64 kd, .int .i64 c, .int .i64 num, .string s, .string t]] w fun e w' => e = .returned (.tuple #[.int .i64 0, .int .i64 900]) ∧ Md I S w0 w' b g f k L N E0 mb E := by
  obtain ⟨hc1, hc2, hs⟩ := hg
  have d1 : decide (c < 0) = false := by simp; omega
  have d2 : decide (3 < c) = false := by simp; omega
  have HH : Hid (Rise E ∧ (∀ x ∈ E, chk x.1 = 0) ∧ chk s = 0 ∧ (g, Go.Proofs.YtnbbcbjfejdceaaDoor.box b f) ∈ S) := ⟨hR, hE, hs, h.box⟩
  have HM : Hid (Md I ((w.heap.size, xob kd c num s t) :: S) w0 (w.alloc (xob kd c num s t)) b g f k L N E0 mb E) := h.push _
  obtain ⟨W, hW⟩ : ∃ W, W = w.alloc (xob kd c num s t) := ⟨_, rfl⟩
  rw [← hW] at HM
  have HW : Hid (w.alloc (.cells #[.int .i64 kd, .int .i64 c, .int .i64 num, .string s, .string t] 32 (0, 0)) = W) := hW.symm
  clear hW hR hE h hs
  go_enter Tryd.func16, Tryd.ntmps16
  go_wp2_with fail
  refine (f_check_any s _).mono ?_
  rintro e w1 ⟨rfl, hw1⟩
  subst hw1
  rw [HW.out, HH.out.2.2.1]
  clear HW
  generalize w.heap.size = bx at *
  obtain ⟨y0, y1, y2, y3, y4⟩ := xob_cells (Md.at_ HM.out (List.mem_cons_self ..))
  go_wp2_with fail
  refine (m_at (Md.mo HM.out) (by omega) s).mono ?_
  rintro e w1 ⟨hw, hcase⟩
  subst hw
  obtain ⟨kk, rfl⟩ : ∃ kk : Int, e = .returned (.int .i64 kk) := by rcases hcase with ⟨h, -⟩ | ⟨_, _, h, -⟩ <;> exact ⟨_, h⟩
  clear hcase
  have d3 : decide (num < 1) = false := by simp; omega
  go_wp2_with fail
  go_ret2
  exact ⟨rfl, Md.less HM.out HH.out.2.2.2⟩

set_option maxRecDepth 100000 in
set_option maxHeartbeats 4000000 in
theorem m_act_exist (h : Md I S w0 w b g f k L N E0 mb E) (hR : Rise E) (hE : ∀ x ∈ E, chk x.1 = 0) (hl : E.length ≤ 1000) (hg : Gd c s) (hk : kd < 5) (hn : 1 ≤ num ∧ num ≤ 2147483647) (x : Int) (hx : (s, x) ∈ E) :
    Calls Tryd.prog 16 #[.pointer (some ⟨mb, 0, none⟩), .agg #[.int .i64 kd, .int .i64 c, .int .i64 num, .string s, .string t]] w fun e w' => e = .returned (.tuple #[.int .i64 0, .int .i64 901]) ∧ Md I S w0 w' b g f k L N E0 mb E := by
  have HX : Hid (_) := hx
  have d3 : decide (num < 1) = false := by simp; omega
  have d4 : decide (2147483647 < num) = false := by simp; omega
  clear hx
  obtain ⟨hc1, hc2, hs⟩ := hg
  have d1 : decide (c < 0) = false := by simp; omega
  have d2 : decide (3 < c) = false := by simp; omega
  have HH : Hid (Rise E ∧ (∀ x ∈ E, chk x.1 = 0) ∧ chk s = 0 ∧ (g, Go.Proofs.YtnbbcbjfejdceaaDoor.box b f) ∈ S) := ⟨hR, hE, hs, h.box⟩
  have HM : Hid (Md I ((w.heap.size, xob kd c num s t) :: S) w0 (w.alloc (xob kd c num s t)) b g f k L N E0 mb E) := h.push _
  obtain ⟨W, hW⟩ : ∃ W, W = w.alloc (xob kd c num s t) := ⟨_, rfl⟩
  rw [← hW] at HM
  have HW : Hid (w.alloc (.cells #[.int .i64 kd, .int .i64 c, .int .i64 num, .string s, .string t] 32 (0, 0)) = W) := hW.symm
  clear hW hR hE h hs
  go_enter Tryd.func16, Tryd.ntmps16
  go_wp2_with fail
  refine (f_check_any s _).mono ?_
  rintro e w1 ⟨rfl, hw1⟩
  subst hw1
  rw [HW.out, HH.out.2.2.1]
  clear HW
  generalize w.heap.size = bx at *
  obtain ⟨y0, y1, y2, y3, y4⟩ := xob_cells (Md.at_ HM.out (List.mem_cons_self ..))
  go_wp2_with fail
  refine (m_at (Md.mo HM.out) (by omega) s).mono ?_
  rintro e w1 ⟨hw, hcase⟩
  subst hw
  rcases hcase with ⟨-, hno⟩ | ⟨i, y, rfl, hi⟩
  case inl => exact (hno _ HX.out rfl).elim
  have j0 : (0 : Int) ≤ (i : Int) := by omega
  have j1 : ¬ (i : Int) < 0 := by omega
  have j2 : decide ((0 : Int) ≤ (i : Int)) = true := by simp
  have j3 : decide ((i : Int) < 0) = false := by simp
  have HI : Hid (E[i]? = some (s, y) ∧ y = x) := ⟨hi, at_num HH.out.1 HX.out hi⟩
  clear hi
  go_wp2_with fail
  go_ret2
  exact ⟨rfl, Md.less HM.out HH.out.2.2.2⟩

set_option maxRecDepth 100000 in
set_option maxHeartbeats 4000000 in
theorem m_act_full (h : Md I S w0 w b g f k L N E0 mb E) (hR : Rise E) (hE : ∀ x ∈ E, chk x.1 = 0) (hl : E.length ≤ 1000) (hg : Gd c s) (hk : kd < 5) (hn : 1 ≤ num ∧ num ≤ 2147483647) (hx : ∀ x ∈ E, x.1 ≠ s) (hf : 4 ≤ many E (bkt s) noname) :
    Calls Tryd.prog 16 #[.pointer (some ⟨mb, 0, none⟩), .agg #[.int .i64 kd, .int .i64 c, .int .i64 num, .string s, .string t]] w fun e w' => e = .returned (.tuple #[.int .i64 0, .int .i64 902]) ∧ Md I S w0 w' b g f k L N E0 mb E := by
  have HX : Hid (_) := hx
  have d3 : decide (num < 1) = false := by simp; omega
  have d4 : decide (2147483647 < num) = false := by simp; omega
  clear hx
  have HF : Hid (decide (4 ≤ many E (bkt s) noname) = true) := by show _ = _; simpa using hf
  clear hf
  obtain ⟨hc1, hc2, hs⟩ := hg
  have d1 : decide (c < 0) = false := by simp; omega
  have d2 : decide (3 < c) = false := by simp; omega
  have HH : Hid (Rise E ∧ (∀ x ∈ E, chk x.1 = 0) ∧ chk s = 0 ∧ (g, Go.Proofs.YtnbbcbjfejdceaaDoor.box b f) ∈ S) := ⟨hR, hE, hs, h.box⟩
  have HM : Hid (Md I ((w.heap.size, xob kd c num s t) :: S) w0 (w.alloc (xob kd c num s t)) b g f k L N E0 mb E) := h.push _
  obtain ⟨W, hW⟩ : ∃ W, W = w.alloc (xob kd c num s t) := ⟨_, rfl⟩
  rw [← hW] at HM
  have HW : Hid (w.alloc (.cells #[.int .i64 kd, .int .i64 c, .int .i64 num, .string s, .string t] 32 (0, 0)) = W) := hW.symm
  clear hW hR hE h hs
  go_enter Tryd.func16, Tryd.ntmps16
  go_wp2_with fail
  refine (f_check_any s _).mono ?_
  rintro e w1 ⟨rfl, hw1⟩
  subst hw1
  rw [HW.out, HH.out.2.2.1]
  clear HW
  generalize w.heap.size = bx at *
  obtain ⟨y0, y1, y2, y3, y4⟩ := xob_cells (Md.at_ HM.out (List.mem_cons_self ..))
  go_wp2_with fail
  refine (m_at (Md.mo HM.out) (by omega) s).mono ?_
  rintro e w1 ⟨hw, hcase⟩
  subst hw
  rcases hcase with ⟨rfl, -⟩ | ⟨i, y, -, hi⟩
  case inr => exact (no_at HX.out hi).elim
  go_wp2_with fail
  refine (m_full (Md.mo HM.out) (by omega) HH.out.2.1 s noname HH.out.2.2.1).mono ?_
  rintro e w1 ⟨hw, rfl⟩
  subst hw
  rw [HF.out]
  go_wp2_with fail
  go_ret2
  exact ⟨rfl, Md.less HM.out HH.out.2.2.2⟩

set_option maxRecDepth 100000 in
set_option maxHeartbeats 4000000 in
theorem m_act_put (h : Md I S w0 w b g f k L N E0 mb E) (hR : Rise E) (hE : ∀ x ∈ E, chk x.1 = 0) (hl : E.length ≤ 1000) (hg : Gd c s) (hk : kd < 5) (hn : 1 ≤ num ∧ num ≤ 2147483647) (hx : ∀ x ∈ E, x.1 ≠ s) (hf : ¬ 4 ≤ many E (bkt s) noname) :
    Calls Tryd.prog 16 #[.pointer (some ⟨mb, 0, none⟩), .agg #[.int .i64 kd, .int .i64 c, .int .i64 num, .string s, .string t]] w fun e w' => e = .returned (.tuple #[.int .i64 0, .int .i64 0]) ∧ Md I S w0 w' b g f k L N E0 mb (putE E (s, num)) := by
  have HX : Hid (_) := hx
  have d3 : decide (num < 1) = false := by simp; omega
  have d4 : decide (2147483647 < num) = false := by simp; omega
  clear hx
  have HF : Hid (decide (4 ≤ many E (bkt s) noname) = false) := by show _ = _; simpa using hf
  clear hf
  obtain ⟨hc1, hc2, hs⟩ := hg
  have d1 : decide (c < 0) = false := by simp; omega
  have d2 : decide (3 < c) = false := by simp; omega
  have HH : Hid (Rise E ∧ (∀ x ∈ E, chk x.1 = 0) ∧ chk s = 0 ∧ (g, Go.Proofs.YtnbbcbjfejdceaaDoor.box b f) ∈ S) := ⟨hR, hE, hs, h.box⟩
  have HM : Hid (Md I ((w.heap.size, xob kd c num s t) :: S) w0 (w.alloc (xob kd c num s t)) b g f k L N E0 mb E) := h.push _
  obtain ⟨W, hW⟩ : ∃ W, W = w.alloc (xob kd c num s t) := ⟨_, rfl⟩
  rw [← hW] at HM
  have HW : Hid (w.alloc (.cells #[.int .i64 kd, .int .i64 c, .int .i64 num, .string s, .string t] 32 (0, 0)) = W) := hW.symm
  clear hW hR hE h hs
  go_enter Tryd.func16, Tryd.ntmps16
  go_wp2_with fail
  refine (f_check_any s _).mono ?_
  rintro e w1 ⟨rfl, hw1⟩
  subst hw1
  rw [HW.out, HH.out.2.2.1]
  clear HW
  generalize w.heap.size = bx at *
  obtain ⟨y0, y1, y2, y3, y4⟩ := xob_cells (Md.at_ HM.out (List.mem_cons_self ..))
  go_wp2_with fail
  refine (m_at (Md.mo HM.out) (by omega) s).mono ?_
  rintro e w1 ⟨hw, hcase⟩
  subst hw
  rcases hcase with ⟨rfl, -⟩ | ⟨i, y, -, hi⟩
  case inr => exact (no_at HX.out hi).elim
  go_wp2_with fail
  refine (m_full (Md.mo HM.out) (by omega) HH.out.2.1 s noname HH.out.2.2.1).mono ?_
  rintro e w1 ⟨hw, rfl⟩
  subst hw
  rw [HF.out]
  go_wp2_with fail
  refine (m_put HM.out hl (fun x hx => (chk_parts (HH.out.2.1 x hx)).1) s num (chk_parts HH.out.2.2.1).1).mono ?_
  rintro e w2 ⟨rfl, h2⟩
  have H2 : Hid (_) := h2
  clear h2
  go_wp2_with fail
  go_ret2
  exact ⟨rfl, Md.less H2.out HH.out.2.2.2⟩

set_option maxRecDepth 100000 in
set_option maxHeartbeats 4000000 in
theorem m_act_mbad7 (h : Md I S w0 w b g f k L N E0 mb E) (hR : Rise E) (hE : ∀ x ∈ E, chk x.1 = 0) (hl : E.length ≤ 1000) (hg : Gd c s) (ht : chk t ≠ 0) :
    Calls Tryd.prog 16 #[.pointer (some ⟨mb, 0, none⟩), .agg #[.int .i64 7, .int .i64 c, .int .i64 num, .string s, .string t]] w fun e w' => e = .returned (.tuple #[.int .i64 0, .int .i64 900]) ∧ Md I S w0 w' b g f k L N E0 mb E := by
  obtain ⟨hc1, hc2, hs⟩ := hg
  have d1 : decide (c < 0) = false := by simp; omega
  have d2 : decide (3 < c) = false := by simp; omega
  have HH : Hid (Rise E ∧ (∀ x ∈ E, chk x.1 = 0) ∧ chk s = 0 ∧ (g, Go.Proofs.YtnbbcbjfejdceaaDoor.box b f) ∈ S) := ⟨hR, hE, hs, h.box⟩
  have HM : Hid (Md I ((w.heap.size, xob 7 c num s t) :: S) w0 (w.alloc (xob 7 c num s t)) b g f k L N E0 mb E) := h.push _
  obtain ⟨W, hW⟩ : ∃ W, W = w.alloc (xob 7 c num s t) := ⟨_, rfl⟩
  rw [← hW] at HM
  have HW : Hid (w.alloc (.cells #[.int .i64 7, .int .i64 c, .int .i64 num, .string s, .string t] 32 (0, 0)) = W) := hW.symm
  clear hW hR hE h hs
  go_enter Tryd.func16, Tryd.ntmps16
  go_wp2_with fail
  refine (f_check_any s _).mono ?_
  rintro e w1 ⟨rfl, hw1⟩
  subst hw1
  rw [HW.out, HH.out.2.2.1]
  clear HW
  generalize w.heap.size = bx at *
  obtain ⟨y0, y1, y2, y3, y4⟩ := xob_cells (Md.at_ HM.out (List.mem_cons_self ..))
  go_wp2_with fail
  refine (m_at (Md.mo HM.out) (by omega) s).mono ?_
  rintro e w1 ⟨hw, hcase⟩
  subst hw
  obtain ⟨kk, rfl⟩ : ∃ kk : Int, e = .returned (.int .i64 kk) := by rcases hcase with ⟨h, -⟩ | ⟨_, _, h, -⟩ <;> exact ⟨_, h⟩
  clear hcase
  go_wp2_with fail
  refine (f_check_any t _).mono ?_
  rintro e w1 ⟨rfl, hw1⟩
  subst hw1
  have t0 : (chk t == 0) = false := by simpa using ht
  have t1 : (chk t != 0) = true := by simpa using ht
  go_wp2_with fail
  go_ret2
  exact ⟨rfl, Md.less HM.out HH.out.2.2.2⟩

set_option maxRecDepth 100000 in
set_option maxHeartbeats 4000000 in
theorem m_act_mnone7 (h : Md I S w0 w b g f k L N E0 mb E) (hR : Rise E) (hE : ∀ x ∈ E, chk x.1 = 0) (hl : E.length ≤ 1000) (hg : Gd c s) (ht : chk t = 0) (hx : ∀ x ∈ E, x.1 ≠ s) :
    Calls Tryd.prog 16 #[.pointer (some ⟨mb, 0, none⟩), .agg #[.int .i64 7, .int .i64 c, .int .i64 num, .string s, .string t]] w fun e w' => e = .returned (.tuple #[.int .i64 0, .int .i64 903]) ∧ Md I S w0 w' b g f k L N E0 mb E := by
  have HX : Hid (_) := hx
  clear hx
  have HT : Hid (chk t = 0) := ht
  clear ht
  obtain ⟨hc1, hc2, hs⟩ := hg
  have d1 : decide (c < 0) = false := by simp; omega
  have d2 : decide (3 < c) = false := by simp; omega
  have HH : Hid (Rise E ∧ (∀ x ∈ E, chk x.1 = 0) ∧ chk s = 0 ∧ (g, Go.Proofs.YtnbbcbjfejdceaaDoor.box b f) ∈ S) := ⟨hR, hE, hs, h.box⟩
  have HM : Hid (Md I ((w.heap.size, xob 7 c num s t) :: S) w0 (w.alloc (xob 7 c num s t)) b g f k L N E0 mb E) := h.push _
  obtain ⟨W, hW⟩ : ∃ W, W = w.alloc (xob 7 c num s t) := ⟨_, rfl⟩
  rw [← hW] at HM
  have HW : Hid (w.alloc (.cells #[.int .i64 7, .int .i64 c, .int .i64 num, .string s, .string t] 32 (0, 0)) = W) := hW.symm
  clear hW hR hE h hs
  go_enter Tryd.func16, Tryd.ntmps16
  go_wp2_with fail
  refine (f_check_any s _).mono ?_
  rintro e w1 ⟨rfl, hw1⟩
  subst hw1
  rw [HW.out, HH.out.2.2.1]
  clear HW
  generalize w.heap.size = bx at *
  obtain ⟨y0, y1, y2, y3, y4⟩ := xob_cells (Md.at_ HM.out (List.mem_cons_self ..))
  go_wp2_with fail
  refine (m_at (Md.mo HM.out) (by omega) s).mono ?_
  rintro e w1 ⟨hw, hcase⟩
  subst hw
  rcases hcase with ⟨rfl, -⟩ | ⟨i, y, -, hi⟩
  case inr => exact (no_at HX.out hi).elim
  go_wp2_with fail
  refine (f_check_any t _).mono ?_
  rintro e w1 ⟨rfl, hw1⟩
  subst hw1
  rw [HT.out]
  go_wp2_with fail
  go_ret2
  exact ⟨rfl, Md.less HM.out HH.out.2.2.2⟩

set_option maxRecDepth 100000 in
set_option maxHeartbeats 4000000 in
theorem m_act_mexist7 (h : Md I S w0 w b g f k L N E0 mb E) (hR : Rise E) (hE : ∀ x ∈ E, chk x.1 = 0) (hl : E.length ≤ 1000) (hg : Gd c s) (ht : chk t = 0) (x y2 : Int) (hx : (s, x) ∈ E) (hy : (t, y2) ∈ E) :
    Calls Tryd.prog 16 #[.pointer (some ⟨mb, 0, none⟩), .agg #[.int .i64 7, .int .i64 c, .int .i64 num, .string s, .string t]] w fun e w' => e = .returned (.tuple #[.int .i64 0, .int .i64 901]) ∧ Md I S w0 w' b g f k L N E0 mb E := by
  have HX : Hid (_) := hx
  clear hx
  have HT : Hid (chk t = 0) := ht
  clear ht
  have HY : Hid (_) := hy
  clear hy
  obtain ⟨hc1, hc2, hs⟩ := hg
  have d1 : decide (c < 0) = false := by simp; omega
  have d2 : decide (3 < c) = false := by simp; omega
  have HH : Hid (Rise E ∧ (∀ x ∈ E, chk x.1 = 0) ∧ chk s = 0 ∧ (g, Go.Proofs.YtnbbcbjfejdceaaDoor.box b f) ∈ S) := ⟨hR, hE, hs, h.box⟩
  have HM : Hid (Md I ((w.heap.size, xob 7 c num s t) :: S) w0 (w.alloc (xob 7 c num s t)) b g f k L N E0 mb E) := h.push _
  obtain ⟨W, hW⟩ : ∃ W, W = w.alloc (xob 7 c num s t) := ⟨_, rfl⟩
  rw [← hW] at HM
  have HW : Hid (w.alloc (.cells #[.int .i64 7, .int .i64 c, .int .i64 num, .string s, .string t] 32 (0, 0)) = W) := hW.symm
  clear hW hR hE h hs
  go_enter Tryd.func16, Tryd.ntmps16
  go_wp2_with fail
  refine (f_check_any s _).mono ?_
  rintro e w1 ⟨rfl, hw1⟩
  subst hw1
  rw [HW.out, HH.out.2.2.1]
  clear HW
  generalize w.heap.size = bx at *
  obtain ⟨y0, y1, y2, y3, y4⟩ := xob_cells (Md.at_ HM.out (List.mem_cons_self ..))
  go_wp2_with fail
  refine (m_at (Md.mo HM.out) (by omega) s).mono ?_
  rintro e w1 ⟨hw, hcase⟩
  subst hw
  rcases hcase with ⟨-, hno⟩ | ⟨i, y, rfl, hi⟩
  case inl => exact (hno _ HX.out rfl).elim
  have j0 : (0 : Int) ≤ (i : Int) := by omega
  have j1 : ¬ (i : Int) < 0 := by omega
  have j2 : decide ((0 : Int) ≤ (i : Int)) = true := by simp
  have j3 : decide ((i : Int) < 0) = false := by simp
  have HI : Hid (E[i]? = some (s, y) ∧ y = x) := ⟨hi, at_num HH.out.1 HX.out hi⟩
  clear hi
  go_wp2_with fail
  refine (f_check_any t _).mono ?_
  rintro e w1 ⟨rfl, hw1⟩
  subst hw1
  rw [HT.out]
  go_wp2_with fail
  refine (m_at (Md.mo HM.out) (by omega) t).mono ?_
  rintro e w1 ⟨hw, hcase⟩
  subst hw
  rcases hcase with ⟨-, hno⟩ | ⟨i2, y3', rfl, -⟩
  case inl => exact (hno _ HY.out rfl).elim
  have j4 : (0 : Int) ≤ (i2 : Int) := by omega
  go_wp2_with fail
  go_ret2
  exact ⟨rfl, Md.less HM.out HH.out.2.2.2⟩

set_option maxRecDepth 100000 in
set_option maxHeartbeats 4000000 in
theorem m_act_mfull7 (h : Md I S w0 w b g f k L N E0 mb E) (hR : Rise E) (hE : ∀ x ∈ E, chk x.1 = 0) (hl : E.length ≤ 1000) (hg : Gd c s) (ht : chk t = 0) (x : Int) (hx : (s, x) ∈ E) (hy : ∀ x ∈ E, x.1 ≠ t) (hf : 4 ≤ many E (bkt t) s) :
    Calls Tryd.prog 16 #[.pointer (some ⟨mb, 0, none⟩), .agg #[.int .i64 7, .int .i64 c, .int .i64 num, .string s, .string t]] w fun e w' => e = .returned (.tuple #[.int .i64 0, .int .i64 902]) ∧ Md I S w0 w' b g f k L N E0 mb E := by
  have HX : Hid (_) := hx
  clear hx
  have HT : Hid (chk t = 0) := ht
  clear ht
  have HY : Hid (_) := hy
  clear hy
  have HF : Hid (decide (4 ≤ many E (bkt t) s) = true) := by show _ = _; simpa using hf
  clear hf
  obtain ⟨hc1, hc2, hs⟩ := hg
  have d1 : decide (c < 0) = false := by simp; omega
  have d2 : decide (3 < c) = false := by simp; omega
  have HH : Hid (Rise E ∧ (∀ x ∈ E, chk x.1 = 0) ∧ chk s = 0 ∧ (g, Go.Proofs.YtnbbcbjfejdceaaDoor.box b f) ∈ S) := ⟨hR, hE, hs, h.box⟩
  have HM : Hid (Md I ((w.heap.size, xob 7 c num s t) :: S) w0 (w.alloc (xob 7 c num s t)) b g f k L N E0 mb E) := h.push _
  obtain ⟨W, hW⟩ : ∃ W, W = w.alloc (xob 7 c num s t) := ⟨_, rfl⟩
  rw [← hW] at HM
  have HW : Hid (w.alloc (.cells #[.int .i64 7, .int .i64 c, .int .i64 num, .string s, .string t] 32 (0, 0)) = W) := hW.symm
  clear hW hR hE h hs
  go_enter Tryd.func16, Tryd.ntmps16
  go_wp2_with fail
  refine (f_check_any s _).mono ?_
  rintro e w1 ⟨rfl, hw1⟩
  subst hw1
  rw [HW.out, HH.out.2.2.1]
  clear HW
  generalize w.heap.size = bx at *
  obtain ⟨y0, y1, y2, y3, y4⟩ := xob_cells (Md.at_ HM.out (List.mem_cons_self ..))
  go_wp2_with fail
  refine (m_at (Md.mo HM.out) (by omega) s).mono ?_
  rintro e w1 ⟨hw, hcase⟩
  subst hw
  rcases hcase with ⟨-, hno⟩ | ⟨i, y, rfl, hi⟩
  case inl => exact (hno _ HX.out rfl).elim
  have j0 : (0 : Int) ≤ (i : Int) := by omega
  have j1 : ¬ (i : Int) < 0 := by omega
  have j2 : decide ((0 : Int) ≤ (i : Int)) = true := by simp
  have j3 : decide ((i : Int) < 0) = false := by simp
  have HI : Hid (E[i]? = some (s, y) ∧ y = x) := ⟨hi, at_num HH.out.1 HX.out hi⟩
  clear hi
  go_wp2_with fail
  refine (f_check_any t _).mono ?_
  rintro e w1 ⟨rfl, hw1⟩
  subst hw1
  rw [HT.out]
  go_wp2_with fail
  refine (m_at (Md.mo HM.out) (by omega) t).mono ?_
  rintro e w1 ⟨hw, hcase⟩
  subst hw
  rcases hcase with ⟨rfl, -⟩ | ⟨i2, y3', -, hi⟩
  case inr => exact (no_at HY.out hi).elim
  go_wp2_with fail
  refine (m_full (Md.mo HM.out) (by omega) HH.out.2.1 t s HT.out).mono ?_
  rintro e w1 ⟨hw, rfl⟩
  subst hw
  rw [HF.out]
  go_wp2_with fail
  go_ret2
  exact ⟨rfl, Md.less HM.out HH.out.2.2.2⟩

set_option maxRecDepth 100000 in
set_option maxHeartbeats 4000000 in
theorem m_act_move7 (h : Md I S w0 w b g f k L N E0 mb E) (hR : Rise E) (hE : ∀ x ∈ E, chk x.1 = 0) (hl : E.length ≤ 1000) (hg : Gd c s) (ht : chk t = 0) (x : Int) (hx : (s, x) ∈ E) (hy : ∀ x ∈ E, x.1 ≠ t) (hf : ¬ 4 ≤ many E (bkt t) s) :
    Calls Tryd.prog 16 #[.pointer (some ⟨mb, 0, none⟩), .agg #[.int .i64 7, .int .i64 c, .int .i64 num, .string s, .string t]] w fun e w' => e = .returned (.tuple #[.int .i64 0, .int .i64 0]) ∧ Md I S w0 w' b g f k L N E0 mb (putE (dropE E s) (t, x)) := by
  have HX : Hid (_) := hx
  clear hx
  have HT : Hid (chk t = 0) := ht
  clear ht
  have HY : Hid (_) := hy
  clear hy
  have HF : Hid (decide (4 ≤ many E (bkt t) s) = false) := by show _ = _; simpa using hf
  clear hf
  obtain ⟨hc1, hc2, hs⟩ := hg
  have d1 : decide (c < 0) = false := by simp; omega
  have d2 : decide (3 < c) = false := by simp; omega
  have HH : Hid (Rise E ∧ (∀ x ∈ E, chk x.1 = 0) ∧ chk s = 0 ∧ (g, Go.Proofs.YtnbbcbjfejdceaaDoor.box b f) ∈ S) := ⟨hR, hE, hs, h.box⟩
  have HM : Hid (Md I ((w.heap.size, xob 7 c num s t) :: S) w0 (w.alloc (xob 7 c num s t)) b g f k L N E0 mb E) := h.push _
  obtain ⟨W, hW⟩ : ∃ W, W = w.alloc (xob 7 c num s t) := ⟨_, rfl⟩
  rw [← hW] at HM
  have HW : Hid (w.alloc (.cells #[.int .i64 7, .int .i64 c, .int .i64 num, .string s, .string t] 32 (0, 0)) = W) := hW.symm
  clear hW hR hE h hs
  go_enter Tryd.func16, Tryd.ntmps16
  go_wp2_with fail
  refine (f_check_any s _).mono ?_
  rintro e w1 ⟨rfl, hw1⟩
  subst hw1
  rw [HW.out, HH.out.2.2.1]
  clear HW
  generalize w.heap.size = bx at *
  obtain ⟨y0, y1, y2, y3, y4⟩ := xob_cells (Md.at_ HM.out (List.mem_cons_self ..))
  go_wp2_with fail
  refine (m_at (Md.mo HM.out) (by omega) s).mono ?_
  rintro e w1 ⟨hw, hcase⟩
  subst hw
  rcases hcase with ⟨-, hno⟩ | ⟨i, y, rfl, hi⟩
  case inl => exact (hno _ HX.out rfl).elim
  have j0 : (0 : Int) ≤ (i : Int) := by omega
  have j1 : ¬ (i : Int) < 0 := by omega
  have j2 : decide ((0 : Int) ≤ (i : Int)) = true := by simp
  have j3 : decide ((i : Int) < 0) = false := by simp
  have HI : Hid (E[i]? = some (s, y) ∧ y = x) := ⟨hi, at_num HH.out.1 HX.out hi⟩
  clear hi
  go_wp2_with fail
  refine (f_check_any t _).mono ?_
  rintro e w1 ⟨rfl, hw1⟩
  subst hw1
  rw [HT.out]
  go_wp2_with fail
  refine (m_at (Md.mo HM.out) (by omega) t).mono ?_
  rintro e w1 ⟨hw, hcase⟩
  subst hw
  rcases hcase with ⟨rfl, -⟩ | ⟨i2, y3', -, hi⟩
  case inr => exact (no_at HY.out hi).elim
  go_wp2_with fail
  refine (m_full (Md.mo HM.out) (by omega) HH.out.2.1 t s HT.out).mono ?_
  rintro e w1 ⟨hw, rfl⟩
  subst hw
  rw [HF.out]
  obtain ⟨ma, mc, m0, hrow⟩ := (Md.mo HM.out).read
  have hil : i < E.length := (List.getElem?_eq_some_iff.1 HI.out.1).1
  obtain ⟨mg, rfl, r0, r1⟩ := hrow i hil
  have he : E[i] = (s, y) := (List.getElem?_eq_some_iff.1 HI.out.1).2
  rw [he] at r0 r1
  have i5 : (i : Int) < (E.length : Int) := by omega
  clear hrow he
  go_wp2_with fail
  refine (m_drop HM.out hl i).mono ?_
  rintro e w2 ⟨rfl, h2⟩
  rw [erase_drop HH.out.1 HI.out.1] at h2
  have H2 : Hid (Md I ((bx, xob 7 c num s t) :: S) w0 w2 b g f k L N E0 mb (dropE E s)) := h2
  clear h2 y0 y1 y2 y3 y4 m0 r0 r1 i5
  obtain ⟨y0, y1, y2, y3, y4⟩ := xob_cells (Md.at_ H2.out (List.mem_cons_self ..))
  go_wp2_with fail
  rw [HI.out.2]
  refine (m_put H2.out (by have := List.length_filter_le (fun e : En => decide (e.1 ≠ s)) E; unfold dropE; omega) (fun x hx => (chk_parts (HH.out.2.1 x (mem_dropE.1 hx).1)).1) t x (chk_parts HT.out).1).mono ?_
  rintro e w3 ⟨rfl, h3⟩
  have H3 : Hid (_) := h3
  clear h3
  go_wp2_with fail
  go_ret2
  exact ⟨rfl, Md.less H3.out HH.out.2.2.2⟩

set_option maxRecDepth 100000 in
set_option maxHeartbeats 4000000 in
theorem m_act_mbad8 (h : Md I S w0 w b g f k L N E0 mb E) (hR : Rise E) (hE : ∀ x ∈ E, chk x.1 = 0) (hl : E.length ≤ 1000) (hg : Gd c s) (ht : chk t ≠ 0) :
    Calls Tryd.prog 16 #[.pointer (some ⟨mb, 0, none⟩), .agg #[.int .i64 8, .int .i64 c, .int .i64 num, .string s, .string t]] w fun e w' => e = .returned (.tuple #[.int .i64 0, .int .i64 900]) ∧ Md I S w0 w' b g f k L N E0 mb E := by
  obtain ⟨hc1, hc2, hs⟩ := hg
  have d1 : decide (c < 0) = false := by simp; omega
  have d2 : decide (3 < c) = false := by simp; omega
  have HH : Hid (Rise E ∧ (∀ x ∈ E, chk x.1 = 0) ∧ chk s = 0 ∧ (g, Go.Proofs.YtnbbcbjfejdceaaDoor.box b f) ∈ S) := ⟨hR, hE, hs, h.box⟩
  have HM : Hid (Md I ((w.heap.size, xob 8 c num s t) :: S) w0 (w.alloc (xob 8 c num s t)) b g f k L N E0 mb E) := h.push _
  obtain ⟨W, hW⟩ : ∃ W, W = w.alloc (xob 8 c num s t) := ⟨_, rfl⟩
  rw [← hW] at HM
  have HW : Hid (w.alloc (.cells #[.int .i64 8, .int .i64 c, .int .i64 num, .string s, .string t] 32 (0, 0)) = W) := hW.symm
  clear hW hR hE h hs
  go_enter Tryd.func16, Tryd.ntmps16
  go_wp2_with fail
  refine (f_check_any s _).mono ?_
  rintro e w1 ⟨rfl, hw1⟩
  subst hw1
  rw [HW.out, HH.out.2.2.1]
  clear HW
  generalize w.heap.size = bx at *
  obtain ⟨y0, y1, y2, y3, y4⟩ := xob_cells (Md.at_ HM.out (List.mem_cons_self ..))
  go_wp2_with fail
  refine (m_at (Md.mo HM.out) (by omega) s).mono ?_
  rintro e w1 ⟨hw, hcase⟩
  subst hw
  obtain ⟨kk, rfl⟩ : ∃ kk : Int, e = .returned (.int .i64 kk) := by rcases hcase with ⟨h, -⟩ | ⟨_, _, h, -⟩ <;> exact ⟨_, h⟩
  clear hcase
  go_wp2_with fail
  refine (f_check_any t _).mono ?_
  rintro e w1 ⟨rfl, hw1⟩
  subst hw1
  have t0 : (chk t == 0) = false := by simpa using ht
  have t1 : (chk t != 0) = true := by simpa using ht
  go_wp2_with fail
  go_ret2
  exact ⟨rfl, Md.less HM.out HH.out.2.2.2⟩

set_option maxRecDepth 100000 in
set_option maxHeartbeats 4000000 in
theorem m_act_mnone8 (h : Md I S w0 w b g f k L N E0 mb E) (hR : Rise E) (hE : ∀ x ∈ E, chk x.1 = 0) (hl : E.length ≤ 1000) (hg : Gd c s) (ht : chk t = 0) (hx : ∀ x ∈ E, x.1 ≠ s) :
    Calls Tryd.prog 16 #[.pointer (some ⟨mb, 0, none⟩), .agg #[.int .i64 8, .int .i64 c, .int .i64 num, .string s, .string t]] w fun e w' => e = .returned (.tuple #[.int .i64 0, .int .i64 903]) ∧ Md I S w0 w' b g f k L N E0 mb E := by
  have HX : Hid (_) := hx
  clear hx
  have HT : Hid (chk t = 0) := ht
  clear ht
  obtain ⟨hc1, hc2, hs⟩ := hg
  have d1 : decide (c < 0) = false := by simp; omega
  have d2 : decide (3 < c) = false := by simp; omega
  have HH : Hid (Rise E ∧ (∀ x ∈ E, chk x.1 = 0) ∧ chk s = 0 ∧ (g, Go.Proofs.YtnbbcbjfejdceaaDoor.box b f) ∈ S) := ⟨hR, hE, hs, h.box⟩
  have HM : Hid (Md I ((w.heap.size, xob 8 c num s t) :: S) w0 (w.alloc (xob 8 c num s t)) b g f k L N E0 mb E) := h.push _
  obtain ⟨W, hW⟩ : ∃ W, W = w.alloc (xob 8 c num s t) := ⟨_, rfl⟩
  rw [← hW] at HM
  have HW : Hid (w.alloc (.cells #[.int .i64 8, .int .i64 c, .int .i64 num, .string s, .string t] 32 (0, 0)) = W) := hW.symm
  clear hW hR hE h hs
  go_enter Tryd.func16, Tryd.ntmps16
  go_wp2_with fail
  refine (f_check_any s _).mono ?_
  rintro e w1 ⟨rfl, hw1⟩
  subst hw1
  rw [HW.out, HH.out.2.2.1]
  clear HW
  generalize w.heap.size = bx at *
  obtain ⟨y0, y1, y2, y3, y4⟩ := xob_cells (Md.at_ HM.out (List.mem_cons_self ..))
  go_wp2_with fail
  refine (m_at (Md.mo HM.out) (by omega) s).mono ?_
  rintro e w1 ⟨hw, hcase⟩
  subst hw
  rcases hcase with ⟨rfl, -⟩ | ⟨i, y, -, hi⟩
  case inr => exact (no_at HX.out hi).elim
  go_wp2_with fail
  refine (f_check_any t _).mono ?_
  rintro e w1 ⟨rfl, hw1⟩
  subst hw1
  rw [HT.out]
  go_wp2_with fail
  go_ret2
  exact ⟨rfl, Md.less HM.out HH.out.2.2.2⟩

set_option maxRecDepth 100000 in
set_option maxHeartbeats 4000000 in
theorem m_act_mexist8 (h : Md I S w0 w b g f k L N E0 mb E) (hR : Rise E) (hE : ∀ x ∈ E, chk x.1 = 0) (hl : E.length ≤ 1000) (hg : Gd c s) (ht : chk t = 0) (x y2 : Int) (hx : (s, x) ∈ E) (hy : (t, y2) ∈ E) :
    Calls Tryd.prog 16 #[.pointer (some ⟨mb, 0, none⟩), .agg #[.int .i64 8, .int .i64 c, .int .i64 num, .string s, .string t]] w fun e w' => e = .returned (.tuple #[.int .i64 0, .int .i64 901]) ∧ Md I S w0 w' b g f k L N E0 mb E := by
  have HX : Hid (_) := hx
  clear hx
  have HT : Hid (chk t = 0) := ht
  clear ht
  have HY : Hid (_) := hy
  clear hy
  obtain ⟨hc1, hc2, hs⟩ := hg
  have d1 : decide (c < 0) = false := by simp; omega
  have d2 : decide (3 < c) = false := by simp; omega
  have HH : Hid (Rise E ∧ (∀ x ∈ E, chk x.1 = 0) ∧ chk s = 0 ∧ (g, Go.Proofs.YtnbbcbjfejdceaaDoor.box b f) ∈ S) := ⟨hR, hE, hs, h.box⟩
  have HM : Hid (Md I ((w.heap.size, xob 8 c num s t) :: S) w0 (w.alloc (xob 8 c num s t)) b g f k L N E0 mb E) := h.push _
  obtain ⟨W, hW⟩ : ∃ W, W = w.alloc (xob 8 c num s t) := ⟨_, rfl⟩
  rw [← hW] at HM
  have HW : Hid (w.alloc (.cells #[.int .i64 8, .int .i64 c, .int .i64 num, .string s, .string t] 32 (0, 0)) = W) := hW.symm
  clear hW hR hE h hs
  go_enter Tryd.func16, Tryd.ntmps16
  go_wp2_with fail
  refine (f_check_any s _).mono ?_
  rintro e w1 ⟨rfl, hw1⟩
  subst hw1
  rw [HW.out, HH.out.2.2.1]
  clear HW
  generalize w.heap.size = bx at *
  obtain ⟨y0, y1, y2, y3, y4⟩ := xob_cells (Md.at_ HM.out (List.mem_cons_self ..))
  go_wp2_with fail
  refine (m_at (Md.mo HM.out) (by omega) s).mono ?_
  rintro e w1 ⟨hw, hcase⟩
  subst hw
  rcases hcase with ⟨-, hno⟩ | ⟨i, y, rfl, hi⟩
  case inl => exact (hno _ HX.out rfl).elim
  have j0 : (0 : Int) ≤ (i : Int) := by omega
  have j1 : ¬ (i : Int) < 0 := by omega
  have j2 : decide ((0 : Int) ≤ (i : Int)) = true := by simp
  have j3 : decide ((i : Int) < 0) = false := by simp
  have HI : Hid (E[i]? = some (s, y) ∧ y = x) := ⟨hi, at_num HH.out.1 HX.out hi⟩
  clear hi
  go_wp2_with fail
  refine (f_check_any t _).mono ?_
  rintro e w1 ⟨rfl, hw1⟩
  subst hw1
  rw [HT.out]
  go_wp2_with fail
  refine (m_at (Md.mo HM.out) (by omega) t).mono ?_
  rintro e w1 ⟨hw, hcase⟩
  subst hw
  rcases hcase with ⟨-, hno⟩ | ⟨i2, y3', rfl, -⟩
  case inl => exact (hno _ HY.out rfl).elim
  have j4 : (0 : Int) ≤ (i2 : Int) := by omega
  go_wp2_with fail
  go_ret2
  exact ⟨rfl, Md.less HM.out HH.out.2.2.2⟩

set_option maxRecDepth 100000 in
set_option maxHeartbeats 4000000 in
theorem m_act_mfull8 (h : Md I S w0 w b g f k L N E0 mb E) (hR : Rise E) (hE : ∀ x ∈ E, chk x.1 = 0) (hl : E.length ≤ 1000) (hg : Gd c s) (ht : chk t = 0) (x : Int) (hx : (s, x) ∈ E) (hy : ∀ x ∈ E, x.1 ≠ t) (hf : 4 ≤ many E (bkt t) s) :
    Calls Tryd.prog 16 #[.pointer (some ⟨mb, 0, none⟩), .agg #[.int .i64 8, .int .i64 c, .int .i64 num, .string s, .string t]] w fun e w' => e = .returned (.tuple #[.int .i64 0, .int .i64 902]) ∧ Md I S w0 w' b g f k L N E0 mb E := by
  have HX : Hid (_) := hx
  clear hx
  have HT : Hid (chk t = 0) := ht
  clear ht
  have HY : Hid (_) := hy
  clear hy
  have HF : Hid (decide (4 ≤ many E (bkt t) s) = true) := by show _ = _; simpa using hf
  clear hf
  obtain ⟨hc1, hc2, hs⟩ := hg
  have d1 : decide (c < 0) = false := by simp; omega
  have d2 : decide (3 < c) = false := by simp; omega
  have HH : Hid (Rise E ∧ (∀ x ∈ E, chk x.1 = 0) ∧ chk s = 0 ∧ (g, Go.Proofs.YtnbbcbjfejdceaaDoor.box b f) ∈ S) := ⟨hR, hE, hs, h.box⟩
  have HM : Hid (Md I ((w.heap.size, xob 8 c num s t) :: S) w0 (w.alloc (xob 8 c num s t)) b g f k L N E0 mb E) := h.push _
  obtain ⟨W, hW⟩ : ∃ W, W = w.alloc (xob 8 c num s t) := ⟨_, rfl⟩
  rw [← hW] at HM
  have HW : Hid (w.alloc (.cells #[.int .i64 8, .int .i64 c, .int .i64 num, .string s, .string t] 32 (0, 0)) = W) := hW.symm
  clear hW hR hE h hs
  go_enter Tryd.func16, Tryd.ntmps16
  go_wp2_with fail
  refine (f_check_any s _).mono ?_
  rintro e w1 ⟨rfl, hw1⟩
  subst hw1
  rw [HW.out, HH.out.2.2.1]
  clear HW
  generalize w.heap.size = bx at *
  obtain ⟨y0, y1, y2, y3, y4⟩ := xob_cells (Md.at_ HM.out (List.mem_cons_self ..))
  go_wp2_with fail
  refine (m_at (Md.mo HM.out) (by omega) s).mono ?_
  rintro e w1 ⟨hw, hcase⟩
  subst hw
  rcases hcase with ⟨-, hno⟩ | ⟨i, y, rfl, hi⟩
  case inl => exact (hno _ HX.out rfl).elim
  have j0 : (0 : Int) ≤ (i : Int) := by omega
  have j1 : ¬ (i : Int) < 0 := by omega
  have j2 : decide ((0 : Int) ≤ (i : Int)) = true := by simp
  have j3 : decide ((i : Int) < 0) = false := by simp
  have HI : Hid (E[i]? = some (s, y) ∧ y = x) := ⟨hi, at_num HH.out.1 HX.out hi⟩
  clear hi
  go_wp2_with fail
  refine (f_check_any t _).mono ?_
  rintro e w1 ⟨rfl, hw1⟩
  subst hw1
  rw [HT.out]
  go_wp2_with fail
  refine (m_at (Md.mo HM.out) (by omega) t).mono ?_
  rintro e w1 ⟨hw, hcase⟩
  subst hw
  rcases hcase with ⟨rfl, -⟩ | ⟨i2, y3', -, hi⟩
  case inr => exact (no_at HY.out hi).elim
  go_wp2_with fail
  refine (m_full (Md.mo HM.out) (by omega) HH.out.2.1 t s HT.out).mono ?_
  rintro e w1 ⟨hw, rfl⟩
  subst hw
  rw [HF.out]
  go_wp2_with fail
  go_ret2
  exact ⟨rfl, Md.less HM.out HH.out.2.2.2⟩

set_option maxRecDepth 100000 in
set_option maxHeartbeats 4000000 in
theorem m_act_move8 (h : Md I S w0 w b g f k L N E0 mb E) (hR : Rise E) (hE : ∀ x ∈ E, chk x.1 = 0) (hl : E.length ≤ 1000) (hg : Gd c s) (ht : chk t = 0) (x : Int) (hx : (s, x) ∈ E) (hy : ∀ x ∈ E, x.1 ≠ t) (hf : ¬ 4 ≤ many E (bkt t) s) :
    Calls Tryd.prog 16 #[.pointer (some ⟨mb, 0, none⟩), .agg #[.int .i64 8, .int .i64 c, .int .i64 num, .string s, .string t]] w fun e w' => e = .returned (.tuple #[.int .i64 0, .int .i64 0]) ∧ Md I S w0 w' b g f k L N E0 mb (putE (dropE E s) (t, x)) := by
  have HX : Hid (_) := hx
  clear hx
  have HT : Hid (chk t = 0) := ht
  clear ht
  have HY : Hid (_) := hy
  clear hy
  have HF : Hid (decide (4 ≤ many E (bkt t) s) = false) := by show _ = _; simpa using hf
  clear hf
  obtain ⟨hc1, hc2, hs⟩ := hg
  have d1 : decide (c < 0) = false := by simp; omega
  have d2 : decide (3 < c) = false := by simp; omega
  have HH : Hid (Rise E ∧ (∀ x ∈ E, chk x.1 = 0) ∧ chk s = 0 ∧ (g, Go.Proofs.YtnbbcbjfejdceaaDoor.box b f) ∈ S) := ⟨hR, hE, hs, h.box⟩
  have HM : Hid (Md I ((w.heap.size, xob 8 c num s t) :: S) w0 (w.alloc (xob 8 c num s t)) b g f k L N E0 mb E) := h.push _
  obtain ⟨W, hW⟩ : ∃ W, W = w.alloc (xob 8 c num s t) := ⟨_, rfl⟩
  rw [← hW] at HM
  have HW : Hid (w.alloc (.cells #[.int .i64 8, .int .i64 c, .int .i64 num, .string s, .string t] 32 (0, 0)) = W) := hW.symm
  clear hW hR hE h hs
  go_enter Tryd.func16, Tryd.ntmps16
  go_wp2_with fail
  refine (f_check_any s _).mono ?_
  rintro e w1 ⟨rfl, hw1⟩
  subst hw1
  rw [HW.out, HH.out.2.2.1]
  clear HW
  generalize w.heap.size = bx at *
  obtain ⟨y0, y1, y2, y3, y4⟩ := xob_cells (Md.at_ HM.out (List.mem_cons_self ..))
  go_wp2_with fail
  refine (m_at (Md.mo HM.out) (by omega) s).mono ?_
  rintro e w1 ⟨hw, hcase⟩
  subst hw
  rcases hcase with ⟨-, hno⟩ | ⟨i, y, rfl, hi⟩
  case inl => exact (hno _ HX.out rfl).elim
  have j0 : (0 : Int) ≤ (i : Int) := by omega
  have j1 : ¬ (i : Int) < 0 := by omega
  have j2 : decide ((0 : Int) ≤ (i : Int)) = true := by simp
  have j3 : decide ((i : Int) < 0) = false := by simp
  have HI : Hid (E[i]? = some (s, y) ∧ y = x) := ⟨hi, at_num HH.out.1 HX.out hi⟩
  clear hi
  go_wp2_with fail
  refine (f_check_any t _).mono ?_
  rintro e w1 ⟨rfl, hw1⟩
  subst hw1
  rw [HT.out]
  go_wp2_with fail
  refine (m_at (Md.mo HM.out) (by omega) t).mono ?_
  rintro e w1 ⟨hw, hcase⟩
  subst hw
  rcases hcase with ⟨rfl, -⟩ | ⟨i2, y3', -, hi⟩
  case inr => exact (no_at HY.out hi).elim
  go_wp2_with fail
  refine (m_full (Md.mo HM.out) (by omega) HH.out.2.1 t s HT.out).mono ?_
  rintro e w1 ⟨hw, rfl⟩
  subst hw
  rw [HF.out]
  obtain ⟨ma, mc, m0, hrow⟩ := (Md.mo HM.out).read
  have hil : i < E.length := (List.getElem?_eq_some_iff.1 HI.out.1).1
  obtain ⟨mg, rfl, r0, r1⟩ := hrow i hil
  have he : E[i] = (s, y) := (List.getElem?_eq_some_iff.1 HI.out.1).2
  rw [he] at r0 r1
  have i5 : (i : Int) < (E.length : Int) := by omega
  clear hrow he
  go_wp2_with fail
  refine (m_drop HM.out hl i).mono ?_
  rintro e w2 ⟨rfl, h2⟩
  rw [erase_drop HH.out.1 HI.out.1] at h2
  have H2 : Hid (Md I ((bx, xob 8 c num s t) :: S) w0 w2 b g f k L N E0 mb (dropE E s)) := h2
  clear h2 y0 y1 y2 y3 y4 m0 r0 r1 i5
  obtain ⟨y0, y1, y2, y3, y4⟩ := xob_cells (Md.at_ H2.out (List.mem_cons_self ..))
  go_wp2_with fail
  rw [HI.out.2]
  refine (m_put H2.out (by have := List.length_filter_le (fun e : En => decide (e.1 ≠ s)) E; unfold dropE; omega) (fun x hx => (chk_parts (HH.out.2.1 x (mem_dropE.1 hx).1)).1) t x (chk_parts HT.out).1).mono ?_
  rintro e w3 ⟨rfl, h3⟩
  have H3 : Hid (_) := h3
  clear h3
  go_wp2_with fail
  go_ret2
  exact ⟨rfl, Md.less H3.out HH.out.2.2.2⟩

set_option maxRecDepth 100000 in
set_option maxHeartbeats 4000000 in
theorem m_act_none (h : Md I S w0 w b g f k L N E0 mb E) (hR : Rise E) (hE : ∀ x ∈ E, chk x.1 = 0) (hl : E.length ≤ 1000) (hg : Gd c s) (hk : 5 ≤ kd ∧ kd ≠ 7 ∧ kd ≠ 8) (hx : ∀ x ∈ E, x.1 ≠ s) :
    Calls Tryd.prog 16 #[.pointer (some ⟨mb, 0, none⟩), .agg #[.int .i64 kd, .int .i64 c, .int .i64 num, .string s, .string t]] w fun e w' => e = .returned (.tuple #[.int .i64 0, .int .i64 903]) ∧ Md I S w0 w' b g f k L N E0 mb E := by
  have HX : Hid (_) := hx
  clear hx
  have n1 : decide (kd < 5) = false := by simp; omega
  have n2 : (kd == 7) = false := by simp; omega
  have n3 : (kd == 8) = false := by simp; omega
  have n4 : ¬ kd < 5 := by omega
  have n5 : ¬ kd = 7 := by omega
  have n6 : ¬ kd = 8 := by omega
  clear hk
  obtain ⟨hc1, hc2, hs⟩ := hg
  have d1 : decide (c < 0) = false := by simp; omega
  have d2 : decide (3 < c) = false := by simp; omega
  have HH : Hid (Rise E ∧ (∀ x ∈ E, chk x.1 = 0) ∧ chk s = 0 ∧ (g, Go.Proofs.YtnbbcbjfejdceaaDoor.box b f) ∈ S) := ⟨hR, hE, hs, h.box⟩
  have HM : Hid (Md I ((w.heap.size, xob kd c num s t) :: S) w0 (w.alloc (xob kd c num s t)) b g f k L N E0 mb E) := h.push _
  obtain ⟨W, hW⟩ : ∃ W, W = w.alloc (xob kd c num s t) := ⟨_, rfl⟩
  rw [← hW] at HM
  have HW : Hid (w.alloc (.cells #[.int .i64 kd, .int .i64 c, .int .i64 num, .string s, .string t] 32 (0, 0)) = W) := hW.symm
  clear hW hR hE h hs
  go_enter Tryd.func16, Tryd.ntmps16
  go_wp2_with fail
  refine (f_check_any s _).mono ?_
  rintro e w1 ⟨rfl, hw1⟩
  subst hw1
  rw [HW.out, HH.out.2.2.1]
  clear HW
  generalize w.heap.size = bx at *
  obtain ⟨y0, y1, y2, y3, y4⟩ := xob_cells (Md.at_ HM.out (List.mem_cons_self ..))
  go_wp2_with fail
  refine (m_at (Md.mo HM.out) (by omega) s).mono ?_
  rintro e w1 ⟨hw, hcase⟩
  subst hw
  rcases hcase with ⟨rfl, -⟩ | ⟨i, y, -, hi⟩
  case inr => exact (no_at HX.out hi).elim
  go_wp2_with fail
  go_ret2
  exact ⟨rfl, Md.less HM.out HH.out.2.2.2⟩

set_option maxRecDepth 100000 in
set_option maxHeartbeats 4000000 in
theorem m_act_drop (h : Md I S w0 w b g f k L N E0 mb E) (hR : Rise E) (hE : ∀ x ∈ E, chk x.1 = 0) (hl : E.length ≤ 1000) (hg : Gd c s) (hk : 5 ≤ kd ∧ kd < 7) (x : Int) (hx : (s, x) ∈ E) :
    Calls Tryd.prog 16 #[.pointer (some ⟨mb, 0, none⟩), .agg #[.int .i64 kd, .int .i64 c, .int .i64 num, .string s, .string t]] w fun e w' => e = .returned (.tuple #[.int .i64 0, .int .i64 0]) ∧ Md I S w0 w' b g f k L N E0 mb (dropE E s) := by
  have HX : Hid (_) := hx
  clear hx
  have n1 : decide (kd < 5) = false := by simp; omega
  have n2 : (kd == 7) = false := by simp; omega
  have n3 : (kd == 8) = false := by simp; omega
  have n4 : ¬ kd < 5 := by omega
  have n5 : ¬ kd = 7 := by omega
  have n6 : ¬ kd = 8 := by omega
  have n7 : kd < 7 := hk.2
  clear hk
  obtain ⟨hc1, hc2, hs⟩ := hg
  have d1 : decide (c < 0) = false := by simp; omega
  have d2 : decide (3 < c) = false := by simp; omega
  have HH : Hid (Rise E ∧ (∀ x ∈ E, chk x.1 = 0) ∧ chk s = 0 ∧ (g, Go.Proofs.YtnbbcbjfejdceaaDoor.box b f) ∈ S) := ⟨hR, hE, hs, h.box⟩
  have HM : Hid (Md I ((w.heap.size, xob kd c num s t) :: S) w0 (w.alloc (xob kd c num s t)) b g f k L N E0 mb E) := h.push _
  obtain ⟨W, hW⟩ : ∃ W, W = w.alloc (xob kd c num s t) := ⟨_, rfl⟩
  rw [← hW] at HM
  have HW : Hid (w.alloc (.cells #[.int .i64 kd, .int .i64 c, .int .i64 num, .string s, .string t] 32 (0, 0)) = W) := hW.symm
  clear hW hR hE h hs
  go_enter Tryd.func16, Tryd.ntmps16
  go_wp2_with fail
  refine (f_check_any s _).mono ?_
  rintro e w1 ⟨rfl, hw1⟩
  subst hw1
  rw [HW.out, HH.out.2.2.1]
  clear HW
  generalize w.heap.size = bx at *
  obtain ⟨y0, y1, y2, y3, y4⟩ := xob_cells (Md.at_ HM.out (List.mem_cons_self ..))
  go_wp2_with fail
  refine (m_at (Md.mo HM.out) (by omega) s).mono ?_
  rintro e w1 ⟨hw, hcase⟩
  subst hw
  rcases hcase with ⟨-, hno⟩ | ⟨i, y, rfl, hi⟩
  case inl => exact (hno _ HX.out rfl).elim
  have j0 : (0 : Int) ≤ (i : Int) := by omega
  have j1 : ¬ (i : Int) < 0 := by omega
  have j2 : decide ((0 : Int) ≤ (i : Int)) = true := by simp
  have j3 : decide ((i : Int) < 0) = false := by simp
  have HI : Hid (E[i]? = some (s, y) ∧ y = x) := ⟨hi, at_num HH.out.1 HX.out hi⟩
  clear hi
  go_wp2_with fail
  refine (m_drop HM.out hl i).mono ?_
  rintro e w2 ⟨rfl, h2⟩
  rw [erase_drop HH.out.1 HI.out.1] at h2
  have H2 : Hid (Md I ((bx, xob kd c num s t) :: S) w0 w2 b g f k L N E0 mb (dropE E s)) := h2
  clear h2 y0 y1 y2 y3 y4
  go_wp2_with fail
  go_ret2
  exact ⟨rfl, Md.less H2.out HH.out.2.2.2⟩

set_option maxRecDepth 100000 in
set_option maxHeartbeats 4000000 in
theorem m_act_find (h : Md I S w0 w b g f k L N E0 mb E) (hR : Rise E) (hE : ∀ x ∈ E, chk x.1 = 0) (hl : E.length ≤ 1000) (hg : Gd c s) (hk : 9 ≤ kd) (x : Int) (hx : (s, x) ∈ E) :
    Calls Tryd.prog 16 #[.pointer (some ⟨mb, 0, none⟩), .agg #[.int .i64 kd, .int .i64 c, .int .i64 num, .string s, .string t]] w fun e w' => e = .returned (.tuple #[.int .i64 x, .int .i64 0]) ∧ Md I S w0 w' b g f k L N E0 mb E := by
  have HX : Hid (_) := hx
  clear hx
  have n1 : decide (kd < 5) = false := by simp; omega
  have n2 : (kd == 7) = false := by simp; omega
  have n3 : (kd == 8) = false := by simp; omega
  have n4 : ¬ kd < 5 := by omega
  have n5 : ¬ kd = 7 := by omega
  have n6 : ¬ kd = 8 := by omega
  have n7 : ¬ kd < 7 := by omega
  clear hk
  obtain ⟨hc1, hc2, hs⟩ := hg
  have d1 : decide (c < 0) = false := by simp; omega
  have d2 : decide (3 < c) = false := by simp; omega
  have HH : Hid (Rise E ∧ (∀ x ∈ E, chk x.1 = 0) ∧ chk s = 0 ∧ (g, Go.Proofs.YtnbbcbjfejdceaaDoor.box b f) ∈ S) := ⟨hR, hE, hs, h.box⟩
  have HM : Hid (Md I ((w.heap.size, xob kd c num s t) :: S) w0 (w.alloc (xob kd c num s t)) b g f k L N E0 mb E) := h.push _
  obtain ⟨W, hW⟩ : ∃ W, W = w.alloc (xob kd c num s t) := ⟨_, rfl⟩
  rw [← hW] at HM
  have HW : Hid (w.alloc (.cells #[.int .i64 kd, .int .i64 c, .int .i64 num, .string s, .string t] 32 (0, 0)) = W) := hW.symm
  clear hW hR hE h hs
  go_enter Tryd.func16, Tryd.ntmps16
  go_wp2_with fail
  refine (f_check_any s _).mono ?_
  rintro e w1 ⟨rfl, hw1⟩
  subst hw1
  rw [HW.out, HH.out.2.2.1]
  clear HW
  generalize w.heap.size = bx at *
  obtain ⟨y0, y1, y2, y3, y4⟩ := xob_cells (Md.at_ HM.out (List.mem_cons_self ..))
  go_wp2_with fail
  refine (m_at (Md.mo HM.out) (by omega) s).mono ?_
  rintro e w1 ⟨hw, hcase⟩
  subst hw
  rcases hcase with ⟨-, hno⟩ | ⟨i, y, rfl, hi⟩
  case inl => exact (hno _ HX.out rfl).elim
  have j0 : (0 : Int) ≤ (i : Int) := by omega
  have j1 : ¬ (i : Int) < 0 := by omega
  have j2 : decide ((0 : Int) ≤ (i : Int)) = true := by simp
  have j3 : decide ((i : Int) < 0) = false := by simp
  have HI : Hid (E[i]? = some (s, y) ∧ y = x) := ⟨hi, at_num HH.out.1 HX.out hi⟩
  clear hi
  obtain ⟨ma, mc, m0, hrow⟩ := (Md.mo HM.out).read
  have hil : i < E.length := (List.getElem?_eq_some_iff.1 HI.out.1).1
  obtain ⟨mg, rfl, r0, r1⟩ := hrow i hil
  have he : E[i] = (s, y) := (List.getElem?_eq_some_iff.1 HI.out.1).2
  rw [he] at r0 r1
  have i5 : (i : Int) < (E.length : Int) := by omega
  clear hrow he
  go_wp2_with fail
  go_ret2
  exact ⟨tup2 HI.out.2 rfl, Md.less HM.out HH.out.2.2.2⟩

/-- The law's own answer. -/
theorem m_act {v z : Int} {E' : List En} (h : Md I S w0 w b g f k L N E0 mb E) (hR : Rise E) (hE : ∀ x ∈ E, chk x.1 = 0) (hl : E.length ≤ 1000) (hA : Ac E kd c num s t v z E') :
    Calls Tryd.prog 16 #[.pointer (some ⟨mb, 0, none⟩), .agg #[.int .i64 kd, .int .i64 c, .int .i64 num, .string s, .string t]] w fun e w' => e = .returned (.tuple #[.int .i64 v, .int .i64 z]) ∧ Md I S w0 w' b g f k L N E0 mb E' := by
  cases hA with
  | bad hg => exact m_act_bad h hR hE hl hg
  | num hg hk hn =>
    rcases hn with hn | hn
    · exact m_act_num1 h hR hE hl hg hk hn
    · exact m_act_num2 h hR hE hl hg hk hn
  | exist hg hk hn x hx => exact m_act_exist h hR hE hl hg hk hn x hx
  | full hg hk hn hx hf => exact m_act_full h hR hE hl hg hk hn hx hf
  | put hg hk hn hx hf => exact m_act_put h hR hE hl hg hk hn hx hf
  | mbad hg hk ht =>
    rcases hk with rfl | rfl
    · exact m_act_mbad7 h hR hE hl hg ht
    · exact m_act_mbad8 h hR hE hl hg ht
  | mnone hg hk ht hx =>
    rcases hk with rfl | rfl
    · exact m_act_mnone7 h hR hE hl hg ht hx
    · exact m_act_mnone8 h hR hE hl hg ht hx
  | mexist hg hk ht x y hx hy =>
    rcases hk with rfl | rfl
    · exact m_act_mexist7 h hR hE hl hg ht x y hx hy
    · exact m_act_mexist8 h hR hE hl hg ht x y hx hy
  | mfull hg hk ht x hx hy hf =>
    rcases hk with rfl | rfl
    · exact m_act_mfull7 h hR hE hl hg ht x hx hy hf
    · exact m_act_mfull8 h hR hE hl hg ht x hx hy hf
  | move hg hk ht x hx hy hf =>
    rcases hk with rfl | rfl
    · exact m_act_move7 h hR hE hl hg ht x hx hy hf
    · exact m_act_move8 h hR hE hl hg ht x hx hy hf
  | none hg hk hx => exact m_act_none h hR hE hl hg hk hx
  | drop hg hk x hx => exact m_act_drop h hR hE hl hg hk x hx
  | find hg hk x hx => exact m_act_find h hR hE hl hg hk _ hx

end
end Go.Proofs.YtnbbcbjfejdceaaDoor
