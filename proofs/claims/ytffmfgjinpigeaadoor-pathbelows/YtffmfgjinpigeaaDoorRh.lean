/-
  The document's own answers on names: Hash, Runes, Bucket, Check; what names have, told plainly.
-/
import Derived.Test.YtffmfgjinpigeaaDoorRf
namespace Go.Proofs.YtffmfgjinpigeaaDoor
open Go.RowKit
set_option linter.unusedVariables false

/-- The hash of runes, from h on. -/
def hashL (l : List (Int × Nat)) (h : Int) : Int := l.foldl (fun h r => (31 * h + r.1) % 4294967296) h

/-- A rune that no name may have. -/
def badR (x : Int × Nat) : Bool := x.2 == 0 || x.1 == 47 || decide (x.1 < 32) || x.1 == 127

/-- What Check answers. -/
def chk (s : ByteArray) : Int := if 12 < s.size then 801 else if s.toList = [] ∨ s.toList = [46] ∨ s.toList = [46, 46] then 800 else if (rs s 0).any badR then 800 else 0

theorem max1 (k : Nat) (W : World) : (Builtin.max_ #[3, 3] 3 #[.int .i64 (k : Int), .int .i64 1]).run Tryd.prog W = .ok (.int .i64 ((max k 1 : Nat) : Int)) W := by
  have e : (if (k : Int) < 1 then (1 : Int) else (k : Int)) = ((max k 1 : Nat) : Int) := by
    rw [Nat.max_def]; split <;> split <;> omega
  simp [Builtin.max_, Builtin.max2]
  exact e

theorem step_le {s : ByteArray} {i : Nat} (h : i < s.size) : i + max (one s i).2 1 ≤ s.size := by
  have := one_width s i h
  rw [Nat.max_def]; split <;> omega

set_option maxRecDepth 100000 in
set_option maxHeartbeats 1000000 in
set_option maxRecDepth 100000 in
set_option maxHeartbeats 1000000 in
theorem hashL_range (l : List (Int × Nat)) : ∀ h, 0 ≤ h ∧ h < 4294967296 → 0 ≤ hashL l h ∧ hashL l h < 4294967296 := by
  induction l with
  | nil => intro h hh; exact hh
  | cons x l ih => intro h hh; have := ih ((31 * h + x.1) % 4294967296) ⟨by omega, by omega⟩; exact this

theorem bad_yes {s : ByteArray} {j : Nat} (h : j < s.size) (hb : badR (one s j) = true) : (rs s j).any badR = true := by
  rw [rs_next h, List.any_cons, hb]; rfl

theorem bad_no {s : ByteArray} {j : Nat} (h : j < s.size) (hb : badR (one s j) = false) : (rs s (j + (one s j).2)).any badR = (rs s j).any badR ∧ 1 ≤ (one s j).2 := by
  have h1 : 1 ≤ (one s j).2 := by
    rcases Nat.eq_zero_or_pos (one s j).2 with h2 | h2
    · simp [badR, h2] at hb
    · exact h2
  refine ⟨?_, h1⟩
  rw [rs_next h, List.any_cons, hb, Nat.max_eq_left h1]; rfl

set_option maxRecDepth 100000 in
set_option maxHeartbeats 2000000 in
theorem f_check (s : ByteArray) (w : World) (hs : s.size ≤ 9223372036854775000) :
    Calls Tryd.prog 22 #[.string s] w fun e w' => e = .returned (.int .i64 (chk s)) ∧ w' = w := by
  obtain ⟨z, hz⟩ : ∃ z, chk s = z := ⟨_, rfl⟩
  rw [hz]
  by_cases hl : 12 < s.size
  · have i0 : (12 : Int) < (s.size : Int) := by omega
    have HZ : Hid (801 = z) := by show 801 = z; rw [← hz]; unfold chk; rw [if_pos hl]
    clear hz
    go_enter Tryd.func22, Tryd.ntmps22
    go_wp2_with fail
    go_ret
    exact ⟨ret_int HZ.out, rfl⟩
  have i0 : ¬ (12 : Int) < (s.size : Int) := by omega
  by_cases he : s.toList = [] ∨ s.toList = [46] ∨ s.toList = [46, 46]
  · have HZ : Hid (800 = z) := by show 800 = z; rw [← hz]; unfold chk; rw [if_neg hl, if_pos he]
    clear hz
    rcases he with he | he | he
    · have t1 : s.toList.isEmpty = true := by rw [he]; rfl
      go_enter Tryd.func22, Tryd.ntmps22
      go_wp2_with fail
      go_ret
      exact ⟨ret_int HZ.out, rfl⟩
    · have t1 : s.toList.isEmpty = false := by rw [he]; rfl
      have t2 : (s.toList == [46]) = true := by rw [he]; rfl
      go_enter Tryd.func22, Tryd.ntmps22
      go_wp2_with fail
      go_ret
      exact ⟨ret_int HZ.out, rfl⟩
    · have t1 : s.toList.isEmpty = false := by rw [he]; rfl
      have t2 : (s.toList == [46]) = false := by rw [he]; rfl
      have t3 : (s.toList == [46, 46]) = true := by rw [he]; rfl
      go_enter Tryd.func22, Tryd.ntmps22
      go_wp2_with fail
      go_ret
      exact ⟨ret_int HZ.out, rfl⟩
  have HZ : Hid ((if (rs s 0).any badR then 800 else 0) = z) := by show _ = z; rw [← hz]; unfold chk; rw [if_neg hl, if_neg he]
  clear hz
  have n1 : ¬ s.toList = [] := fun h => he (Or.inl h)
  have n2 : ¬ s.toList = [46] := fun h => he (Or.inr (Or.inl h))
  have n3 : ¬ s.toList = [46, 46] := fun h => he (Or.inr (Or.inr h))
  have t1 : s.toList.isEmpty = false := by rw [← Bool.not_eq_true, List.isEmpty_iff]; exact n1
  have t2 : (s.toList == [46]) = false := by simpa using n2
  have t3 : (s.toList == [46, 46]) = false := by simpa using n3
  clear he
  go_enter Tryd.func22, Tryd.ntmps22
  go_wp2_with fail
  go_loopw [3] (fun i wr => ∃ (j : Nat), i = .int .i64 (j : Int) ∧ j ≤ s.size ∧ Hid (wr = w ∧ (rs s j).any badR = (rs s 0).any badR)) (fun i _ => (s.size - intOf i).toNat)
  case atStart => exact ⟨0, rfl, by omega, rfl, rfl⟩
  case round =>
    obtain ⟨j, rfl, hj, HJ⟩ := hrel
    obtain ⟨hw, hh⟩ := HJ.out
    subst hw
    have HH : Hid (_) := hh
    clear hh HJ
    by_cases hlt : j < s.size
    · have i1 : (j : Int) < (s.size : Int) := by omega
      have hw := one_width s j hlt
      go_wp2_with fail
      refine (f_rune1 s j wr hlt hs).mono ?_
      rintro e w1 ⟨rfl, rfl⟩
      by_cases hb : badR (one s j) = true
      · have HE : Hid (800 = z) := by
          show 800 = z
          have h1 := bad_yes hlt hb
          rw [HH.out] at h1
          rw [← HZ.out, h1]; rfl
        clear HH HZ hw
        unfold badR at hb
        generalize (one s j).1 = r at *
        generalize (one s j).2 = k at *
        simp only [Bool.or_eq_true, beq_iff_eq, decide_eq_true_eq] at hb
        by_cases b0 : k = 0
        · subst b0
          clear hb
          go_wp2_with fail
          go_ret
          exact ⟨ret_int HE.out, rfl⟩
        have c0 : ((k : Int) == 0) = false := by simp; omega
        by_cases b1 : r = 47
        · subst b1
          clear hb
          go_wp2_with fail
          go_ret
          exact ⟨ret_int HE.out, rfl⟩
        have c1 : (r == 47) = false := by simpa using b1
        by_cases b2 : r < 32
        · clear hb b1
          go_wp2_with fail
          go_ret
          exact ⟨ret_int HE.out, rfl⟩
        have b3 : r = 127 := by omega
        subst b3
        clear hb b1 c1 b2
        go_wp2_with fail
        go_ret
        exact ⟨ret_int HE.out, rfl⟩
      · have hb2 : badR (one s j) = false := by simpa using hb
        obtain ⟨h1, h2⟩ := bad_no hlt hb2
        have HN : Hid ((rs s (j + (one s j).2)).any badR = (rs s 0).any badR) := h1.trans HH.out
        clear HH h1 hb2
        unfold badR at hb
        obtain ⟨-, hw2, -⟩ := hw
        generalize (one s j).1 = r at *
        generalize (one s j).2 = k at *
        simp only [Bool.or_eq_true, beq_iff_eq, decide_eq_true_eq] at hb
        have c0 : ((k : Int) == 0) = false := by simp; omega
        have c1 : (r == 47) = false := by simp; omega
        have c2 : ¬ r < 32 := by omega
        have c3 : (r == 127) = false := by simp; omega
        have c4 : decide (r < 32) = false := by simp; omega
        clear hb
        go_wp2_with fail
        go_roundw
        case rel => exact ⟨j + k, by go_num, hw2, trivial, HN.out⟩
        case measure => simp [intOf]; omega
    · have i1 : ¬ (j : Int) < (s.size : Int) := by omega
      have HE : Hid (0 = z) := by
        have := HH.out
        rw [rs_end hlt] at this
        show 0 = z
        rw [← HZ.out, ← this]; rfl
      clear HH HZ
      go_wp2_with fail
      go_ret
      exact ⟨ret_int HE.out, rfl⟩

end Go.Proofs.YtffmfgjinpigeaaDoor
