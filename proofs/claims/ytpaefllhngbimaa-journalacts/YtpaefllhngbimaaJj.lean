/-
  What JournalActs plays: cut, reopened, kept.
-/
import Derived.Test.YtpaefllhngbimaaJg
namespace Go.Proofs.Ytpaefllhngbimaa
open Go.RowKit
set_option linter.unusedVariables false
set_option maxRecDepth 100000

set_option maxHeartbeats 2000000 in
theorem a_reopen {S : List (Nat × Obj)} {w0 w : World} {b n : Nat} {M : Pm} {T : ByteArray} (h : Hj S w0 w b M) (kp : Int) (hkp : kp ≤ 9223372036854775807) (hq : Quiet (M.crash kp) 8 n T) :
    Calls Try.prog 37 #[.pointer (some ⟨b, 0, none⟩), .int .i64 (n : Int), .int .i64 kp] w fun e w' => ∃ j, e = .returned (.tuple #[.pointer (some ⟨j, 0, none⟩), .bool true]) ∧ Hj ((j, jn b 8 n) :: S) w0 w' b (M.crash kp) := by
  have HC : Hid (Calls Try.prog 21 #[.pointer (some ⟨b, 0, none⟩), .int .i64 kp] w fun e w' => e = .returned (.int .i64 0) ∧ Hj S w0 w' b (M.crash kp)) := h_crash h kp hkp
  have HO : Hid (∀ W, Hj S w0 W b (M.crash kp) → Calls Try.prog 19 #[.pointer (some ⟨b, 0, none⟩), .int .i64 8, .int .i64 (n : Int)] W fun e w' => ∃ j, e = .returned (.tuple #[.pointer (some ⟨j, 0, none⟩), .int .i64 0]) ∧ j = W.heap.size ∧ Hj ((j, jn b 8 n) :: S) w0 w' b (M.crash kp) ∧ Kept [] W w') :=
    fun W hW => j_open hW (f := 8) hq.fits hq.rng hq.look
  clear h hq
  go_enter Try.func37, Try.ntmps37
  go_wp2_with (first
    | (go_at_call 21; refine Calls.mono HC.out ?_; rintro e w1 ⟨rfl, h1⟩; have H1 : Hid (Hj S w0 w1 b (M.crash kp)) := h1; clear h1)
    | (go_at_call 19; refine Calls.mono (HO.out _ H1.out) ?_; rintro e w2 ⟨j, rfl, -, h2, -⟩; have H2 : Hid (Hj ((j, jn b 8 n) :: S) w0 w2 b (M.crash kp)) := h2; clear h2)
    | (go_at_call 10; refine (u_num _ _).mono ?_; rintro e w' ⟨rfl, rfl⟩))
  go_ret2
  exact ⟨_, rfl, H2.out⟩

set_option maxHeartbeats 2000000 in
theorem a_cut {S : List (Nat × Obj)} {w0 w : World} {b n : Nat} {M : Pm} {T s now : ByteArray} (h : Hj S w0 w b M) (hq : Quiet (M.crash (-1)) 8 n T) (hT : T = s ∨ (T = now ∧ T ≠ s)) :
    Calls Try.prog 36 #[.pointer (some ⟨b, 0, none⟩), .int .i64 (n : Int), .string s, .string now] w fun e w' => e = .returned (.bool true) ∧ Kept [] w w' := by
  have HH : Hid (Hj S w0 w b M) := h
  have HQ : Hid (Quiet (M.crash (-1)) 8 n T) := hq
  clear h hq
  go_enter Try.func36, Try.ntmps36
  go_wp2_with fail
  refine (h_copy HH.out).mono ?_
  rintro e w1 ⟨c, rfl, -, hc, hk⟩
  have H1 : Hid (Hj [] w w1 c M) := hc.hj
  clear hc hk
  go_wp2_with fail
  refine (h_crash H1.out (-1) (by decide)).mono ?_
  rintro e w2 ⟨rfl, h2⟩
  have H2 : Hid (Hj [] w w2 c (M.crash (-1))) := h2
  clear h2
  go_wp2_with fail
  refine (j_open H2.out (f := 8) HQ.out.fits HQ.out.rng HQ.out.look).mono ?_
  rintro e w3 ⟨k, rfl, -, h3, -⟩
  have H3 : Hid (Hj [(k, jn c 8 n)] w w3 c (M.crash (-1))) := h3
  clear h3
  rcases hT with rfl | ⟨rfl, hne⟩
  · go_wp2_with (first
      | (go_at_call 10; refine (u_num _ _).mono ?_; rintro e w' ⟨rfl, rfl⟩)
      | (go_at_call 22; refine (j_read H3.out (j := k) (f := 8) (by simp) HQ.out.fits HQ.out.rng HQ.out.look).mono ?_; rintro e w4 ⟨rfl, h4⟩; have H4 : Hid (Kept [] w w4) := (H3.out.still h4).1; clear h4))
    go_ret
    exact ⟨rfl, H4.out⟩
  · have hb : (T.toList == s.toList) = false := by
      rw [beq_eq_false_iff_ne]
      intro h
      apply hne
      rw [ByteArray.toList_eq, ByteArray.toList_eq] at h
      exact ByteArray.ext (Array.toList_inj.1 h)
    have tk1 : True := trivial
    go_wp2_with (first
      | (go_at_call 10; refine (u_num _ _).mono ?_; rintro e w' ⟨rfl, rfl⟩)
      | (go_at_call 22; clear tk1; refine (j_read H3.out (j := k) (f := 8) (by simp) HQ.out.fits HQ.out.rng HQ.out.look).mono ?_; rintro e w4 ⟨rfl, h4⟩; have H4 : Hid (Hj [(k, jn c 8 n)] w w4 c (M.crash (-1))) := H3.out.still h4; clear h4)
      | (go_at_call 22; refine (j_read H4.out (j := k) (f := 8) (by simp) HQ.out.fits HQ.out.rng HQ.out.look).mono ?_; rintro e w5 ⟨rfl, h5⟩; have H5 : Hid (Kept [] w w5) := (H4.out.still h5).1; clear h5))
    go_ret
    exact ⟨rfl, H5.out⟩

set_option maxHeartbeats 2000000 in
theorem a_kept {S : List (Nat × Obj)} {w0 w : World} {b n : Nat} {M : Pm} (h : Hj S w0 w b M) (hn : n + 32 ≤ M.seen.length) (hn2 : n ≤ 400) (h3 : wordAt M.seen 3 = 77) (h9 : wordAt M.seen (n + 9) = 78) :
    Calls Try.prog 16 #[.pointer (some ⟨b, 0, none⟩), .int .i64 (n : Int)] w fun e w' => e = .returned (.bool true) ∧ w = w' := by
  have l1 := h_load h 3 (by omega) (by omega)
  have l2 := h_load h ((n : Int) + 9) (by omega) (by omega)
  rw [show (3 : Int).toNat = 3 from rfl, h3] at l1
  rw [show ((n : Int) + 9).toNat = n + 9 from by omega, h9] at l2
  have H1 : Hid (Calls Try.prog 38 #[.pointer (some ⟨b, 0, none⟩), .int .i64 3] w fun e w' => e = .returned (.tuple #[.int .u64 77, .int .i64 0]) ∧ w = w') := l1
  have H2 : Hid (Calls Try.prog 38 #[.pointer (some ⟨b, 0, none⟩), .int .i64 ((n : Int) + 9)] w fun e w' => e = .returned (.tuple #[.int .u64 78, .int .i64 0]) ∧ w = w') := l2
  clear h l1 l2 h3 h9
  have tk1 : True := trivial
  go_enter Try.func16, Try.ntmps16
  go_wp2_with (first
    | (go_at_call 38; clear tk1; refine Calls.mono H1.out ?_; rintro e w' ⟨rfl, rfl⟩)
    | (go_at_call 38; refine Calls.mono H2.out ?_; rintro e w' ⟨rfl, rfl⟩)
    | (go_at_call 10; refine (u_num _ _).mono ?_; rintro e w' ⟨rfl, rfl⟩))
  go_ret
  exact ⟨rfl, rfl⟩

end Go.Proofs.Ytpaefllhngbimaa
