/-
  SameRecords of rows that are alike.
-/
import Derived.Test.YtlecpeofjabndaaLx
namespace Go.Proofs.Ytlecpeofjabndaa
open Go.RowKit
set_option linter.unusedVariables false
set_option linter.unusedSimpArgs false

set_option maxRecDepth 100000 in
set_option maxHeartbeats 8000000 in
theorem neq_rec (a k kind core fd ofs num : Int) (p1 p2 dat : ByteArray) (w : World) : (binOp .neq 57 (.agg #[.int .i64 a, .int .i64 k, .int .i64 kind, .int .i64 core, .int .i64 fd, .int .i64 ofs, .int .i64 num, .string p1, .string p2, .string dat]) (.agg #[.int .i64 a, .int .i64 k, .int .i64 kind, .int .i64 core, .int .i64 fd, .int .i64 ofs, .int .i64 num, .string p1, .string p2, .string dat])).run Try.prog w = .ok (.bool false) w := by
  have u3 := Try.underlying3
  have a3 := Try.isAgg3
  have z3 := Try.sizeOf3
  have u9 := Try.underlying9
  have a9 := Try.isAgg9
  have z9 := Try.sizeOf9
  have z35 := Try.sizeOf35
  have z33 := Try.sizeOf33
  have a35 := Try.isAgg35
  have a33 := Try.isAgg33
  have hS : Try.prog.underlying 57 = some (.struct (Try.prog.fieldsOf 57)) := by kernel_rfl
  have hp : Try.prog.stoodInHeld 57 = false := by kernel_rfl
  rw [run_neq_struct, show (10000 : Nat) = 9999 + 1 from rfl, run_equalIn_agg w 9999 57 _ _ hS hp]
  simp only [Program.fieldsOf, Try.underlying57]
  clear hS hp
  go_simp
  done

set_option maxRecDepth 100000 in
set_option maxHeartbeats 8000000 in
theorem p_same {w : World} {H G : Nat} {M : List Rec} {a b : Option Addr} {n m c d : Nat} (h : Rr w H (.slice a n c) M) (h2 : Rr w G (.slice b m d) M) (hl : M.length ≤ 100000) :
    Calls Try.prog 17 #[.slice a n c, .slice b m d] w fun e w' => e = .returned (.bool true) ∧ Kept [] w w' := by
  have hn : n = M.length := by
    obtain ⟨a', c', e, -⟩ := h.slice
    simp only [Value.slice.injEq] at e
    exact e.2.1
  have hm : m = M.length := by
    obtain ⟨a', c', e, -⟩ := h2.slice
    simp only [Value.slice.injEq] at e
    exact e.2.1
  have hmn : m = n := by omega
  subst hmn
  have HR : Hid (Rr w H (.slice a m c) M ∧ Rr w G (.slice b m d) M ∧ M.length = m) := ⟨h, h2, hm.symm⟩
  rw [← hm] at hl
  clear h h2 hn hm
  go_enter Try.func17, Try.ntmps17
  go_wp2_with fail
  go_loopw [5] (fun i wr => ∃ j : Nat, i = .int .i64 (j : Int) ∧ j ≤ m ∧ Hid (Kept [] w wr)) (fun i _ => (m - intOf i).toNat)
  case atStart => exact ⟨0, rfl, by omega, Kept.refl _ _⟩
  case round =>
    obtain ⟨j, rfl, hj, HJ⟩ := hrel
    by_cases hlt : j < m
    · have j0 : (0 : Int) ≤ (j : Int) := by omega
      have j1 : (j : Int) < (m : Int) := by omega
      have hjM : j < M.length := by rw [HR.out.2.2]; exact hlt
      obtain ⟨r, hr⟩ : ∃ r, M[j] = r := ⟨_, rfl⟩
      obtain ⟨g1, ha, q0, q1, q2, q3, q4, q5, q6, q7, q8, q9⟩ := (HR.out.1.kept HJ.out (by simp)).ten rfl hjM hr
      obtain ⟨g2, hb, s0, s1, s2, s3, s4, s5, s6, s7, s8, s9⟩ := (HR.out.2.1.kept HJ.out (by simp)).ten rfl hjM hr
      subst ha hb
      obtain ⟨a, k, kind, core, fd, ofs, num, p1, p2, dat⟩ := r
      dsimp only at q0 q1 q2 q3 q4 q5 q6 q7 q8 q9 s0 s1 s2 s3 s4 s5 s6 s7 s8 s9
      have hne := neq_rec a k kind core fd ofs num p1 p2 dat
      clear hr hjM
      go_upto_region 6 with fail
      go_quiet (fail)
      clear q0 q1 q2 q3 q4 q5 q6 q7 q8 q9 s0 s1 s2 s3 s4 s5 s6 s7 s8 s9 hne
      go_wp2_with fail
      go_roundw
      case rel => exact ⟨j + 1, by go_num, by omega, HJ.out.drewN _⟩
      case measure => simp [intOf]; omega
    · have j1 : ¬ (j : Int) < (m : Int) := by omega
      go_wp2_with fail
      go_ret
      exact ⟨rfl, HJ.out⟩

end Go.Proofs.Ytlecpeofjabndaa
