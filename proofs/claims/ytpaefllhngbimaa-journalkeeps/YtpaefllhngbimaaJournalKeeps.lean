/-
  concourselaw21.JournalKeeps returns true for every text and number: a write that is refused leaves the text; each that is taken lasts. No condition.
-/
import Derived.Test.YtpaefllhngbimaaRows
import Derived.Test.YtpaefllhngbimaaDm
import Derived.WalkKit
import Derived.ProofKit
import Derived.OpenShut
import Derived.ShutString
import Derived.ChangeOld
import Derived.Below
import Derived.Deep.Slices
import Derived.SizedLaws
namespace Go.Proofs.Ytpaefllhngbimaa.journalKeeps
open Go.ChangeShapes Go.WideShapes Go.ChangeAt Go.RowKit
open Go.ChangeMaps (open_string shut_string)
set_option linter.unusedVariables false

theorem own : ownKnob Try.prog.godebug = none := by kernel_rfl
theorem laidOut : laidOutB Try.prog = true := by kernel_rfl

set_option maxRecDepth 100000 in
set_option maxHeartbeats 4000000 in
theorem mainA (s : ByteArray) (x : Int) (w : World) (hl : 60 < s.size) (hss : s.size ≤ 140737488351232) :
    Calls Try.prog 8 #[.string s, .int .i64 x] w fun e w' => e = .returned (.bool true) ∧ Kept [] w w' := by
  obtain ⟨t, ht⟩ : ∃ t, t = s.extract 0 60 := ⟨_, rfl⟩
  have ht1 : t.size ≤ 60 := by rw [ht]; rw [ByteArray.size_extract]; omega
  have hroom : Hid (roomOf 64 = 64) := room_of (by omega) (by omega)
  have hfit : Fits (fresh 64).seen 0 64 := fresh_fits (by omega) (by omega) (by omega) (by omega) (by omega)
  obtain ⟨q1, f1⟩ := quiet_repl (fresh_clean 64) (fresh_rng 64) hfit rfl (s := ⟨#[]⟩) (Nat.zero_le _)
  have n1 := (Cnt.fresh 64).repl (X := (fresh 64).seen) (f := 0) (n := 64) (s := ⟨#[]⟩) (Nat.zero_le _)
  obtain ⟨M1, hM1⟩ : ∃ M1, M1 = (fresh 64).run (replOps (fresh 64).seen 0 64 ⟨#[]⟩) := ⟨_, rfl⟩
  rw [← hM1] at q1 f1 n1
  obtain ⟨k, hk, hk2⟩ : ∃ k : Nat, bits .and .i64 x 31 = (k : Int) ∧ k < 32 := ⟨(x % 32).toNat, by rw [i64_and31]; omega, by omega⟩
  have HQ1 : Hid (Quiet M1 0 64 ⟨#[]⟩ ∧ M1.fuse = none ∧ Cnt M1 _) := ⟨q1, f1, n1⟩
  clear q1 f1 n1
  go_enter Try.func8, Try.ntmps8
  go_wp2_with fail
  refine (awake_any w).mono ?_
  rintro e w1 ⟨rfl, hk0⟩
  have H0 : Hid (Kept [] w w1) := hk0
  clear hk0
  go_wp2_with fail
  refine (u_new w1 64 (by omega) (by omega) (by omega)).mono ?_
  rintro e w2 ⟨b, rfl, hm⟩
  have H1 : Hid (Hj [] w1 w2 b (fresh 64)) := hm.hj
  clear hm
  go_wp2_with fail
  refine (j_new H1.out (f := 0) (n := 64) hfit (by simp [fresh]) (by simp [fresh]) (by simp [fresh]) (by simp [fresh])).mono ?_
  rintro e w3 ⟨j, rfl, -, h3⟩
  rw [← hM1] at h3
  have H3 : Hid (Hj [(j, jn b 0 64)] w1 w3 b M1) := h3
  clear h3 hM1 H1 hfit
  go_wp2_with fail
  rw [← ht]
  clear ht
  generalize decide ((60 : Int) < ((s.size : Nat) : Int)) = bb
  go_loopw [10] (fun i wr => ∃ (i' : Nat) (M : Pm) (T : ByteArray), i = .int .i64 (i' : Int) ∧ i' ≤ 1 + k ∧ Hid (Hj [(j, jn b 0 64)] w1 wr b M ∧ Quiet M 0 64 T ∧ M.fuse = none ∧ Cnt M (20000 * (i' : Int) + 20000))) (fun i _ => (1 + k - intOf i).toNat)
  case atStart => exact ⟨0, M1, ⟨#[]⟩, rfl, by omega, H3.out, HQ1.out.1, HQ1.out.2.1, HQ1.out.2.2.more (by omega)⟩
  case round =>
    obtain ⟨i, M, T, rfl, hi, HR⟩ := hrel
    obtain ⟨hH, hq, hf, hn⟩ := HR.out
    by_cases hlt : i < 1 + k
    · have i1 : (i : Int) < 1 + (k : Int) := by omega
      have hd := digs_length i
      have hds : (strOfNums (digs i)).size ≤ 3 := by rw [strOfNums_size]; exact hd.2
      have hTs : (t ++ strOfNums (digs i)).size ≤ roomOf 64 := by rw [ByteArray.size_append, hroom.out]; omega
      obtain ⟨q2, f2⟩ := quiet_repl hq.clean hq.rng hq.fits hf hTs
      have n2 := hn.repl (X := M.seen) (f := 0) (n := 64) hTs
      have hdec := fun W => f_decimal i (i : Int) rfl W (by omega)
      generalize strOfNums (digs i) = d at *
      obtain ⟨M2, hM2⟩ : ∃ M2, M2 = M.run (replOps M.seen 0 64 (t ++ d)) := ⟨_, rfl⟩
      have hwr : ∀ W, Hj [(j, jn b 0 64)] w1 W b M → Calls Try.prog 20 #[.pointer (some ⟨j, 0, none⟩), .string (t ++ d)] W fun e w' => e = .returned (.int .i64 0) ∧ Hj [(j, jn b 0 64)] w1 w' b M2 := by
        intro W hW
        rw [hM2]
        exact j_write hW (f := 0) (n := 64) (by simp) hq.fits (t ++ d) hTs hn.s0 (by have := hn.s1; omega) hn.t0 (by have := hn.t1; omega)
      rw [← hM2] at q2 f2 n2
      have HW : Hid (∀ W, Hj [(j, jn b 0 64)] w1 W b M → Calls Try.prog 20 #[.pointer (some ⟨j, 0, none⟩), .string (t ++ d)] W fun e w' => e = .returned (.int .i64 0) ∧ Hj [(j, jn b 0 64)] w1 w' b M2) := hwr
      have hwf : ∀ W, Hj [(j, jn b 0 64)] w1 W b M2 → Calls Try.prog 20 #[.pointer (some ⟨j, 0, none⟩), .string (zt 65)] W fun e w' => e = .returned (.int .i64 2101) ∧ w' = W :=
        fun W hW => j_write_full hW (f := 0) (n := 64) (by simp) q2.fits (zt 65) (by rw [hroom.out, zt_size]; omega)
      have HF : Hid (∀ W, Hj [(j, jn b 0 64)] w1 W b M2 → Calls Try.prog 20 #[.pointer (some ⟨j, 0, none⟩), .string (zt 65)] W fun e w' => e = .returned (.int .i64 2101) ∧ w' = W) := hwf
      have HD : Hid (∀ W, Calls Try.prog 25 #[.int .i64 (i : Int)] W fun e w' => e = .returned (.string d) ∧ Kept [] W w') := hdec
      obtain ⟨q3, -⟩ := q2.crash (Or.inl f2) (-1)
      obtain ⟨M3, hM3⟩ : ∃ M3, M3 = M2.crash (-1) := ⟨_, rfl⟩
      rw [← hM3] at q3
      have hrb : ∀ W, Hj [(j, jn b 0 64)] w1 W b M2 → Calls Try.prog 22 #[.pointer (some ⟨j, 0, none⟩)] W fun e w' => e = .returned (.string (t ++ d)) ∧ Kept [] W w' :=
        fun W hW => j_read hW (j := j) (f := 0) (n := 64) (by simp) q2.fits q2.rng q2.look
      have HRB : Hid (∀ W, Hj [(j, jn b 0 64)] w1 W b M2 → Calls Try.prog 22 #[.pointer (some ⟨j, 0, none⟩)] W fun e w' => e = .returned (.string (t ++ d)) ∧ Kept [] W w') := hrb
      have HQ2 : Hid (Quiet M2 0 64 (t ++ d) ∧ M2.fuse = none ∧ Cnt M2 _) := ⟨q2, f2, n2⟩
      have HQ3 : Hid (Quiet M3 0 64 (t ++ d)) := q3
      have HH : Hid (Hj [(j, jn b 0 64)] w1 wr b M) := hH
      have hcat : t.size + d.size ≤ 1000 := by omega
      clear hrb hdec hwf hwr q2 f2 n2 q3 hq hf hn hH HR hds hd hTs hM2
      generalize hT2 : t ++ d = T2 at *
      obtain ⟨A, hmk, hcv⟩ : ∃ A : Array Value, (∀ w : World, (Instr.makeSlice 46 (.int .i64 65) (.int .i64 65)).run Try.prog w = .ok (.slice (some ⟨w.heap.size, 0, none⟩) 65 65) (w.alloc (.cells A 5))) ∧ ∀ w : World, (convert 46 9 (.slice (some ⟨w.heap.size, 0, none⟩) 65 65)).run Try.prog (w.alloc (.cells A 5)) = .ok (.string (zt 65)) (w.alloc (.cells A 5)) :=
        ⟨_, fun w => make_zt 65 (by omega) w, fun w => conv_zt 65 w⟩
      have tk1 : True := trivial
      have tk2 : True := trivial
      have tk3 : True := trivial
      have tk4 : True := trivial
      go_wp2_with (first
        | (go_at_call 25; clear tk3; refine Calls.mono (HD.out _) ?_; rintro e w4 ⟨rfl, h4⟩; have HH4 : Hid (Hj [(j, jn b 0 64)] w1 w4 b M) := HH.out.still h4; clear h4)
        | (go_at_call 20; clear tk4; refine Calls.mono (HW.out _ HH4.out) ?_; rintro e w5 ⟨rfl, h5⟩; have HH5 : Hid (Hj [(j, jn b 0 64)] w1 w5 b M2) := h5; clear h5)
        | (go_at_call 20; refine Calls.mono (HF.out _ (HH5.out.still ((Kept.refl _ _).alloc _))) ?_; rintro e w6 ⟨rfl, hw⟩; have hw3 := hw; subst hw3; clear hw)
        | (go_at_call 23; refine (h_copy (HH5.out.still ((Kept.refl _ _).alloc _))).mono ?_; rintro e w7 ⟨c, rfl, h7, hc, -⟩; have HH7 : Hid (Hj [(j, jn b 0 64)] w1 w7 b M2) := h7; have C7 : Hid (Hj [] _ w7 c M2) := hc.hj; clear h7 hc)
        | (go_at_call 21; refine (h_crash C7.out (-1) (by decide)).mono ?_; rintro e w8 ⟨rfl, h8⟩; rw [← hM3] at h8; have C8 : Hid (Hj [] _ w8 c M3) := h8; clear h8)
        | (go_at_call 19; refine (j_open C8.out (f := 0) (n := 64) HQ3.out.fits HQ3.out.rng HQ3.out.look).mono ?_; rintro e w9 ⟨g, rfl, -, h9, -⟩; have C9 : Hid (Hj [(g, jn c 0 64)] _ w9 c M3) := h9; clear h9)
        | (go_at_call 10; refine (u_num _ _).mono ?_; rintro e w' ⟨rfl, rfl⟩)
        | (go_at_call 22; clear tk1; refine (j_read C9.out (j := g) (f := 0) (n := 64) (by simp) HQ3.out.fits HQ3.out.rng HQ3.out.look).mono ?_; rintro e wa ⟨rfl, ha⟩; have CA : Hid (Hj [(g, jn c 0 64)] _ wa c M3) := C9.out.still ha; clear ha)
        | (go_at_call 25; refine Calls.mono (HD.out _) ?_; rintro e wb ⟨rfl, hb⟩; have CB : Hid (Hj [(g, jn c 0 64)] _ wb c M3) := CA.out.still hb; clear hb)
        | (go_at_call 22; clear tk2; refine Calls.mono (HRB.out _ ((HH5.out.still ((Kept.refl _ _).alloc _)).still CB.out.1)) ?_; rintro e wc ⟨rfl, hcc⟩; have CC : Hid (Hj [(g, jn c 0 64)] _ wc c M3) := CB.out.still hcc; clear hcc)
        | (go_at_call 22; refine (j_read CC.out (j := g) (f := 0) (n := 64) (by simp) HQ3.out.fits HQ3.out.rng HQ3.out.look).mono ?_; rintro e wd ⟨rfl, hdd⟩; have CD : Hid (Hj [(g, jn c 0 64)] _ wd c M3) := CC.out.still hdd; clear hdd))
      go_roundw
      case rel => exact ⟨i + 1, M2, T2, by go_num, by omega, (HH5.out.still ((Kept.refl _ _).alloc _)).still CD.out.1, HQ2.out.1, HQ2.out.2.1, HQ2.out.2.2.more (by omega)⟩
      case measure => simp [intOf]; omega
    · have i1 : ¬ (i : Int) < 1 + (k : Int) := by omega
      have HH : Hid (Kept [] w1 wr) := hH.1
      clear HR hH hq hf hn
      go_wp2_with (go_at_call 10; refine (u_num _ _).mono ?_; rintro e w' ⟨rfl, rfl⟩)
      go_ret
      exact ⟨rfl, H0.out.trans HH.out (by simp)⟩

set_option maxRecDepth 100000 in
set_option maxHeartbeats 4000000 in
theorem mainB (s : ByteArray) (x : Int) (w : World) (hl : ¬ 60 < s.size) (hss : s.size ≤ 140737488351232) :
    Calls Try.prog 8 #[.string s, .int .i64 x] w fun e w' => e = .returned (.bool true) ∧ Kept [] w w' := by
  obtain ⟨t, ht⟩ : ∃ t, t = s := ⟨_, rfl⟩
  have ht1 : t.size ≤ 60 := by rw [ht]; omega
  have hroom : Hid (roomOf 64 = 64) := room_of (by omega) (by omega)
  have hfit : Fits (fresh 64).seen 0 64 := fresh_fits (by omega) (by omega) (by omega) (by omega) (by omega)
  obtain ⟨q1, f1⟩ := quiet_repl (fresh_clean 64) (fresh_rng 64) hfit rfl (s := ⟨#[]⟩) (Nat.zero_le _)
  have n1 := (Cnt.fresh 64).repl (X := (fresh 64).seen) (f := 0) (n := 64) (s := ⟨#[]⟩) (Nat.zero_le _)
  obtain ⟨M1, hM1⟩ : ∃ M1, M1 = (fresh 64).run (replOps (fresh 64).seen 0 64 ⟨#[]⟩) := ⟨_, rfl⟩
  rw [← hM1] at q1 f1 n1
  obtain ⟨k, hk, hk2⟩ : ∃ k : Nat, bits .and .i64 x 31 = (k : Int) ∧ k < 32 := ⟨(x % 32).toNat, by rw [i64_and31]; omega, by omega⟩
  have HQ1 : Hid (Quiet M1 0 64 ⟨#[]⟩ ∧ M1.fuse = none ∧ Cnt M1 _) := ⟨q1, f1, n1⟩
  clear q1 f1 n1
  go_enter Try.func8, Try.ntmps8
  go_wp2_with fail
  refine (awake_any w).mono ?_
  rintro e w1 ⟨rfl, hk0⟩
  have H0 : Hid (Kept [] w w1) := hk0
  clear hk0
  go_wp2_with fail
  refine (u_new w1 64 (by omega) (by omega) (by omega)).mono ?_
  rintro e w2 ⟨b, rfl, hm⟩
  have H1 : Hid (Hj [] w1 w2 b (fresh 64)) := hm.hj
  clear hm
  go_wp2_with fail
  refine (j_new H1.out (f := 0) (n := 64) hfit (by simp [fresh]) (by simp [fresh]) (by simp [fresh]) (by simp [fresh])).mono ?_
  rintro e w3 ⟨j, rfl, -, h3⟩
  rw [← hM1] at h3
  have H3 : Hid (Hj [(j, jn b 0 64)] w1 w3 b M1) := h3
  clear h3 hM1 H1 hfit
  go_wp2_with fail
  subst ht
  go_loopw [10] (fun i wr => ∃ (i' : Nat) (M : Pm) (T : ByteArray), i = .int .i64 (i' : Int) ∧ i' ≤ 1 + k ∧ Hid (Hj [(j, jn b 0 64)] w1 wr b M ∧ Quiet M 0 64 T ∧ M.fuse = none ∧ Cnt M (20000 * (i' : Int) + 20000))) (fun i _ => (1 + k - intOf i).toNat)
  case atStart => exact ⟨0, M1, ⟨#[]⟩, rfl, by omega, H3.out, HQ1.out.1, HQ1.out.2.1, HQ1.out.2.2.more (by omega)⟩
  case round =>
    obtain ⟨i, M, T, rfl, hi, HR⟩ := hrel
    obtain ⟨hH, hq, hf, hn⟩ := HR.out
    by_cases hlt : i < 1 + k
    · have i1 : (i : Int) < 1 + (k : Int) := by omega
      have hd := digs_length i
      have hds : (strOfNums (digs i)).size ≤ 3 := by rw [strOfNums_size]; exact hd.2
      have hTs : (t ++ strOfNums (digs i)).size ≤ roomOf 64 := by rw [ByteArray.size_append, hroom.out]; omega
      obtain ⟨q2, f2⟩ := quiet_repl hq.clean hq.rng hq.fits hf hTs
      have n2 := hn.repl (X := M.seen) (f := 0) (n := 64) hTs
      have hdec := fun W => f_decimal i (i : Int) rfl W (by omega)
      generalize strOfNums (digs i) = d at *
      obtain ⟨M2, hM2⟩ : ∃ M2, M2 = M.run (replOps M.seen 0 64 (t ++ d)) := ⟨_, rfl⟩
      have hwr : ∀ W, Hj [(j, jn b 0 64)] w1 W b M → Calls Try.prog 20 #[.pointer (some ⟨j, 0, none⟩), .string (t ++ d)] W fun e w' => e = .returned (.int .i64 0) ∧ Hj [(j, jn b 0 64)] w1 w' b M2 := by
        intro W hW
        rw [hM2]
        exact j_write hW (f := 0) (n := 64) (by simp) hq.fits (t ++ d) hTs hn.s0 (by have := hn.s1; omega) hn.t0 (by have := hn.t1; omega)
      rw [← hM2] at q2 f2 n2
      have HW : Hid (∀ W, Hj [(j, jn b 0 64)] w1 W b M → Calls Try.prog 20 #[.pointer (some ⟨j, 0, none⟩), .string (t ++ d)] W fun e w' => e = .returned (.int .i64 0) ∧ Hj [(j, jn b 0 64)] w1 w' b M2) := hwr
      have hwf : ∀ W, Hj [(j, jn b 0 64)] w1 W b M2 → Calls Try.prog 20 #[.pointer (some ⟨j, 0, none⟩), .string (zt 65)] W fun e w' => e = .returned (.int .i64 2101) ∧ w' = W :=
        fun W hW => j_write_full hW (f := 0) (n := 64) (by simp) q2.fits (zt 65) (by rw [hroom.out, zt_size]; omega)
      have HF : Hid (∀ W, Hj [(j, jn b 0 64)] w1 W b M2 → Calls Try.prog 20 #[.pointer (some ⟨j, 0, none⟩), .string (zt 65)] W fun e w' => e = .returned (.int .i64 2101) ∧ w' = W) := hwf
      have HD : Hid (∀ W, Calls Try.prog 25 #[.int .i64 (i : Int)] W fun e w' => e = .returned (.string d) ∧ Kept [] W w') := hdec
      obtain ⟨q3, -⟩ := q2.crash (Or.inl f2) (-1)
      obtain ⟨M3, hM3⟩ : ∃ M3, M3 = M2.crash (-1) := ⟨_, rfl⟩
      rw [← hM3] at q3
      have hrb : ∀ W, Hj [(j, jn b 0 64)] w1 W b M2 → Calls Try.prog 22 #[.pointer (some ⟨j, 0, none⟩)] W fun e w' => e = .returned (.string (t ++ d)) ∧ Kept [] W w' :=
        fun W hW => j_read hW (j := j) (f := 0) (n := 64) (by simp) q2.fits q2.rng q2.look
      have HRB : Hid (∀ W, Hj [(j, jn b 0 64)] w1 W b M2 → Calls Try.prog 22 #[.pointer (some ⟨j, 0, none⟩)] W fun e w' => e = .returned (.string (t ++ d)) ∧ Kept [] W w') := hrb
      have HQ2 : Hid (Quiet M2 0 64 (t ++ d) ∧ M2.fuse = none ∧ Cnt M2 _) := ⟨q2, f2, n2⟩
      have HQ3 : Hid (Quiet M3 0 64 (t ++ d)) := q3
      have HH : Hid (Hj [(j, jn b 0 64)] w1 wr b M) := hH
      have hcat : t.size + d.size ≤ 1000 := by omega
      clear hrb hdec hwf hwr q2 f2 n2 q3 hq hf hn hH HR hds hd hTs hM2
      generalize hT2 : t ++ d = T2 at *
      obtain ⟨A, hmk, hcv⟩ : ∃ A : Array Value, (∀ w : World, (Instr.makeSlice 46 (.int .i64 65) (.int .i64 65)).run Try.prog w = .ok (.slice (some ⟨w.heap.size, 0, none⟩) 65 65) (w.alloc (.cells A 5))) ∧ ∀ w : World, (convert 46 9 (.slice (some ⟨w.heap.size, 0, none⟩) 65 65)).run Try.prog (w.alloc (.cells A 5)) = .ok (.string (zt 65)) (w.alloc (.cells A 5)) :=
        ⟨_, fun w => make_zt 65 (by omega) w, fun w => conv_zt 65 w⟩
      have tk1 : True := trivial
      have tk2 : True := trivial
      have tk3 : True := trivial
      have tk4 : True := trivial
      go_wp2_with (first
        | (go_at_call 25; clear tk3; refine Calls.mono (HD.out _) ?_; rintro e w4 ⟨rfl, h4⟩; have HH4 : Hid (Hj [(j, jn b 0 64)] w1 w4 b M) := HH.out.still h4; clear h4)
        | (go_at_call 20; clear tk4; refine Calls.mono (HW.out _ HH4.out) ?_; rintro e w5 ⟨rfl, h5⟩; have HH5 : Hid (Hj [(j, jn b 0 64)] w1 w5 b M2) := h5; clear h5)
        | (go_at_call 20; refine Calls.mono (HF.out _ (HH5.out.still ((Kept.refl _ _).alloc _))) ?_; rintro e w6 ⟨rfl, hw⟩; have hw3 := hw; subst hw3; clear hw)
        | (go_at_call 23; refine (h_copy (HH5.out.still ((Kept.refl _ _).alloc _))).mono ?_; rintro e w7 ⟨c, rfl, h7, hc, -⟩; have HH7 : Hid (Hj [(j, jn b 0 64)] w1 w7 b M2) := h7; have C7 : Hid (Hj [] _ w7 c M2) := hc.hj; clear h7 hc)
        | (go_at_call 21; refine (h_crash C7.out (-1) (by decide)).mono ?_; rintro e w8 ⟨rfl, h8⟩; rw [← hM3] at h8; have C8 : Hid (Hj [] _ w8 c M3) := h8; clear h8)
        | (go_at_call 19; refine (j_open C8.out (f := 0) (n := 64) HQ3.out.fits HQ3.out.rng HQ3.out.look).mono ?_; rintro e w9 ⟨g, rfl, -, h9, -⟩; have C9 : Hid (Hj [(g, jn c 0 64)] _ w9 c M3) := h9; clear h9)
        | (go_at_call 10; refine (u_num _ _).mono ?_; rintro e w' ⟨rfl, rfl⟩)
        | (go_at_call 22; clear tk1; refine (j_read C9.out (j := g) (f := 0) (n := 64) (by simp) HQ3.out.fits HQ3.out.rng HQ3.out.look).mono ?_; rintro e wa ⟨rfl, ha⟩; have CA : Hid (Hj [(g, jn c 0 64)] _ wa c M3) := C9.out.still ha; clear ha)
        | (go_at_call 25; refine Calls.mono (HD.out _) ?_; rintro e wb ⟨rfl, hb⟩; have CB : Hid (Hj [(g, jn c 0 64)] _ wb c M3) := CA.out.still hb; clear hb)
        | (go_at_call 22; clear tk2; refine Calls.mono (HRB.out _ ((HH5.out.still ((Kept.refl _ _).alloc _)).still CB.out.1)) ?_; rintro e wc ⟨rfl, hcc⟩; have CC : Hid (Hj [(g, jn c 0 64)] _ wc c M3) := CB.out.still hcc; clear hcc)
        | (go_at_call 22; refine (j_read CC.out (j := g) (f := 0) (n := 64) (by simp) HQ3.out.fits HQ3.out.rng HQ3.out.look).mono ?_; rintro e wd ⟨rfl, hdd⟩; have CD : Hid (Hj [(g, jn c 0 64)] _ wd c M3) := CC.out.still hdd; clear hdd))
      go_roundw
      case rel => exact ⟨i + 1, M2, T2, by go_num, by omega, (HH5.out.still ((Kept.refl _ _).alloc _)).still CD.out.1, HQ2.out.1, HQ2.out.2.1, HQ2.out.2.2.more (by omega)⟩
      case measure => simp [intOf]; omega
    · have i1 : ¬ (i : Int) < 1 + (k : Int) := by omega
      have HH : Hid (Kept [] w1 wr) := hH.1
      clear HR hH hq hf hn
      go_wp2_with (go_at_call 10; refine (u_num _ _).mono ?_; rintro e w' ⟨rfl, rfl⟩)
      go_ret
      exact ⟨rfl, H0.out.trans HH.out (by simp)⟩

theorem walk (s : ByteArray) (x : Int) (w : World) (hs : s.size ≤ 140737488351232) (_ : (Lit.int .i64 x).wf = true) :
    Calls Try.prog 8 #[.string s, .int .i64 x] w fun e w' => e = .returned (.bool true) ∧ Below w.heap.size w w' := by
  have key : Calls Try.prog 8 #[.string s, .int .i64 x] w fun e w' => e = .returned (.bool true) ∧ Kept [] w w' := by
    by_cases hl : 60 < s.size
    · exact mainA s x w hl hs
    · exact mainB s x w hl hs
  exact key.mono fun e w' h => ⟨h.1, bel h.2⟩


set_option maxRecDepth 100000 in
theorem lifted (os : Os) (started : os.Started) (H : Type) (enc : TypeId × Value → H) :
    ReturnsInHanded {} Try.checked os 8 .any (Rows.journalKeepsSpec.pre6 enc Try.prog Try.f8 Rows.journalKeepsRow.domain false) (Rows.journalKeepsSpec.post enc Try.prog Try.f8 false true false false) := by
  refine returnsInHanded_of_change_sized (C := Try.checked) own started (by kernel_rfl) Try.func8
    (ChangeSpec.witness6 (enc := enc) (C := Try.checked) false ⟨#[], #[.string ⟨#[]⟩, .int .i64 0], []⟩ 8 (by kernel_rfl) (by kernel_rfl) (by kernel_rfl) (by kernel_rfl)) ?_
  intro W base args ds gs before hval0 hW hcnd hsz0 _
  have hval : ∀ (j : Nat) t v, Try.f8.params[j]? = some t → args[j]? = some v → Value.okWide Try.prog W .any base t v := hval0
  have hW' := hW
  obtain ⟨p, q, hA0, hV, rfl, hfz, hnd⟩ := hW
  have hA : DataW.TrodAll enc Try.prog W 0 (fun _ => true) true Try.f8.params.toList args.toList ds p := hA0
  have hsz : (DataW.weightsEach Try.prog (Try.f8.params.toList ++ Rows.journalKeepsSpec.plain.varTypes Try.prog) (ds ++ gs)).all (· ≤ reachBytes) = true := hsz0
  rw [Try.params8] at hA hval hsz
  obtain ⟨v0, vs0, d0, ds0, p0, q0, hargs, rfl, rfl, h0, r0⟩ := trodAll_cons hA
  obtain ⟨v1, vs1, d1, ds1, p1, q1, rfl, rfl, rfl, h1, r1⟩ := trodAll_cons r0
  obtain ⟨rfl, rfl, rfl⟩ := trodAll_nil r1
  obtain rfl : args = #[v0, v1] := by cases args; simp_all
  obtain ⟨rfl, rfl⟩ := trodVars_none hV
  obtain ⟨a0, rfl, rfl, rfl, m0⟩ := open_string Try.underlying9 (hval 0 9 v0 rfl rfl) h0
  have w0 : a0.size ≤ 140737488351232 := by have := sized_string hsz (j := 0) rfl rfl; simpa [reachBytes] using this
  obtain ⟨a1, rfl, rfl, rfl, w1⟩ := open_int Try.underlying3 (hval 1 3 v1 rfl rfl) h1
  clear hA0 hval0
  refine (walk a0 a1 W w0 w1).mono fun e W' ⟨he, bel⟩ => ?_
  subst he
  simp only [List.append_nil] at hW'
  exact ⟨_, rfl, _, _, _, [], [], [], hW', (trodAll_cons_mk (shut_bool Try.underlying4 _) trodAll_mk0), (trodAll_cons_mk (shut_string Try.underlying9 m0) (trodAll_cons_mk (shut_int Try.underlying3 w1) trodAll_mk0)), rfl, bel.frame _, fun h => by cases h⟩

theorem over : Rows.journalKeepsRow.holds Try.pinned (OpenSpec.ofChange Rows.journalKeepsSpec) :=
  OpenClaim.holds_of_wide 8 Try.f8 rfl rfl rfl rfl rfl rfl rfl ⟨rfl, rfl, rfl, rfl, rfl⟩ rfl rfl rfl rfl rfl (by kernel_rfl) Try.func8 (by kernel_rfl)
    (of_decide_eq_true (by kernel_rfl)) (by unfold Func.isWrapper; first | (rw [if_pos (by decide +kernel)]; kernel_rfl) | (rw [if_neg (by decide +kernel)]; exact ⟨rfl, rfl⟩))
    (fun os started H enc _ => lifted os started H enc)

end Go.Proofs.Ytpaefllhngbimaa.journalKeeps

namespace Go.Proofs.Ytpaefllhngbimaa
theorem journalKeeps_holds : Rows.JournalKeepsSaid := journalKeeps.over
#print axioms journalKeeps_holds
end Go.Proofs.Ytpaefllhngbimaa
