/-
  concourselaw21.JournalTwo returns true for all texts and every keep: two journals on one memory do not know of one another. No condition.
-/
import Derived.Test.YtpaefllhngbimaaRows
import Derived.Test.YtpaefllhngbimaaJe
import Derived.WalkKit
import Derived.ProofKit
import Derived.OpenShut
import Derived.ShutString
import Derived.ChangeOld
import Derived.Below
import Derived.Deep.Slices
import Derived.SizedLaws
import Derived.Deep.RegionHeld3
namespace Go.Proofs.Ytpaefllhngbimaa.journalTwo
open Go.ChangeShapes Go.WideShapes Go.ChangeAt Go.RowKit
open Go.ChangeMaps (open_string shut_string)
set_option linter.unusedVariables false

theorem own : ownKnob Try.prog.godebug = none := by kernel_rfl
theorem laidOut : laidOutB Try.prog = true := by kernel_rfl

def IsActs (w : World) (a : Option Addr) (len : Nat) : Prop := ∃ ss, IsStrs w a len ss

theorem acts_at {H : Type} {enc : TypeId × Value → H} {w : World} {base : Nat} {spare : Nat → Bool} {held : Bool} {fuel : Nat} {a : Option Addr} {len cap : Nat} {x : DataW H × List MemPlace}
    (h : DataW.trod enc Try.prog w base spare held fuel 48 [.slice a len cap] = some x) (hw : ∀ n ∈ x.1.weights Try.prog 48, n ≤ reachBytes) : IsActs w a len := strs_at h hw

set_option maxRecDepth 100000 in
set_option maxHeartbeats 8000000 in
theorem main (a0 : Option Addr) (len0 cap0 : Nat) (ss : Nat → ByteArray) (kp : Int) (w : World) (hkp : kp ≤ 9223372036854775807) (hss : IsStrs w a0 len0 ss) :
    Calls Try.prog 7 #[.slice a0 len0 cap0, .int .i64 kp] w fun e w' => e = .returned (.bool true) ∧ Kept [] w w' := by
  have hroom : Hid (roomOf 128 = 192) := room_of (by omega) (by omega)
  have hfit : Fits (fresh 256).seen 0 128 := fresh_fits (by omega) (by omega) (by omega) (by omega) (by omega)
  obtain ⟨q1, f1⟩ := quiet_repl (fresh_clean 256) (fresh_rng 256) hfit rfl (s := ⟨#[]⟩) (Nat.zero_le _)
  have n1 := (Cnt.fresh 256).repl (X := (fresh 256).seen) (f := 0) (n := 128) (s := ⟨#[]⟩) (Nat.zero_le _)
  have hl1 : ((fresh 256).run (replOps (fresh 256).seen 0 128 ⟨#[]⟩)).seen.length = 256 := by rw [run_seen, seenBy_length]; simp [fresh]
  obtain ⟨M1, hM1⟩ : ∃ M1, M1 = (fresh 256).run (replOps (fresh 256).seen 0 128 ⟨#[]⟩) := ⟨_, rfl⟩
  rw [← hM1] at q1 f1 n1 hl1
  have hfit2 : Fits M1.seen 128 128 := ⟨by omega, by omega, by omega, by omega, by omega⟩
  obtain ⟨q2, f2⟩ := quiet_repl q1.clean q1.rng hfit2 f1 (s := ⟨#[]⟩) (Nat.zero_le _)
  have q3 := quiet_beside q1.clean q1.rng hfit2 q1 f1 (s := ⟨#[]⟩) (Nat.zero_le _) (by omega)
  have n2 := n1.repl (X := M1.seen) (f := 128) (n := 128) (s := ⟨#[]⟩) (Nat.zero_le _)
  obtain ⟨M2, hM2⟩ : ∃ M2, M2 = M1.run (replOps M1.seen 128 128 ⟨#[]⟩) := ⟨_, rfl⟩
  rw [← hM2] at q2 f2 n2 q3
  have HN1 : Hid (Cnt M1 _) := n1
  have HF2 : Hid (Fits M1.seen 128 128) := hfit2
  have HQ2 : Hid (Quiet M2 0 128 ⟨#[]⟩ ∧ Quiet M2 128 128 ⟨#[]⟩ ∧ M2.fuse = none ∧ Cnt M2 _) := ⟨q3, q2, f2, n2⟩
  have hlen : len0 ≤ 9223372036854775807 := hss.1
  have HSS : Hid (∀ i, i < len0 → (ss i).size ≤ 140737488351232 ∧ ∃ bb off, a0 = some ⟨bb, off, none⟩ ∧ w.cell? ⟨bb, off + i, none⟩ = some (.string (ss i))) := hss.2
  clear q1 q2 q3 f1 f2 n1 n2 hfit2 hl1 hss
  go_enter Try.func7, Try.ntmps7
  go_wp2_with fail
  refine (awake_any w).mono ?_
  rintro e w1 ⟨rfl, hk0⟩
  have H0 : Hid (Kept [] w w1) := hk0
  clear hk0
  go_wp2_with fail
  refine (u_new w1 256 (by omega) (by omega) (by omega)).mono ?_
  rintro e w2 ⟨b, rfl, hm⟩
  have H1 : Hid (Hj [] w1 w2 b (fresh 256)) := hm.hj
  clear hm
  go_wp2_with fail
  refine (j_new H1.out (f := 0) (n := 128) hfit (by simp [fresh]) (by simp [fresh]) (by simp [fresh]) (by simp [fresh])).mono ?_
  rintro e w3 ⟨x, rfl, -, h3⟩
  rw [← hM1] at h3
  have H3 : Hid (Hj [(x, jn b 0 128)] w1 w3 b M1) := h3
  clear h3 hM1 H1 hfit
  go_wp2_with fail
  refine (j_new H3.out (f := 128) (n := 128) HF2.out HN1.out.s0 (by have := HN1.out.s1; omega) HN1.out.t0 (by have := HN1.out.t1; omega)).mono ?_
  rintro e w4 ⟨y, rfl, -, h4⟩
  rw [← hM2] at h4
  have H4 : Hid (Hj [(y, jn b 128 128), (x, jn b 0 128)] w1 w4 b M2) := h4
  clear h4 hM2 H3
  go_wp2_with (go_at_call 10; refine (u_num _ _).mono ?_; rintro e w' ⟨rfl, rfl⟩)
  have h5 := H4.out.make (.cells #[.string ⟨#[]⟩, .string ⟨#[]⟩] 9)
  have hLS : Hid (∀ z ∈ [(y, jn b 128 128), (x, jn b 0 128)], z.1 ≠ w4.heap.size) := fun z hz => by have := lt_of_heap (H4.out.at hz); omega
  have hL0 : w1.heap.size ≤ w4.heap.size := H4.out.1.size
  obtain ⟨L, hL⟩ : ∃ L, L = w4.heap.size := ⟨_, rfl⟩
  obtain ⟨W5, hW5⟩ : ∃ W5, W5 = w4.alloc (.cells #[.string ⟨#[]⟩, .string ⟨#[]⟩] 9) := ⟨_, rfl⟩
  rw [← hL] at h5 hLS hL0
  rw [← hW5] at h5
  have H5 : Hid (Hj [(L, .cells #[.string ⟨#[]⟩, .string ⟨#[]⟩] 9), (y, jn b 128 128), (x, jn b 0 128)] w1 W5 b M2) := h5
  clear h5 H4
  rw [← hL, ← hW5]
  clear hL hW5
  go_loopw [12] (fun i wr => ∃ (n : Nat) (A B : ByteArray) (M : Pm), i = .int .i64 (n : Int) ∧ n ≤ 20 ∧ n ≤ len0 ∧ Hid (Hj [(L, .cells #[.string A, .string B] 9), (y, jn b 128 128), (x, jn b 0 128)] w1 wr b M ∧ Quiet M 0 128 A ∧ Quiet M 128 128 B ∧ M.fuse = none ∧ Cnt M (40000 + 20000 * (n : Int)))) (fun i _ => (20 - intOf i).toNat)
  case atStart => exact ⟨0, _, _, M2, rfl, by omega, by omega, H5.out, HQ2.out.1, HQ2.out.2.1, HQ2.out.2.2.1, HQ2.out.2.2.2.more (by omega)⟩
  case round =>
    obtain ⟨n, A, B, M, rfl, hn20, hnl, HR⟩ := hrel
    obtain ⟨hH, hqx, hqy, hf, hn⟩ := HR.out
    by_cases hl1 : n < len0
    · by_cases hl2 : n < 20
      · have i1 : (n : Int) < (len0 : Int) := by omega
        have i2 : (n : Int) < 20 := by omega
        obtain ⟨hsz, bb, off, rfl, hc⟩ := HSS.out n hl1
        have hc2 : wr.cell? ⟨bb, off + n, none⟩ = some (.string (ss n)) := hH.1.cell (H0.out.cell hc (by simp)) (by simp)
        clear hc
        have hpn : n % 2 = 0 ∨ n % 2 = 1 := by omega
        by_cases hbig : 100 < (ss n).size
        · rcases hpn with hpn | hpn
          · obtain ⟨T, hT⟩ : ∃ T, T = (ss n).extract 0 100 := ⟨_, rfl⟩
            have hT1 : T.size ≤ 100 := by rw [hT, ByteArray.size_extract]; omega
            have hT2 := hT.symm
            have hTr : T.size ≤ roomOf 128 := by rw [hroom.out]; omega
            obtain ⟨q2, f2⟩ := quiet_repl hqx.clean hqx.rng hqx.fits hf hTr
            have q3 := quiet_beside hqx.clean hqx.rng hqx.fits hqy hf hTr (by omega)
            have n2 := hn.repl (X := M.seen) (f := 0) (n := 128) hTr
            obtain ⟨M2, hM2⟩ : ∃ M2, M2 = M.run (replOps M.seen 0 128 T) := ⟨_, rfl⟩
            have hwr := j_write hH (j := x) (f := 0) (n := 128) (by simp) hqx.fits T hTr hn.s0 (by have := hn.s1; omega) hn.t0 (by have := hn.t1; omega)
            rw [← hM2] at q2 f2 q3 n2 hwr
            have HW : Hid (Calls Try.prog 20 #[.pointer (some ⟨x, 0, none⟩), .string T] wr fun e w' => e = .returned (.int .i64 0) ∧ Hj [(L, .cells #[.string A, .string B] 9), (y, jn b 128 128), (x, jn b 0 128)] w1 w' b M2) := hwr
            have HQ : Hid (Quiet M2 0 128 T ∧ Quiet M2 128 128 B ∧ M2.fuse = none ∧ Cnt M2 _) := ⟨q2, q3, f2, n2⟩
            have hpar : bits .and .i64 (n : Int) 1 = 0 := by rw [i64_and1]; omega
            clear q2 q3 f2 n2 hwr hM2 hqx hqy hf hn hH HR hpn
            clear hT
            go_wp2_with (first
              | (go_at_call 20; refine Calls.mono HW.out ?_; rintro e w4 ⟨rfl, h4⟩; have H4 : Hid (Hj [(L, .cells #[.string A, .string B] 9), (y, jn b 128 128), (x, jn b 0 128)] w1 w4 b M2) := h4; have hL4 : w4.heap[L]? = some (.cells #[.string A, .string B] 9 (0, 0)) := h4.at (x := (L, .cells #[.string A, .string B] 9)) (by simp); have gL0 : w4.cell? ⟨L, 0, none⟩ = some (.string A) := by { rw [cell_of_row _ _ _ _ _ _ hL4]; rfl }; have gL1 : w4.cell? ⟨L, 1, none⟩ = some (.string B) := by { rw [cell_of_row _ _ _ _ _ _ hL4]; rfl }; have fL0 : w4.frozen? ⟨L, 0, none⟩ = false := Lib.frozen_of_heap hL4 0; have fL1 : w4.frozen? ⟨L, 1, none⟩ = false := Lib.frozen_of_heap hL4 1; clear h4 hL4))
            go_roundw
            case rel => exact ⟨n + 1, T, B, M2, by go_num, by omega, by omega, H4.out.putAt (by omega) hLS.out, HQ.out.1, HQ.out.2.1, HQ.out.2.2.1, HQ.out.2.2.2.more (by omega)⟩
            case measure => simp [intOf]; omega

          · obtain ⟨T, hT⟩ : ∃ T, T = (ss n).extract 0 100 := ⟨_, rfl⟩
            have hT1 : T.size ≤ 100 := by rw [hT, ByteArray.size_extract]; omega
            have hT2 := hT.symm
            have hTr : T.size ≤ roomOf 128 := by rw [hroom.out]; omega
            obtain ⟨q2, f2⟩ := quiet_repl hqy.clean hqy.rng hqy.fits hf hTr
            have q3 := quiet_beside hqy.clean hqy.rng hqy.fits hqx hf hTr (by omega)
            have n2 := hn.repl (X := M.seen) (f := 128) (n := 128) hTr
            obtain ⟨M2, hM2⟩ : ∃ M2, M2 = M.run (replOps M.seen 128 128 T) := ⟨_, rfl⟩
            have hwr := j_write hH (j := y) (f := 128) (n := 128) (by simp) hqy.fits T hTr hn.s0 (by have := hn.s1; omega) hn.t0 (by have := hn.t1; omega)
            rw [← hM2] at q2 f2 q3 n2 hwr
            have HW : Hid (Calls Try.prog 20 #[.pointer (some ⟨y, 0, none⟩), .string T] wr fun e w' => e = .returned (.int .i64 0) ∧ Hj [(L, .cells #[.string A, .string B] 9), (y, jn b 128 128), (x, jn b 0 128)] w1 w' b M2) := hwr
            have HQ : Hid (Quiet M2 0 128 A ∧ Quiet M2 128 128 T ∧ M2.fuse = none ∧ Cnt M2 _) := ⟨q3, q2, f2, n2⟩
            have hpar : bits .and .i64 (n : Int) 1 = 1 := by rw [i64_and1]; omega
            clear q2 q3 f2 n2 hwr hM2 hqx hqy hf hn hH HR hpn
            clear hT
            go_wp2_with (first
              | (go_at_call 20; refine Calls.mono HW.out ?_; rintro e w4 ⟨rfl, h4⟩; have H4 : Hid (Hj [(L, .cells #[.string A, .string B] 9), (y, jn b 128 128), (x, jn b 0 128)] w1 w4 b M2) := h4; have hL4 : w4.heap[L]? = some (.cells #[.string A, .string B] 9 (0, 0)) := h4.at (x := (L, .cells #[.string A, .string B] 9)) (by simp); have gL0 : w4.cell? ⟨L, 0, none⟩ = some (.string A) := by { rw [cell_of_row _ _ _ _ _ _ hL4]; rfl }; have gL1 : w4.cell? ⟨L, 1, none⟩ = some (.string B) := by { rw [cell_of_row _ _ _ _ _ _ hL4]; rfl }; have fL0 : w4.frozen? ⟨L, 0, none⟩ = false := Lib.frozen_of_heap hL4 0; have fL1 : w4.frozen? ⟨L, 1, none⟩ = false := Lib.frozen_of_heap hL4 1; clear h4 hL4))
            go_roundw
            case rel => exact ⟨n + 1, A, T, M2, by go_num, by omega, by omega, H4.out.putAt (by omega) hLS.out, HQ.out.1, HQ.out.2.1, HQ.out.2.2.1, HQ.out.2.2.2.more (by omega)⟩
            case measure => simp [intOf]; omega

        · rcases hpn with hpn | hpn
          · obtain ⟨T, hT⟩ : ∃ T, T = ss n := ⟨_, rfl⟩
            have hT1 : T.size ≤ 100 := by rw [hT]; omega
            have hTr : T.size ≤ roomOf 128 := by rw [hroom.out]; omega
            obtain ⟨q2, f2⟩ := quiet_repl hqx.clean hqx.rng hqx.fits hf hTr
            have q3 := quiet_beside hqx.clean hqx.rng hqx.fits hqy hf hTr (by omega)
            have n2 := hn.repl (X := M.seen) (f := 0) (n := 128) hTr
            obtain ⟨M2, hM2⟩ : ∃ M2, M2 = M.run (replOps M.seen 0 128 T) := ⟨_, rfl⟩
            have hwr := j_write hH (j := x) (f := 0) (n := 128) (by simp) hqx.fits T hTr hn.s0 (by have := hn.s1; omega) hn.t0 (by have := hn.t1; omega)
            rw [← hM2] at q2 f2 q3 n2 hwr
            have HW : Hid (Calls Try.prog 20 #[.pointer (some ⟨x, 0, none⟩), .string T] wr fun e w' => e = .returned (.int .i64 0) ∧ Hj [(L, .cells #[.string A, .string B] 9), (y, jn b 128 128), (x, jn b 0 128)] w1 w' b M2) := hwr
            have HQ : Hid (Quiet M2 0 128 T ∧ Quiet M2 128 128 B ∧ M2.fuse = none ∧ Cnt M2 _) := ⟨q2, q3, f2, n2⟩
            have hpar : bits .and .i64 (n : Int) 1 = 0 := by rw [i64_and1]; omega
            clear q2 q3 f2 n2 hwr hM2 hqx hqy hf hn hH HR hpn
            rw [← hT] at hc2 hbig hsz
            clear hT
            go_wp2_with (first
              | (go_at_call 20; refine Calls.mono HW.out ?_; rintro e w4 ⟨rfl, h4⟩; have H4 : Hid (Hj [(L, .cells #[.string A, .string B] 9), (y, jn b 128 128), (x, jn b 0 128)] w1 w4 b M2) := h4; have hL4 : w4.heap[L]? = some (.cells #[.string A, .string B] 9 (0, 0)) := h4.at (x := (L, .cells #[.string A, .string B] 9)) (by simp); have gL0 : w4.cell? ⟨L, 0, none⟩ = some (.string A) := by { rw [cell_of_row _ _ _ _ _ _ hL4]; rfl }; have gL1 : w4.cell? ⟨L, 1, none⟩ = some (.string B) := by { rw [cell_of_row _ _ _ _ _ _ hL4]; rfl }; have fL0 : w4.frozen? ⟨L, 0, none⟩ = false := Lib.frozen_of_heap hL4 0; have fL1 : w4.frozen? ⟨L, 1, none⟩ = false := Lib.frozen_of_heap hL4 1; clear h4 hL4))
            go_roundw
            case rel => exact ⟨n + 1, T, B, M2, by go_num, by omega, by omega, H4.out.putAt (by omega) hLS.out, HQ.out.1, HQ.out.2.1, HQ.out.2.2.1, HQ.out.2.2.2.more (by omega)⟩
            case measure => simp [intOf]; omega

          · obtain ⟨T, hT⟩ : ∃ T, T = ss n := ⟨_, rfl⟩
            have hT1 : T.size ≤ 100 := by rw [hT]; omega
            have hTr : T.size ≤ roomOf 128 := by rw [hroom.out]; omega
            obtain ⟨q2, f2⟩ := quiet_repl hqy.clean hqy.rng hqy.fits hf hTr
            have q3 := quiet_beside hqy.clean hqy.rng hqy.fits hqx hf hTr (by omega)
            have n2 := hn.repl (X := M.seen) (f := 128) (n := 128) hTr
            obtain ⟨M2, hM2⟩ : ∃ M2, M2 = M.run (replOps M.seen 128 128 T) := ⟨_, rfl⟩
            have hwr := j_write hH (j := y) (f := 128) (n := 128) (by simp) hqy.fits T hTr hn.s0 (by have := hn.s1; omega) hn.t0 (by have := hn.t1; omega)
            rw [← hM2] at q2 f2 q3 n2 hwr
            have HW : Hid (Calls Try.prog 20 #[.pointer (some ⟨y, 0, none⟩), .string T] wr fun e w' => e = .returned (.int .i64 0) ∧ Hj [(L, .cells #[.string A, .string B] 9), (y, jn b 128 128), (x, jn b 0 128)] w1 w' b M2) := hwr
            have HQ : Hid (Quiet M2 0 128 A ∧ Quiet M2 128 128 T ∧ M2.fuse = none ∧ Cnt M2 _) := ⟨q3, q2, f2, n2⟩
            have hpar : bits .and .i64 (n : Int) 1 = 1 := by rw [i64_and1]; omega
            clear q2 q3 f2 n2 hwr hM2 hqx hqy hf hn hH HR hpn
            rw [← hT] at hc2 hbig hsz
            clear hT
            go_wp2_with (first
              | (go_at_call 20; refine Calls.mono HW.out ?_; rintro e w4 ⟨rfl, h4⟩; have H4 : Hid (Hj [(L, .cells #[.string A, .string B] 9), (y, jn b 128 128), (x, jn b 0 128)] w1 w4 b M2) := h4; have hL4 : w4.heap[L]? = some (.cells #[.string A, .string B] 9 (0, 0)) := h4.at (x := (L, .cells #[.string A, .string B] 9)) (by simp); have gL0 : w4.cell? ⟨L, 0, none⟩ = some (.string A) := by { rw [cell_of_row _ _ _ _ _ _ hL4]; rfl }; have gL1 : w4.cell? ⟨L, 1, none⟩ = some (.string B) := by { rw [cell_of_row _ _ _ _ _ _ hL4]; rfl }; have fL0 : w4.frozen? ⟨L, 0, none⟩ = false := Lib.frozen_of_heap hL4 0; have fL1 : w4.frozen? ⟨L, 1, none⟩ = false := Lib.frozen_of_heap hL4 1; clear h4 hL4))
            go_roundw
            case rel => exact ⟨n + 1, A, T, M2, by go_num, by omega, by omega, H4.out.putAt (by omega) hLS.out, HQ.out.1, HQ.out.2.1, HQ.out.2.2.1, HQ.out.2.2.2.more (by omega)⟩
            case measure => simp [intOf]; omega

      · have i1 : (n : Int) < (len0 : Int) := by omega
        have i2 : ¬ (n : Int) < 20 := by omega
        have hH2 := hH
        obtain ⟨q3, -⟩ := hqx.crash (Or.inl hf) kp
        obtain ⟨q4, -⟩ := hqy.crash (Or.inl hf) kp
        have hcr := h_crash hH kp hkp
        obtain ⟨M3, hM3⟩ : ∃ M3, M3 = M.crash kp := ⟨_, rfl⟩
        rw [← hM3] at q3 q4 hcr
        have HQ3 : Hid (Quiet M3 0 128 A) := q3
        have HQ4 : Hid (Quiet M3 128 128 B) := q4
        have HCR : Hid (Calls Try.prog 21 #[.pointer (some ⟨b, 0, none⟩), .int .i64 kp] wr fun e w' => e = .returned (.int .i64 0) ∧ Hj [(L, .cells #[.string A, .string B] 9), (y, jn b 128 128), (x, jn b 0 128)] w1 w' b M3) := hcr
        clear q3 q4 hcr hM3 hqx hqy hf hn hH HR hH2
        go_wp2_with (go_at_call 21; refine Calls.mono HCR.out ?_; rintro e w5 ⟨rfl, h5⟩; have H5 : Hid (Hj [(L, .cells #[.string A, .string B] 9), (y, jn b 128 128), (x, jn b 0 128)] w1 w5 b M3) := h5; clear h5)
        refine (j_open H5.out (f := 0) (n := 128) HQ3.out.fits HQ3.out.rng HQ3.out.look).mono ?_
        rintro e w6 ⟨p, rfl, -, h6, -⟩
        have H6 : Hid (Hj ((p, jn b 0 128) :: [(L, .cells #[.string A, .string B] 9), (y, jn b 128 128), (x, jn b 0 128)]) w1 w6 b M3) := h6
        clear h6
        go_wp2_with fail
        refine (j_open H6.out (f := 128) (n := 128) HQ4.out.fits HQ4.out.rng HQ4.out.look).mono ?_
        rintro e w7 ⟨q, rfl, -, h7, -⟩
        have H7 : Hid (Hj ((q, jn b 128 128) :: (p, jn b 0 128) :: [(L, .cells #[.string A, .string B] 9), (y, jn b 128 128), (x, jn b 0 128)]) w1 w7 b M3) := h7
        have hL7 : ∀ W, Kept [] w7 W → Kept [] w7 W ∧ W.cell? ⟨L, 0, none⟩ = some (.string A) ∧ W.cell? ⟨L, 1, none⟩ = some (.string B) := fun W hW => by
          have e := (h7.still hW).at (x := (L, .cells #[.string A, .string B] 9)) (by simp)
          exact ⟨hW, by rw [cell_of_row _ _ _ _ _ _ e]; rfl, by rw [cell_of_row _ _ _ _ _ _ e]; rfl⟩
        have HP : Hid (∀ W, Kept [] w7 W → Calls Try.prog 22 #[.pointer (some ⟨p, 0, none⟩)] W fun e w' => e = .returned (.string A) ∧ Kept [] W w') := fun W hW => j_read (h7.still hW) (j := p) (f := 0) (n := 128) (by simp) HQ3.out.fits HQ3.out.rng HQ3.out.look
        have HQq : Hid (∀ W, Kept [] w7 W → Calls Try.prog 22 #[.pointer (some ⟨q, 0, none⟩)] W fun e w' => e = .returned (.string B) ∧ Kept [] W w') := fun W hW => j_read (h7.still hW) (j := q) (f := 128) (n := 128) (by simp) HQ4.out.fits HQ4.out.rng HQ4.out.look
        have HL7 : Hid (∀ W, Kept [] w7 W → Kept [] w7 W ∧ W.cell? ⟨L, 0, none⟩ = some (.string A) ∧ W.cell? ⟨L, 1, none⟩ = some (.string B)) := hL7
        have hKd := hL7 w7.drew (Kept.refl _ _).drew
        have HH : Hid (Kept [] w1 w7) := h7.1
        clear h7 hL7 H7 H6 H5 HCR
        go_wp2_with fail
        go_region_held3 (fun w' => Kept [] w7 w' ∧ w'.cell? ⟨L, 0, none⟩ = some (.string A) ∧ w'.cell? ⟨L, 1, none⟩ = some (.string B)) (first | exact z | exact hKd | go_keep)
          (first
            | (go_at_call 10; refine (u_num _ _).mono ?_; rintro e w' ⟨rfl, rfl⟩)
            | (go_at_call_of 22 (Value.pointer (some ⟨p, 0, none⟩)); refine Calls.mono (HP.out _ (And.left (by assumption))) ?_; rintro e w8 ⟨rfl, k8⟩; have z := HL7.out w8 (Kept.trans (And.left (by assumption)) k8 (by simp)); clear k8)
            | (go_at_call_of 22 (Value.pointer (some ⟨q, 0, none⟩)); refine Calls.mono (HQq.out _ (And.left (by assumption))) ?_; rintro e w9 ⟨rfl, k9⟩; have z := HL7.out w9 (Kept.trans (And.left (by assumption)) k9 (by simp)); clear k9))
        go_wp2_with fail
        go_ret
        exact ⟨rfl, H0.out.trans (HH.out.trans z.1 (by simp)) (by simp)⟩

    · have i1 : ¬ (n : Int) < (len0 : Int) := by omega
      have hH2 := hH
      obtain ⟨q3, -⟩ := hqx.crash (Or.inl hf) kp
      obtain ⟨q4, -⟩ := hqy.crash (Or.inl hf) kp
      have hcr := h_crash hH kp hkp
      obtain ⟨M3, hM3⟩ : ∃ M3, M3 = M.crash kp := ⟨_, rfl⟩
      rw [← hM3] at q3 q4 hcr
      have HQ3 : Hid (Quiet M3 0 128 A) := q3
      have HQ4 : Hid (Quiet M3 128 128 B) := q4
      have HCR : Hid (Calls Try.prog 21 #[.pointer (some ⟨b, 0, none⟩), .int .i64 kp] wr fun e w' => e = .returned (.int .i64 0) ∧ Hj [(L, .cells #[.string A, .string B] 9), (y, jn b 128 128), (x, jn b 0 128)] w1 w' b M3) := hcr
      clear q3 q4 hcr hM3 hqx hqy hf hn hH HR hH2
      go_wp2_with (go_at_call 21; refine Calls.mono HCR.out ?_; rintro e w5 ⟨rfl, h5⟩; have H5 : Hid (Hj [(L, .cells #[.string A, .string B] 9), (y, jn b 128 128), (x, jn b 0 128)] w1 w5 b M3) := h5; clear h5)
      refine (j_open H5.out (f := 0) (n := 128) HQ3.out.fits HQ3.out.rng HQ3.out.look).mono ?_
      rintro e w6 ⟨p, rfl, -, h6, -⟩
      have H6 : Hid (Hj ((p, jn b 0 128) :: [(L, .cells #[.string A, .string B] 9), (y, jn b 128 128), (x, jn b 0 128)]) w1 w6 b M3) := h6
      clear h6
      go_wp2_with fail
      refine (j_open H6.out (f := 128) (n := 128) HQ4.out.fits HQ4.out.rng HQ4.out.look).mono ?_
      rintro e w7 ⟨q, rfl, -, h7, -⟩
      have H7 : Hid (Hj ((q, jn b 128 128) :: (p, jn b 0 128) :: [(L, .cells #[.string A, .string B] 9), (y, jn b 128 128), (x, jn b 0 128)]) w1 w7 b M3) := h7
      have hL7 : ∀ W, Kept [] w7 W → Kept [] w7 W ∧ W.cell? ⟨L, 0, none⟩ = some (.string A) ∧ W.cell? ⟨L, 1, none⟩ = some (.string B) := fun W hW => by
        have e := (h7.still hW).at (x := (L, .cells #[.string A, .string B] 9)) (by simp)
        exact ⟨hW, by rw [cell_of_row _ _ _ _ _ _ e]; rfl, by rw [cell_of_row _ _ _ _ _ _ e]; rfl⟩
      have HP : Hid (∀ W, Kept [] w7 W → Calls Try.prog 22 #[.pointer (some ⟨p, 0, none⟩)] W fun e w' => e = .returned (.string A) ∧ Kept [] W w') := fun W hW => j_read (h7.still hW) (j := p) (f := 0) (n := 128) (by simp) HQ3.out.fits HQ3.out.rng HQ3.out.look
      have HQq : Hid (∀ W, Kept [] w7 W → Calls Try.prog 22 #[.pointer (some ⟨q, 0, none⟩)] W fun e w' => e = .returned (.string B) ∧ Kept [] W w') := fun W hW => j_read (h7.still hW) (j := q) (f := 128) (n := 128) (by simp) HQ4.out.fits HQ4.out.rng HQ4.out.look
      have HL7 : Hid (∀ W, Kept [] w7 W → Kept [] w7 W ∧ W.cell? ⟨L, 0, none⟩ = some (.string A) ∧ W.cell? ⟨L, 1, none⟩ = some (.string B)) := hL7
      have hKd := hL7 w7.drew (Kept.refl _ _).drew
      have HH : Hid (Kept [] w1 w7) := h7.1
      clear h7 hL7 H7 H6 H5 HCR
      go_wp2_with fail
      go_region_held3 (fun w' => Kept [] w7 w' ∧ w'.cell? ⟨L, 0, none⟩ = some (.string A) ∧ w'.cell? ⟨L, 1, none⟩ = some (.string B)) (first | exact z | exact hKd | go_keep)
        (first
          | (go_at_call 10; refine (u_num _ _).mono ?_; rintro e w' ⟨rfl, rfl⟩)
          | (go_at_call_of 22 (Value.pointer (some ⟨p, 0, none⟩)); refine Calls.mono (HP.out _ (And.left (by assumption))) ?_; rintro e w8 ⟨rfl, k8⟩; have z := HL7.out w8 (Kept.trans (And.left (by assumption)) k8 (by simp)); clear k8)
          | (go_at_call_of 22 (Value.pointer (some ⟨q, 0, none⟩)); refine Calls.mono (HQq.out _ (And.left (by assumption))) ?_; rintro e w9 ⟨rfl, k9⟩; have z := HL7.out w9 (Kept.trans (And.left (by assumption)) k9 (by simp)); clear k9))
      go_wp2_with fail
      go_ret
      exact ⟨rfl, H0.out.trans (HH.out.trans z.1 (by simp)) (by simp)⟩

theorem walk (a0 : Option Addr) (len0 cap0 : Nat) (kp : Int) (w : World) (w0 : IsActs w a0 len0) (hkw : (Lit.int .i64 kp).wf = true) :
    Calls Try.prog 7 #[.slice a0 len0 cap0, .int .i64 kp] w fun e w' => e = .returned (.bool true) ∧ Below w.heap.size w w' := by
  obtain ⟨ss, hs⟩ := w0
  exact (main a0 len0 cap0 ss kp w (top_i64 hkw) hs).mono fun e w' h => ⟨h.1, bel h.2⟩


set_option maxRecDepth 100000 in
theorem lifted (os : Os) (started : os.Started) (H : Type) (enc : TypeId × Value → H) :
    ReturnsInHanded {} Try.checked os 7 .any (Rows.journalTwoSpec.pre6 enc Try.prog Try.f7 Rows.journalTwoRow.domain false) (Rows.journalTwoSpec.post enc Try.prog Try.f7 false true false false) := by
  refine returnsInHanded_of_change_sized (C := Try.checked) own started (by kernel_rfl) Try.func7
    (ChangeSpec.witness6 (enc := enc) (C := Try.checked) false ⟨#[], #[.slice none 0 0, .int .i64 0], []⟩ 8 (by kernel_rfl) (by kernel_rfl) (by kernel_rfl) (by kernel_rfl)) ?_
  intro W base args ds gs before hval0 hW hcnd hsz0 _
  have hval : ∀ (j : Nat) t v, Try.f7.params[j]? = some t → args[j]? = some v → Value.okWide Try.prog W .any base t v := hval0
  have hW' := hW
  obtain ⟨p, q, hA0, hV, rfl, hfz, hnd⟩ := hW
  have hA : DataW.TrodAll enc Try.prog W 0 (fun _ => true) true Try.f7.params.toList args.toList ds p := hA0
  have hsz : (DataW.weightsEach Try.prog (Try.f7.params.toList ++ Rows.journalTwoSpec.plain.varTypes Try.prog) (ds ++ gs)).all (· ≤ reachBytes) = true := hsz0
  rw [Try.params7] at hA hval hsz
  obtain ⟨v0, vs0, d0, ds0, p0, q0, hargs, rfl, rfl, h0, r0⟩ := trodAll_cons hA
  obtain ⟨v1, vs1, d1, ds1, p1, q1, rfl, rfl, rfl, h1, r1⟩ := trodAll_cons r0
  obtain ⟨rfl, rfl, rfl⟩ := trodAll_nil r1
  obtain rfl : args = #[v0, v1] := by cases args; simp_all
  obtain ⟨rfl, rfl⟩ := trodVars_none hV
  obtain ⟨a0, len0, cap0, rfl⟩ := okWide_slice Try.underlying48 (hval 0 48 v0 rfl rfl)
  have k0 := h0
  have lt0 : ∀ x ∈ p0, x.block < W.heap.size := by obtain ⟨m, hm⟩ := k0; exact DataW.trod_lt m _ _ _ hm
  have wt0 : ∀ n ∈ d0.weights Try.prog 48, n ≤ reachBytes := fun n hn => by
    have := List.all_eq_true.1 hsz n (DataW.weights_mem_each (j := 0) rfl rfl n hn)
    simpa using this
  have w0 : IsActs W a0 len0 := by
    obtain ⟨fuel, hf⟩ := h0
    exact acts_at hf wt0
  obtain ⟨a1, rfl, rfl, rfl, w1⟩ := open_int Try.underlying3 (hval 1 3 v1 rfl rfl) h1
  clear hA0 hval0
  refine (walk a0 len0 cap0 a1 W w0 w1).mono fun e W' ⟨he, bel⟩ => ?_
  subst he
  exact ⟨_, rfl, _, _, _, [], _, [], hW', trodAll_mk1 (shut_bool Try.underlying4 _), (trodAll_cons_mk (Below.trod laidOut (by kernel_rfl) (of_decide_eq_true (by kernel_rfl)) k0 bel lt0) (trodAll_cons_mk (shut_int Try.underlying3 w1) trodAll_mk0)), rfl, bel.frame _, fun h => by cases h⟩

theorem over : Rows.journalTwoRow.holds Try.pinned (OpenSpec.ofChange Rows.journalTwoSpec) :=
  OpenClaim.holds_of_wide 7 Try.f7 rfl rfl rfl rfl rfl rfl rfl ⟨rfl, rfl, rfl, rfl, rfl⟩ rfl rfl rfl rfl rfl (by kernel_rfl) Try.func7 (by kernel_rfl)
    (of_decide_eq_true (by kernel_rfl)) (by unfold Func.isWrapper; first | (rw [if_pos (by decide +kernel)]; kernel_rfl) | (rw [if_neg (by decide +kernel)]; exact ⟨rfl, rfl⟩))
    (fun os started H enc _ => lifted os started H enc)

end Go.Proofs.Ytpaefllhngbimaa.journalTwo

namespace Go.Proofs.Ytpaefllhngbimaa
theorem journalTwo_holds : Rows.JournalTwoSaid := journalTwo.over
#print axioms journalTwo_holds
end Go.Proofs.Ytpaefllhngbimaa
