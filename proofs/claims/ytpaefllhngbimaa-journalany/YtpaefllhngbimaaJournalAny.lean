/-
  concourselaw21.JournalAny returns true for all words and every place: whatever lies there, an error or a text; beside an error nothing is stored. No condition.
-/
import Derived.Test.YtpaefllhngbimaaRows
import Derived.Test.YtpaefllhngbimaaDm
import Derived.WalkKit
import Derived.ProofKit
import Derived.OpenShut
import Derived.ShutString
import Derived.ChangeOld
import Derived.Below
import Derived.Deep.Slices
import Derived.SizedLaws
namespace Go.Proofs.Ytpaefllhngbimaa.journalAny
open Go.ChangeShapes Go.WideShapes Go.ChangeAt Go.RowKit
open Go.ChangeMaps (open_string shut_string)
set_option linter.unusedVariables false

theorem own : ownKnob Try.prog.godebug = none := by kernel_rfl
theorem laidOut : laidOutB Try.prog = true := by kernel_rfl

def IsRow (k : IntKind) (w : World) (a : Option Addr) (len cap : Nat) (zs : List Int) : Prop :=
  (a = none ∧ len = 0 ∧ cap = 0 ∧ zs = []) ∨
  ∃ x, a = some x ∧ len ≤ cap ∧ cap ≤ maxLen ∧ zs.length = cap ∧ (∀ i, i < zs.length → w.cell? (x.add i) = some (.int k (zs.getD i 0))) ∧ ∀ n ∈ zs, (Lit.int k n).wf = true

theorem run_st_one (M : Pm) (V : Nat → Int) (k : Nat) : (M.run ((List.range k).map fun q => Op.st q (V q))).store k (V k) = M.run ((List.range (k + 1)).map fun q => Op.st q (V q)) := by
  rw [List.range_succ, List.map_append, run_append]; rfl

theorem sts_any (V : Nat → Int) (k : Nat) (hk : k ≤ 160) : Sts 0 160 ((List.range k).map fun q => Op.st q (V q)) := by
  intro o ho
  rw [List.mem_map] at ho
  obtain ⟨q, hq, rfl⟩ := ho
  rw [List.mem_range] at hq
  exact ⟨q, _, rfl, by omega, by omega⟩

theorem fl20 : flOps 0 160 = (List.range 20).map fun q => Op.fl q := by
  unfold flOps
  simp

set_option maxRecDepth 100000 in
set_option maxHeartbeats 8000000 in
theorem main (a0 : Option Addr) (len0 cap0 : Nat) (zs : List Int) (y : Int) (w : World) (hlen : len0 ≤ 9223372036854775807)
    (hcell : ∀ i, i < len0 → ∃ bb off, a0 = some ⟨bb, off, none⟩ ∧ w.cell? ⟨bb, off + i, none⟩ = some (.int .i64 (zs.getD i 0))) :
    Calls Try.prog 4 #[.slice a0 len0 cap0, .int .i64 y] w fun e w' => e = .returned (.bool true) ∧ Kept [] w w' := by
  obtain ⟨V, hV⟩ : ∃ V : Nat → Int, V = fun i => IntKind.u64.wrap (zs.getD i 0) := ⟨_, rfl⟩
  have hVr : ∀ i, 0 ≤ V i ∧ V i < 18446744073709551616 := fun i => by rw [hV]; dsimp only; rw [IntKind.wrap_u64]; omega
  have HC : Hid (∀ i, i < len0 → ∃ bb off, a0 = some ⟨bb, off, none⟩ ∧ w.cell? ⟨bb, off + i, none⟩ = some (.int .i64 (zs.getD i 0))) := hcell
  obtain ⟨k, hk, hk2⟩ : ∃ k : Nat, bits .and .i64 y 3 = (k : Int) ∧ k < 4 := ⟨(y % 4).toNat, by rw [i64_and3]; omega, by omega⟩
  have e8 : ((8 * k : Nat) : Int) = 8 * (k : Int) := by omega
  obtain ⟨F, hF⟩ : ∃ F, F = fresh 160 := ⟨_, rfl⟩
  have hFl : F.seen.length = 160 := by rw [hF]; simp [fresh]
  have hFs : F.steps = 0 := by rw [hF]; rfl
  have hFt : F.stores = 0 := by rw [hF]; rfl
  clear hcell
  go_enter Try.func4, Try.ntmps4
  go_wp2_with fail
  refine (awake_any w).mono ?_
  rintro e w1 ⟨rfl, hk0⟩
  have H0 : Hid (Kept [] w w1) := hk0
  clear hk0
  go_wp2_with fail
  refine (u_new w1 160 (by omega) (by omega) (by omega)).mono ?_
  rintro e w2 ⟨b, rfl, hm⟩
  have H1 : Hid (Hj [] w1 w2 b F) := by rw [hF]; exact hm.hj
  clear hm
  go_wp2_with fail
  go_loopw [7] (fun i wr => ∃ (n : Nat), i = .int .i64 (n : Int) ∧ n ≤ 160 ∧ n ≤ len0 ∧ Hid (Hj [] w1 wr b (F.run ((List.range n).map fun q => Op.st q (V q))))) (fun i _ => (160 - intOf i).toNat)
  case atStart => exact ⟨0, rfl, by omega, by omega, H1.out⟩
  case round =>
    obtain ⟨n, rfl, hn, hnl, HR⟩ := hrel
    by_cases hlt : n < len0 ∧ n < 160
    · obtain ⟨hl1, hl2⟩ := hlt
      have i1 : (n : Int) < (len0 : Int) := by omega
      have i2 : (n : Int) < 160 := by omega
      obtain ⟨bb, off, rfl, hc⟩ := HC.out n hl1
      have hc2 : wr.cell? ⟨bb, off + n, none⟩ = some (.int .i64 (zs.getD n 0)) := HR.out.1.cell (H0.out.cell hc (by simp)) (by simp)
      have hst : Calls Try.prog 11 #[.pointer (some ⟨b, 0, none⟩), .int .i64 (n : Int), .int .u64 (IntKind.u64.wrap (zs.getD n 0))] wr fun e w' => e = .returned (.int .i64 0) ∧ Hj [] w1 w' b (F.run ((List.range (n + 1)).map fun q => Op.st q (V q))) := by
        have h1 := run_steps ((List.range n).map fun q => Op.st q (V q)) F
        have h2 := run_stores ((List.range n).map fun q => Op.st q (V q)) F
        rw [List.length_map, List.length_range] at h1 h2
        have h3 : (F.run ((List.range n).map fun q => Op.st q (V q))).seen.length = 160 := by rw [run_seen, seenBy_length, hFl]
        have := h_sto HR.out (x := (n : Int)) (v' := IntKind.u64.wrap (zs.getD n 0)) (k := n) (v := V n) rfl (by rw [hV]) (by omega) (by omega) (by omega) (by omega) (by omega)
        rw [run_st_one] at this
        exact this
      have HS : Hid (Calls Try.prog 11 #[.pointer (some ⟨b, 0, none⟩), .int .i64 (n : Int), .int .u64 (IntKind.u64.wrap (zs.getD n 0))] wr fun e w' => e = .returned (.int .i64 0) ∧ Hj [] w1 w' b (F.run ((List.range (n + 1)).map fun q => Op.st q (V q)))) := hst
      clear hst hc HR
      generalize zs.getD n 0 = zv at *
      go_wp2_with (first
        | (go_at_call 11; refine Calls.mono HS.out ?_; rintro e w4 ⟨rfl, h4⟩; have H4 : Hid (Hj [] w1 w4 b (F.run ((List.range (n + 1)).map fun q => Op.st q (V q)))) := h4; clear h4))
      go_roundw
      case rel => exact ⟨n + 1, by go_num, by omega, by omega, H4.out⟩
      case measure => simp [intOf]; omega
    · by_cases hl1 : n < len0
      · have i1 : (n : Int) < (len0 : Int) := by omega
        have i2 : ¬ (n : Int) < 160 := by omega
        have hA := sts_any V n hn
        have hN0 := run_steps ((List.range n).map fun q => Op.st q (V q)) F
        have hN1 := run_stores ((List.range n).map fun q => Op.st q (V q)) F
        rw [List.length_map, List.length_range] at hN0 hN1
        have hNl0 : (F.run ((List.range n).map fun q => Op.st q (V q))).seen.length = 160 := by rw [run_seen, seenBy_length, hFl]
        have hcm := commit (M := F) (X := F.seen) (by rw [hF]; exact fresh_clean 160) (by rw [hF]; rfl) hA (by omega)
        have hfu := run_none ((List.range n).map (fun q => Op.st q (V q)) ++ flOps 0 160 ++ [Op.fe]) (M := F) (by rw [hF]; rfl)
        have hst3 := run_steps ((List.range n).map (fun q => Op.st q (V q)) ++ flOps 0 160 ++ [Op.fe]) F
        have hso3 := run_stores ((List.range n).map (fun q => Op.st q (V q)) ++ flOps 0 160 ++ [Op.fe]) F
        have hln : ((List.range n).map (fun q => Op.st q (V q)) ++ flOps 0 160 ++ [Op.fe]).length ≤ 1000 := by
          rw [List.length_append, List.length_append, flOps_length, List.length_map, List.length_range]; simp; omega
        have hrg : Rng (seenBy F.seen ((List.range n).map fun q => Op.st q (V q))) := rng_seenBy (by rw [hF]; exact fresh_rng 160) (fun kk v hm => by
          rw [List.mem_map] at hm
          obtain ⟨q, -, hqe⟩ := hm
          simp only [Op.st.injEq] at hqe
          rw [← hqe.2]
          exact hVr q)
        obtain ⟨N, hN⟩ : ∃ N, N = F.run ((List.range n).map fun q => Op.st q (V q)) := ⟨_, rfl⟩
        obtain ⟨M, hM⟩ : ∃ M, M = F.run ((List.range n).map (fun q => Op.st q (V q)) ++ flOps 0 160 ++ [Op.fe]) := ⟨_, rfl⟩
        have hMe : Hid ((N.run ((List.range 20).map fun q => Op.fl q)).fence = M) := by
          show _ = _
          rw [hM, hN, run_append, run_append, fl20]; rfl
        rw [← hM] at hcm hfu hst3 hso3
        have hMs : M.seen = seenBy F.seen ((List.range n).map fun q => Op.st q (V q)) := hcm.seen
        have hMl : M.seen.length = 160 := by rw [hMs, seenBy_length, hFl]
        have hrngM : Hid (Rng M.seen) := by show Rng _; rw [hMs]; exact hrg
        have hclM : Hid (Clean M M.seen) := by show Clean _ _; rw [hMs]; exact hcm
        have hfuM : Hid (M.fuse = none) := hfu
        have hcnM : Hid (Cnt M 1000) := ⟨by omega, by omega, by omega, by omega⟩
        have hfitM : Hid (Fits M.seen (8 * k) 96) := ⟨by omega, by omega, by omega, by omega, by omega⟩
        have HN : Hid (Hj [] w1 wr b N) := by have := HR.out; rw [← hN] at this; exact this
        have hNl : N.seen.length = 160 := by rw [hN]; exact hNl0
        have hNs : N.steps = 0 + (n : Int) := by rw [hN, hN0, hFs]
        have hNs2 : N.steps ≤ 160 := by omega
        have hNs3 : 0 ≤ N.steps := by omega
        have HF1 : Hid (_) := hN
        clear hcm hfu hst3 hso3 hln hrg hMs hMl hA hN0 hN1 hNl0 hM hNs hN
        clear HR HF1
        go_wp2_with fail
        go_loopw [8] (fun i wq => ∃ (q : Nat), i = .int .i64 (q : Int) ∧ q ≤ 20 ∧ Hid (Hj [] w1 wq b (N.run ((List.range q).map fun q => Op.fl q)))) (fun i _ => (20 - intOf i).toNat)
        case atStart => exact ⟨0, rfl, by omega, HN.out⟩
        case round =>
          obtain ⟨q, rfl, hq, HR⟩ := hrel
          by_cases hlq : q < 20
          · have j1 : (q : Int) < 20 := by omega
            have hfl : Calls Try.prog 12 #[.pointer (some ⟨b, 0, none⟩), .int .i64 (q : Int)] wr fun e w' => e = .returned (.int .i64 0) ∧ Hj [] w1 w' b (N.run ((List.range (q + 1)).map fun q => Op.fl q)) := by
              have h1 := run_steps ((List.range q).map fun q => Op.fl q) N
              rw [List.length_map, List.length_range] at h1
              have h3 : (N.run ((List.range q).map fun q => Op.fl q)).seen.length = 160 := by rw [run_seen, seenBy_length, hNl]
              have := h_flush HR.out (q : Int) (by omega) (by omega) (by omega) (by omega)
              have h4 : (N.run ((List.range q).map fun q => Op.fl q)).flush q = N.run ((List.range (q + 1)).map fun q => Op.fl q) := by rw [List.range_succ, List.map_append, run_append]; rfl
              rw [Int.toNat_natCast, h4] at this
              exact this
            have HS : Hid (Calls Try.prog 12 #[.pointer (some ⟨b, 0, none⟩), .int .i64 (q : Int)] wr fun e w' => e = .returned (.int .i64 0) ∧ Hj [] w1 w' b (N.run ((List.range (q + 1)).map fun q => Op.fl q))) := hfl
            clear hfl HR
            go_wp2_with (first
              | (go_at_call 12; refine Calls.mono HS.out ?_; rintro e w4 ⟨rfl, h4⟩; have H4 : Hid (Hj [] w1 w4 b (N.run ((List.range (q + 1)).map fun q => Op.fl q))) := h4; clear h4))
            go_roundw
            case rel => exact ⟨q + 1, by go_num, by omega, H4.out⟩
            case measure => simp [intOf]; omega
          · have j1 : ¬ (q : Int) < 20 := by omega
            obtain rfl : q = 20 := by omega
            have hfe : Calls Try.prog 13 #[.pointer (some ⟨b, 0, none⟩)] wr fun e w' => e = .returned (.int .i64 0) ∧ Hj [] w1 w' b M := by
              have h1 := run_steps ((List.range 20).map fun q => Op.fl q) N
              rw [List.length_map, List.length_range] at h1
              have := h_fence HR.out (by omega) (by omega)
              rw [hMe.out] at this
              exact this
            have HFE : Hid (Calls Try.prog 13 #[.pointer (some ⟨b, 0, none⟩)] wr fun e w' => e = .returned (.int .i64 0) ∧ Hj [] w1 w' b M) := hfe
            clear hfe HR
            go_wp2_with (go_at_call 13; refine Calls.mono HFE.out ?_; rintro e w5 ⟨rfl, h5⟩; have H5 : Hid (Hj [] w1 w5 b M) := h5; clear h5)
            refine (h_stores H5.out).mono ?_
            rintro e w' ⟨rfl, rfl⟩
            go_wp2_with fail
            have hfit := hfitM.out
            have hrng := hrngM.out
            cases hlk : lookOf M.seen (8 * k) 96 with
            | none =>
              have ho := j_open_none H5.out hfit hrng hlk
              rw [e8] at ho
              have HO : Hid (Calls Try.prog 19 #[.pointer (some ⟨b, 0, none⟩), .int .i64 (8 * (k : Int)), .int .i64 96] w5 fun e w' => e = .returned (.tuple #[.pointer none, .int .i64 2102]) ∧ Hj [] w1 w' b M ∧ Kept [] w5 w') := ho
              clear ho hfit hrng hlk
              refine Calls.mono HO.out ?_
              rintro e w6 ⟨rfl, h6, -⟩
              have H6 : Hid (Hj [] w1 w6 b M) := h6
              clear h6
              generalize hms : M.stores = ms at *
              go_wp2_with (first
                | (go_at_call 10; refine (u_num _ _).mono ?_; rintro e w' ⟨rfl, rfl⟩)
                | (go_at_call 18; refine (h_stores H6.out).mono ?_; rintro e w' ⟨rfl, rfl⟩; rw [hms]))
              go_ret
              exact ⟨rfl, H0.out.trans H6.out.1 (by simp)⟩
            | some T =>
              have hsz : (ByteArray.mk #[97, 103, 97, 105, 110]).size ≤ roomOf 96 := by rw [room_of (by omega) (by omega)]; decide
              obtain ⟨q2, f2⟩ := quiet_repl hclM.out hrng hfit hfuM.out hsz
              obtain ⟨M2, hM2⟩ : ∃ M2, M2 = M.run (replOps M.seen (8 * k) 96 ⟨#[97, 103, 97, 105, 110]⟩) := ⟨_, rfl⟩
              rw [← hM2] at q2 f2
              obtain ⟨q3, -⟩ := q2.crash (Or.inl f2) 0
              obtain ⟨M3, hM3⟩ : ∃ M3, M3 = M2.crash 0 := ⟨_, rfl⟩
              rw [← hM3] at q3
              have ho := j_open H5.out hfit hrng hlk
              rw [e8] at ho
              have HO : Hid (Calls Try.prog 19 #[.pointer (some ⟨b, 0, none⟩), .int .i64 (8 * (k : Int)), .int .i64 96] w5 fun e w' => ∃ j, e = .returned (.tuple #[.pointer (some ⟨j, 0, none⟩), .int .i64 0]) ∧ j = w5.heap.size ∧ Hj [(j, jn b (8 * (k : Int)) 96)] w1 w' b M ∧ Kept [] w5 w') := ho
              have HQ3 : Hid (Quiet M3 (8 * k) 96 ⟨#[97, 103, 97, 105, 110]⟩) := q3
              clear ho hlk q2 f2 q3
              refine Calls.mono HO.out ?_
              rintro e w6 ⟨j, rfl, -, h6, -⟩
              have H6 : Hid (Hj [(j, jn b (8 * (k : Int)) 96)] w1 w6 b M) := h6
              clear h6
              go_wp2_with (first
                | (go_at_call 10; refine (u_num _ _).mono ?_; rintro e w' ⟨rfl, rfl⟩))
              have hw := j_write H6.out (j := j) (f := 8 * k) (n := 96) (by rw [e8]; simp) hfit _ hsz (by have := hcnM.out.s0; omega) (by have := hcnM.out.s1; omega) (by have := hcnM.out.t0; omega) (by have := hcnM.out.t1; omega)
              rw [← hM2] at hw
              refine hw.mono ?_
              rintro e w7 ⟨rfl, h7⟩
              have H7 : Hid (Hj [(j, jn b (8 * (k : Int)) 96)] w1 w7 b M2) := h7
              clear h7 hw hM2
              go_wp2_with fail
              refine (h_crash H7.out 0 (by decide)).mono ?_
              rintro e w8 ⟨rfl, h8⟩
              rw [← hM3] at h8
              have H8 : Hid (Hj [(j, jn b (8 * (k : Int)) 96)] w1 w8 b M3) := h8
              clear h8 hM3
              go_wp2_with fail
              have ho := j_open H8.out HQ3.out.fits HQ3.out.rng HQ3.out.look
              rw [e8] at ho
              refine ho.mono ?_
              rintro e w9 ⟨j2, rfl, -, h9, -⟩
              have H9 : Hid (Hj [(j2, jn b (8 * (k : Int)) 96), (j, jn b (8 * (k : Int)) 96)] w1 w9 b M3) := h9
              clear h9 ho
              go_wp2_with (first
                | (go_at_call 10; refine (u_num _ _).mono ?_; rintro e w' ⟨rfl, rfl⟩)
                | (go_at_call 22; refine (j_read H9.out (j := j2) (f := 8 * k) (n := 96) (by rw [e8]; simp) HQ3.out.fits HQ3.out.rng HQ3.out.look).mono ?_; rintro e wa ⟨rfl, ha⟩; have HA : Hid (Kept [] w1 wa) := (H9.out.still ha).1; clear ha))
              go_ret
              exact ⟨rfl, H0.out.trans HA.out (by simp)⟩
      · have i1 : ¬ (n : Int) < (len0 : Int) := by omega
        have hA := sts_any V n hn
        have hN0 := run_steps ((List.range n).map fun q => Op.st q (V q)) F
        have hN1 := run_stores ((List.range n).map fun q => Op.st q (V q)) F
        rw [List.length_map, List.length_range] at hN0 hN1
        have hNl0 : (F.run ((List.range n).map fun q => Op.st q (V q))).seen.length = 160 := by rw [run_seen, seenBy_length, hFl]
        have hcm := commit (M := F) (X := F.seen) (by rw [hF]; exact fresh_clean 160) (by rw [hF]; rfl) hA (by omega)
        have hfu := run_none ((List.range n).map (fun q => Op.st q (V q)) ++ flOps 0 160 ++ [Op.fe]) (M := F) (by rw [hF]; rfl)
        have hst3 := run_steps ((List.range n).map (fun q => Op.st q (V q)) ++ flOps 0 160 ++ [Op.fe]) F
        have hso3 := run_stores ((List.range n).map (fun q => Op.st q (V q)) ++ flOps 0 160 ++ [Op.fe]) F
        have hln : ((List.range n).map (fun q => Op.st q (V q)) ++ flOps 0 160 ++ [Op.fe]).length ≤ 1000 := by
          rw [List.length_append, List.length_append, flOps_length, List.length_map, List.length_range]; simp; omega
        have hrg : Rng (seenBy F.seen ((List.range n).map fun q => Op.st q (V q))) := rng_seenBy (by rw [hF]; exact fresh_rng 160) (fun kk v hm => by
          rw [List.mem_map] at hm
          obtain ⟨q, -, hqe⟩ := hm
          simp only [Op.st.injEq] at hqe
          rw [← hqe.2]
          exact hVr q)
        obtain ⟨N, hN⟩ : ∃ N, N = F.run ((List.range n).map fun q => Op.st q (V q)) := ⟨_, rfl⟩
        obtain ⟨M, hM⟩ : ∃ M, M = F.run ((List.range n).map (fun q => Op.st q (V q)) ++ flOps 0 160 ++ [Op.fe]) := ⟨_, rfl⟩
        have hMe : Hid ((N.run ((List.range 20).map fun q => Op.fl q)).fence = M) := by
          show _ = _
          rw [hM, hN, run_append, run_append, fl20]; rfl
        rw [← hM] at hcm hfu hst3 hso3
        have hMs : M.seen = seenBy F.seen ((List.range n).map fun q => Op.st q (V q)) := hcm.seen
        have hMl : M.seen.length = 160 := by rw [hMs, seenBy_length, hFl]
        have hrngM : Hid (Rng M.seen) := by show Rng _; rw [hMs]; exact hrg
        have hclM : Hid (Clean M M.seen) := by show Clean _ _; rw [hMs]; exact hcm
        have hfuM : Hid (M.fuse = none) := hfu
        have hcnM : Hid (Cnt M 1000) := ⟨by omega, by omega, by omega, by omega⟩
        have hfitM : Hid (Fits M.seen (8 * k) 96) := ⟨by omega, by omega, by omega, by omega, by omega⟩
        have HN : Hid (Hj [] w1 wr b N) := by have := HR.out; rw [← hN] at this; exact this
        have hNl : N.seen.length = 160 := by rw [hN]; exact hNl0
        have hNs : N.steps = 0 + (n : Int) := by rw [hN, hN0, hFs]
        have hNs2 : N.steps ≤ 160 := by omega
        have hNs3 : 0 ≤ N.steps := by omega
        have HF1 : Hid (_) := hN
        clear hcm hfu hst3 hso3 hln hrg hMs hMl hA hN0 hN1 hNl0 hM hNs hN
        clear HR HF1
        go_wp2_with fail
        go_loopw [8] (fun i wq => ∃ (q : Nat), i = .int .i64 (q : Int) ∧ q ≤ 20 ∧ Hid (Hj [] w1 wq b (N.run ((List.range q).map fun q => Op.fl q)))) (fun i _ => (20 - intOf i).toNat)
        case atStart => exact ⟨0, rfl, by omega, HN.out⟩
        case round =>
          obtain ⟨q, rfl, hq, HR⟩ := hrel
          by_cases hlq : q < 20
          · have j1 : (q : Int) < 20 := by omega
            have hfl : Calls Try.prog 12 #[.pointer (some ⟨b, 0, none⟩), .int .i64 (q : Int)] wr fun e w' => e = .returned (.int .i64 0) ∧ Hj [] w1 w' b (N.run ((List.range (q + 1)).map fun q => Op.fl q)) := by
              have h1 := run_steps ((List.range q).map fun q => Op.fl q) N
              rw [List.length_map, List.length_range] at h1
              have h3 : (N.run ((List.range q).map fun q => Op.fl q)).seen.length = 160 := by rw [run_seen, seenBy_length, hNl]
              have := h_flush HR.out (q : Int) (by omega) (by omega) (by omega) (by omega)
              have h4 : (N.run ((List.range q).map fun q => Op.fl q)).flush q = N.run ((List.range (q + 1)).map fun q => Op.fl q) := by rw [List.range_succ, List.map_append, run_append]; rfl
              rw [Int.toNat_natCast, h4] at this
              exact this
            have HS : Hid (Calls Try.prog 12 #[.pointer (some ⟨b, 0, none⟩), .int .i64 (q : Int)] wr fun e w' => e = .returned (.int .i64 0) ∧ Hj [] w1 w' b (N.run ((List.range (q + 1)).map fun q => Op.fl q))) := hfl
            clear hfl HR
            go_wp2_with (first
              | (go_at_call 12; refine Calls.mono HS.out ?_; rintro e w4 ⟨rfl, h4⟩; have H4 : Hid (Hj [] w1 w4 b (N.run ((List.range (q + 1)).map fun q => Op.fl q))) := h4; clear h4))
            go_roundw
            case rel => exact ⟨q + 1, by go_num, by omega, H4.out⟩
            case measure => simp [intOf]; omega
          · have j1 : ¬ (q : Int) < 20 := by omega
            obtain rfl : q = 20 := by omega
            have hfe : Calls Try.prog 13 #[.pointer (some ⟨b, 0, none⟩)] wr fun e w' => e = .returned (.int .i64 0) ∧ Hj [] w1 w' b M := by
              have h1 := run_steps ((List.range 20).map fun q => Op.fl q) N
              rw [List.length_map, List.length_range] at h1
              have := h_fence HR.out (by omega) (by omega)
              rw [hMe.out] at this
              exact this
            have HFE : Hid (Calls Try.prog 13 #[.pointer (some ⟨b, 0, none⟩)] wr fun e w' => e = .returned (.int .i64 0) ∧ Hj [] w1 w' b M) := hfe
            clear hfe HR
            go_wp2_with (go_at_call 13; refine Calls.mono HFE.out ?_; rintro e w5 ⟨rfl, h5⟩; have H5 : Hid (Hj [] w1 w5 b M) := h5; clear h5)
            refine (h_stores H5.out).mono ?_
            rintro e w' ⟨rfl, rfl⟩
            go_wp2_with fail
            have hfit := hfitM.out
            have hrng := hrngM.out
            cases hlk : lookOf M.seen (8 * k) 96 with
            | none =>
              have ho := j_open_none H5.out hfit hrng hlk
              rw [e8] at ho
              have HO : Hid (Calls Try.prog 19 #[.pointer (some ⟨b, 0, none⟩), .int .i64 (8 * (k : Int)), .int .i64 96] w5 fun e w' => e = .returned (.tuple #[.pointer none, .int .i64 2102]) ∧ Hj [] w1 w' b M ∧ Kept [] w5 w') := ho
              clear ho hfit hrng hlk
              refine Calls.mono HO.out ?_
              rintro e w6 ⟨rfl, h6, -⟩
              have H6 : Hid (Hj [] w1 w6 b M) := h6
              clear h6
              generalize hms : M.stores = ms at *
              go_wp2_with (first
                | (go_at_call 10; refine (u_num _ _).mono ?_; rintro e w' ⟨rfl, rfl⟩)
                | (go_at_call 18; refine (h_stores H6.out).mono ?_; rintro e w' ⟨rfl, rfl⟩; rw [hms]))
              go_ret
              exact ⟨rfl, H0.out.trans H6.out.1 (by simp)⟩
            | some T =>
              have hsz : (ByteArray.mk #[97, 103, 97, 105, 110]).size ≤ roomOf 96 := by rw [room_of (by omega) (by omega)]; decide
              obtain ⟨q2, f2⟩ := quiet_repl hclM.out hrng hfit hfuM.out hsz
              obtain ⟨M2, hM2⟩ : ∃ M2, M2 = M.run (replOps M.seen (8 * k) 96 ⟨#[97, 103, 97, 105, 110]⟩) := ⟨_, rfl⟩
              rw [← hM2] at q2 f2
              obtain ⟨q3, -⟩ := q2.crash (Or.inl f2) 0
              obtain ⟨M3, hM3⟩ : ∃ M3, M3 = M2.crash 0 := ⟨_, rfl⟩
              rw [← hM3] at q3
              have ho := j_open H5.out hfit hrng hlk
              rw [e8] at ho
              have HO : Hid (Calls Try.prog 19 #[.pointer (some ⟨b, 0, none⟩), .int .i64 (8 * (k : Int)), .int .i64 96] w5 fun e w' => ∃ j, e = .returned (.tuple #[.pointer (some ⟨j, 0, none⟩), .int .i64 0]) ∧ j = w5.heap.size ∧ Hj [(j, jn b (8 * (k : Int)) 96)] w1 w' b M ∧ Kept [] w5 w') := ho
              have HQ3 : Hid (Quiet M3 (8 * k) 96 ⟨#[97, 103, 97, 105, 110]⟩) := q3
              clear ho hlk q2 f2 q3
              refine Calls.mono HO.out ?_
              rintro e w6 ⟨j, rfl, -, h6, -⟩
              have H6 : Hid (Hj [(j, jn b (8 * (k : Int)) 96)] w1 w6 b M) := h6
              clear h6
              go_wp2_with (first
                | (go_at_call 10; refine (u_num _ _).mono ?_; rintro e w' ⟨rfl, rfl⟩))
              have hw := j_write H6.out (j := j) (f := 8 * k) (n := 96) (by rw [e8]; simp) hfit _ hsz (by have := hcnM.out.s0; omega) (by have := hcnM.out.s1; omega) (by have := hcnM.out.t0; omega) (by have := hcnM.out.t1; omega)
              rw [← hM2] at hw
              refine hw.mono ?_
              rintro e w7 ⟨rfl, h7⟩
              have H7 : Hid (Hj [(j, jn b (8 * (k : Int)) 96)] w1 w7 b M2) := h7
              clear h7 hw hM2
              go_wp2_with fail
              refine (h_crash H7.out 0 (by decide)).mono ?_
              rintro e w8 ⟨rfl, h8⟩
              rw [← hM3] at h8
              have H8 : Hid (Hj [(j, jn b (8 * (k : Int)) 96)] w1 w8 b M3) := h8
              clear h8 hM3
              go_wp2_with fail
              have ho := j_open H8.out HQ3.out.fits HQ3.out.rng HQ3.out.look
              rw [e8] at ho
              refine ho.mono ?_
              rintro e w9 ⟨j2, rfl, -, h9, -⟩
              have H9 : Hid (Hj [(j2, jn b (8 * (k : Int)) 96), (j, jn b (8 * (k : Int)) 96)] w1 w9 b M3) := h9
              clear h9 ho
              go_wp2_with (first
                | (go_at_call 10; refine (u_num _ _).mono ?_; rintro e w' ⟨rfl, rfl⟩)
                | (go_at_call 22; refine (j_read H9.out (j := j2) (f := 8 * k) (n := 96) (by rw [e8]; simp) HQ3.out.fits HQ3.out.rng HQ3.out.look).mono ?_; rintro e wa ⟨rfl, ha⟩; have HA : Hid (Kept [] w1 wa) := (H9.out.still ha).1; clear ha))
              go_ret
              exact ⟨rfl, H0.out.trans HA.out (by simp)⟩

theorem ints_row {w : World} {a : Option Addr} {len cap : Nat} {zs : List Int} (h : IsRow .i64 w a len cap zs) : len ≤ 9223372036854775807 ∧ ∀ i, i < len → ∃ bb off, a = some ⟨bb, off, none⟩ ∧ w.cell? ⟨bb, off + i, none⟩ = some (.int .i64 (zs.getD i 0)) := by
  rcases h with ⟨_, h1, _, _⟩ | ⟨x, rfl, hl, hm, hz, hcell, _⟩
  · exact ⟨by omega, fun i hi => by omega⟩
  · refine ⟨by unfold maxLen at hm; omega, fun i hi => ?_⟩
    obtain ⟨b, off, spot⟩ := x
    have hspot : spot = none := by
      have := World.cell?_spot (hcell 0 (by omega))
      simpa [Addr.add] using this
    subst hspot
    exact ⟨b, off, rfl, by rw [← Go.WideShapes.add_plain]; exact hcell i (by omega)⟩

theorem walk (a0 : Option Addr) (len0 cap0 : Nat) (z0 : List Int) (y : Int) (w : World) (w0 : IsRow .i64 w a0 len0 cap0 z0) (_ : (Lit.int .i64 y).wf = true) :
    Calls Try.prog 4 #[.slice a0 len0 cap0, .int .i64 y] w fun e w' => e = .returned (.bool true) ∧ Below w.heap.size w w' := by
  obtain ⟨h1, h2⟩ := ints_row w0
  exact (main a0 len0 cap0 z0 y w h1 h2).mono fun e w' h => ⟨h.1, bel h.2⟩


set_option maxRecDepth 100000 in
theorem lifted (os : Os) (started : os.Started) (H : Type) (enc : TypeId × Value → H) :
    ReturnsInHanded {} Try.checked os 4 .any (Rows.journalAnySpec.pre6 enc Try.prog Try.f4 Rows.journalAnyRow.domain false) (Rows.journalAnySpec.post enc Try.prog Try.f4 false true false false) := by
  refine returnsInHanded_of_change (C := Try.checked) own started (by kernel_rfl) Try.func4
    (ChangeSpec.witness6 (enc := enc) (C := Try.checked) false ⟨#[], #[.slice none 0 0, .int .i64 0], []⟩ 8 (by kernel_rfl) (by kernel_rfl) (by kernel_rfl) (by kernel_rfl)) ?_
  intro W base args ds gs before hval0 hW hcnd _
  have hval : ∀ (j : Nat) t v, Try.f4.params[j]? = some t → args[j]? = some v → Value.okWide Try.prog W .any base t v := hval0
  have hW' := hW
  obtain ⟨p, q, hA0, hV, rfl, hfz, hnd⟩ := hW
  have hA : DataW.TrodAll enc Try.prog W 0 (fun _ => true) true Try.f4.params.toList args.toList ds p := hA0
  rw [Try.params4] at hA hval
  obtain ⟨v0, vs0, d0, ds0, p0, q0, hargs, rfl, rfl, h0, r0⟩ := trodAll_cons hA
  obtain ⟨v1, vs1, d1, ds1, p1, q1, rfl, rfl, rfl, h1, r1⟩ := trodAll_cons r0
  obtain ⟨rfl, rfl, rfl⟩ := trodAll_nil r1
  obtain rfl : args = #[v0, v1] := by cases args; simp_all
  obtain ⟨rfl, rfl⟩ := trodVars_none hV
  obtain ⟨a0, len0, cap0, rfl⟩ := okWide_slice Try.underlying39 (hval 0 39 v0 rfl rfl)
  have k0 := h0
  have lt0 : ∀ x ∈ p0, x.block < W.heap.size := by obtain ⟨m, hm⟩ := k0; exact DataW.trod_lt m _ _ _ hm
  obtain ⟨z0, w0⟩ : ∃ zs, IsRow .i64 W a0 len0 cap0 zs := by
    obtain ⟨fuel, hf⟩ := h0
    rcases open_ints Try.underlying39 Try.underlying3 (by kernel_rfl) hf with ⟨hcs, _⟩ | ⟨x, l, c, zs, hcs, _, hl, hm, hz, _, hcell, hwz⟩
    · simp [Value.cells] at hcs
      obtain ⟨rfl, rfl, rfl⟩ := hcs
      exact ⟨[], .inl ⟨rfl, rfl, rfl, rfl⟩⟩
    · simp [Value.cells] at hcs
      obtain ⟨rfl, rfl, rfl⟩ := hcs
      exact ⟨zs, .inr ⟨_, rfl, hl, hm, by simpa using hz, hcell, hwz⟩⟩
  obtain ⟨a1, rfl, rfl, rfl, w1⟩ := open_int Try.underlying3 (hval 1 3 v1 rfl rfl) h1
  clear hA0 hval0
  refine (walk a0 len0 cap0 z0 a1 W w0 w1).mono fun e W' ⟨he, bel⟩ => ?_
  subst he
  exact ⟨_, rfl, _, _, _, [], _, [], hW', trodAll_mk1 (shut_bool Try.underlying4 _), (trodAll_cons_mk (Below.trod laidOut (by kernel_rfl) (of_decide_eq_true (by kernel_rfl)) k0 bel lt0) (trodAll_cons_mk (shut_int Try.underlying3 w1) trodAll_mk0)), rfl, bel.frame _, fun h => by cases h⟩

theorem over : Rows.journalAnyRow.holds Try.pinned (OpenSpec.ofChange Rows.journalAnySpec) :=
  OpenClaim.holds_of_wide 4 Try.f4 rfl rfl rfl rfl rfl rfl rfl ⟨rfl, rfl, rfl, rfl, rfl⟩ rfl rfl rfl rfl rfl (by kernel_rfl) Try.func4 (by kernel_rfl)
    (of_decide_eq_true (by kernel_rfl)) (by unfold Func.isWrapper; first | (rw [if_pos (by decide +kernel)]; kernel_rfl) | (rw [if_neg (by decide +kernel)]; exact ⟨rfl, rfl⟩))
    (fun os started H enc _ => lifted os started H enc)

end Go.Proofs.Ytpaefllhngbimaa.journalAny

namespace Go.Proofs.Ytpaefllhngbimaa
theorem journalAny_holds : Rows.JournalAnySaid := journalAny.over
#print axioms journalAny_holds
end Go.Proofs.Ytpaefllhngbimaa
