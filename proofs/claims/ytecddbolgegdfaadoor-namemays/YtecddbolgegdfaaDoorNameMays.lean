/-
  NameMays: for every byte below 128, number of bytes and place, which bytes a name may have, and how many (P8.1); no condition beyond the row's own.
-/
import Derived.Test.YtecddbolgegdfaaDoorRows
import Derived.Test.YtecddbolgegdfaaDoorCards
import Derived.Test.YtecddbolgegdfaaDoorTie
import Derived.Test.YtecddbolgegdfaaDoorLaid
import Derived.Test.YtecddbolgegdfaaDoorBy
import Derived.WalkKit
import Derived.ProofKit
import Derived.OpenShut
import Derived.ShutString
import Derived.ChangeOld
import Derived.Below
import Derived.Deep.Slices
import Derived.LaidMore
import Derived.Lay
import Derived.SizedLaws
import Derived.Laws.BytesArg
import Derived.Stop.Joined
import Derived.SevenTiedAt
namespace Go.Proofs.YtecddbolgegdfaaDoor.nameMays
open Go.ChangeShapes Go.WideShapes Go.ChangeAt Go.RowKit
open Go.ChangeMaps (open_string shut_string)
set_option linter.unusedVariables false

set_option maxRecDepth 100000 in
set_option maxHeartbeats 2000000 in
theorem main (c n a : Int) (w : World) (hT : Tab w) :
    Calls Tryd.prog 6 #[.int .i64 c, .int .i64 n, .int .i64 a] w fun e w' => e = .returned (.bool true) ∧ Kept [] w w' := by
  obtain ⟨b, hb, hb2⟩ : ∃ b : Nat, bits .and .i64 c 127 = (b : Int) ∧ b < 128 := ⟨(c % 128).toNat, by rw [i64_and127]; omega, by omega⟩
  obtain ⟨m, hm, hm2⟩ : ∃ m : Nat, bits .and .i64 n 15 = (m : Int) ∧ m < 16 := ⟨(n % 16).toNat, by rw [i64_and15]; omega, by omega⟩
  obtain ⟨p, hp, hp2⟩ : ∃ p : Nat, (IntKind.u64.wrap a).tmod (1 + (m : Int)) = (p : Int) ∧ p < m + 1 := by
    have : 0 ≤ IntKind.u64.wrap a := by simp [IntKind.wrap, IntKind.signed, IntKind.bits]; omega
    obtain ⟨q, hq⟩ : ∃ q : Nat, IntKind.u64.wrap a = (q : Int) := ⟨(IntKind.u64.wrap a).toNat, by omega⟩
    refine ⟨q % (1 + m), ?_, by have := Nat.mod_lt q (show 0 < 1 + m by omega); omega⟩
    rw [hq]; exact (Int.ofNat_tmod q (1 + m)).symm
  have HT : Hid (Tab w) := hT
  clear hT
  go_enter Tryd.func6, Tryd.ntmps6
  go_wp2_with fail
  refine (awake_any w HT.out).mono ?_
  rintro e w1 ⟨rfl, hkk⟩
  have HK : Hid (Kept [] w w1) := hkk
  clear hkk
  have hmk : ∀ W : World, (Instr.makeSlice 30 (.int .i64 (1 + (m : Int))) (.int .i64 (1 + (m : Int)))).run Tryd.prog W = .ok (.slice (some ⟨W.heap.size, 0, none⟩) (m + 1) (m + 1)) (W.alloc (.cells ((List.replicate (m + 1) (0 : Int)).map (Value.int .u8)).toArray 5)) := fun W => by
    rw [show 1 + (m : Int) = ((m + 1 : Nat) : Int) by omega]
    exact make_bytes (m + 1) (by omega) W
  obtain ⟨W0, hW0⟩ : ∃ W0, w1.alloc (.cells ((List.replicate (m + 1) (0 : Int)).map (Value.int .u8)).toArray 5) = W0 := ⟨_, rfl⟩
  obtain ⟨B, hB⟩ : ∃ B, w1.heap.size = B := ⟨_, rfl⟩
  have hmk1 := hmk w1
  have HB : Hid (Bs w W0 B (List.replicate (m + 1) 0)) := by
    rw [← hW0, ← hB]; exact Bs.made HK.out (m + 1)
  rw [hW0, hB] at hmk1
  clear hmk hW0 hB HK
  go_wp2_with fail
  go_loopw [10] (fun i wr => ∃ (j : Nat), i = .int .i64 (j : Int) ∧ j ≤ m + 1 ∧ Hid (Bs w wr B (List.replicate j 113 ++ List.replicate (m + 1 - j) 0))) (fun i _ => (m + 1 - intOf i).toNat)
  case atStart => exact ⟨0, rfl, by omega, HB.out⟩
  case round =>
    obtain ⟨j, rfl, hj, HJ⟩ := hrel
    by_cases hlt : j < m + 1
    · have i1 : (j : Int) < 1 + (m : Int) := by omega
      have i2 : (j : Int) < (m : Int) + 1 := by omega
      have i0 : (0 : Int) ≤ (j : Int) := by omega
      have hce := HJ.out.cell (i := j) (by simp; omega)
      have hfr := HJ.out.frozen j
      obtain ⟨v, hv⟩ : ∃ v, (List.replicate j (113 : Int) ++ List.replicate (m + 1 - j) 0).getD j 0 = v := ⟨_, rfl⟩
      rw [hv] at hce
      clear hv
      have HN : Hid (Bs w (wr.setCell ⟨B, j, none⟩ (.int .u8 113)) B (List.replicate (j + 1) 113 ++ List.replicate (m + 1 - (j + 1)) 0)) := by
        have := HJ.out.set j 113
        have e : (List.replicate j (113 : Int) ++ List.replicate (m + 1 - j) 0).set j 113 = List.replicate (j + 1) 113 ++ List.replicate (m + 1 - (j + 1)) 0 := by
          rw [show m + 1 - j = (m + 1 - (j + 1)) + 1 by omega, List.replicate_succ, List.set_append_right _ _ (by simp), List.replicate_succ']
          simp
        rw [e] at this
        exact this
      clear HJ
      go_wp2_with fail
      go_roundw
      case rel => exact ⟨j + 1, by go_num, by omega, HN.out⟩
      case measure => simp [intOf]; omega
    · have e1 : j = m + 1 := by omega
      have i1 : ¬ (j : Int) < 1 + (m : Int) := by omega
      have HJ2 : Hid (Bs w wr B (List.replicate (m + 1) 113)) := by
        have := HJ.out
        rw [e1, Nat.sub_self, List.replicate_zero, List.append_nil] at this
        exact this
      clear HJ
      have i2 : (p : Int) < (m : Int) + 1 := by omega
      have i0 : (0 : Int) ≤ (p : Int) := by omega
      have hce := HJ2.out.cell (i := p) (by simp; omega)
      have hfr := HJ2.out.frozen p
      obtain ⟨v, hv⟩ : ∃ v, (List.replicate (m + 1) (113 : Int)).getD p 0 = v := ⟨_, rfl⟩
      rw [hv] at hce
      clear hv
      obtain ⟨W1, hW1⟩ : ∃ W1, wr.setCell ⟨B, p, none⟩ (.int .u8 (b : Int)) = W1 := ⟨_, rfl⟩
      have hB1 : Bs w W1 B (qs (m + 1) p b) := by rw [← hW1]; exact HJ2.out.set p b
      have hcv := hB1.conv (m + 1) (qs_length _ _ _) (m + 1)
      have hck := chk_qs (k := m + 1) (p := p) (b := b) (by omega) hp2 hb2
      have hsz : (strOfNums (qs (m + 1) p b)).size ≤ 16 := by rw [strOfNums_size, qs_length]; omega
      obtain ⟨s, hs⟩ : ∃ s, strOfNums (qs (m + 1) p b) = s := ⟨_, rfl⟩
      rw [hs] at hcv hck hsz
      rw [← hW1] at hcv
      have HW : Hid (_ ∧ _) := ⟨hW1, hB1⟩
      have HS : Hid (_) := hs
      clear hW1 hB1 hs HJ2
      by_cases g : 12 < m + 1
      · by_cases g0 : b < 32
        · have f4 : ¬ 1 + (m : Int) ≤ 12 := by omega
          have f7 : 12 < 1 + (m : Int) := by omega
          have f8 : decide (1 + (m : Int) ≤ 12) = false := by simp; omega
          have f1 : ¬ (32 : Int) ≤ (b : Int) := by omega
          have hv : mayV (m + 1) b = 801 := by unfold mayV; rw [if_pos (by omega)]
          rw [hv] at hck
          have HC : Hid (chk s = 801) := hck
          clear hck hv hlt e1 hj
          clear g g0
          go_wp2_with fail
          rw [HW.out.1]
          refine (n_check s W1 (HT.out.kept HW.out.2.kept)).mono ?_
          rintro e w2 ⟨rfl, hk⟩
          have HB2 : Hid (Bs w w2 B (qs (m + 1) p b)) := HW.out.2.turn hk
          clear hk hcv
          have hcv2 := HB2.out.conv (m + 1) (qs_length _ _ _) (m + 1)
          rw [HS.out] at hcv2
          rw [HC.out]
          go_wp2_with fail
          refine (n_may s w2 (HT.out.kept HB2.out.kept)).mono ?_
          rintro e w3 ⟨rfl, hk⟩
          have H3 : Hid (Kept [] w w3) := HB2.out.kept.trans hk (by simp)
          clear hk hcv2
          rw [HC.out]
          go_wp2_with fail
          refine (num _ _).mono ?_
          rintro e w' ⟨rfl, rfl⟩
          go_wp2_with fail
          go_ret
          exact ⟨rfl, H3.out⟩
        by_cases g1 : b = 127
        · have f4 : ¬ 1 + (m : Int) ≤ 12 := by omega
          have f7 : 12 < 1 + (m : Int) := by omega
          have f8 : decide (1 + (m : Int) ≤ 12) = false := by simp; omega
          have f1 : (32 : Int) ≤ (b : Int) := by omega
          have f2 : ((b : Int) != 127) = false := by simp; omega
          have hv : mayV (m + 1) b = 801 := by unfold mayV; rw [if_pos (by omega)]
          rw [hv] at hck
          have HC : Hid (chk s = 801) := hck
          clear hck hv hlt e1 hj
          clear g g0 g1
          go_wp2_with fail
          rw [HW.out.1]
          refine (n_check s W1 (HT.out.kept HW.out.2.kept)).mono ?_
          rintro e w2 ⟨rfl, hk⟩
          have HB2 : Hid (Bs w w2 B (qs (m + 1) p b)) := HW.out.2.turn hk
          clear hk hcv
          have hcv2 := HB2.out.conv (m + 1) (qs_length _ _ _) (m + 1)
          rw [HS.out] at hcv2
          rw [HC.out]
          go_wp2_with fail
          refine (n_may s w2 (HT.out.kept HB2.out.kept)).mono ?_
          rintro e w3 ⟨rfl, hk⟩
          have H3 : Hid (Kept [] w w3) := HB2.out.kept.trans hk (by simp)
          clear hk hcv2
          rw [HC.out]
          go_wp2_with fail
          refine (num _ _).mono ?_
          rintro e w' ⟨rfl, rfl⟩
          go_wp2_with fail
          go_ret
          exact ⟨rfl, H3.out⟩
        by_cases g2 : b = 47
        · have f4 : ¬ 1 + (m : Int) ≤ 12 := by omega
          have f7 : 12 < 1 + (m : Int) := by omega
          have f8 : decide (1 + (m : Int) ≤ 12) = false := by simp; omega
          have f1 : (32 : Int) ≤ (b : Int) := by omega
          have f2 : ((b : Int) != 127) = true := by simp; omega
          have f3 : ((b : Int) != 47) = false := by simp; omega
          have hv : mayV (m + 1) b = 801 := by unfold mayV; rw [if_pos (by omega)]
          rw [hv] at hck
          have HC : Hid (chk s = 801) := hck
          clear hck hv hlt e1 hj
          clear g g0 g1 g2
          go_wp2_with fail
          rw [HW.out.1]
          refine (n_check s W1 (HT.out.kept HW.out.2.kept)).mono ?_
          rintro e w2 ⟨rfl, hk⟩
          have HB2 : Hid (Bs w w2 B (qs (m + 1) p b)) := HW.out.2.turn hk
          clear hk hcv
          have hcv2 := HB2.out.conv (m + 1) (qs_length _ _ _) (m + 1)
          rw [HS.out] at hcv2
          rw [HC.out]
          go_wp2_with fail
          refine (n_may s w2 (HT.out.kept HB2.out.kept)).mono ?_
          rintro e w3 ⟨rfl, hk⟩
          have H3 : Hid (Kept [] w w3) := HB2.out.kept.trans hk (by simp)
          clear hk hcv2
          rw [HC.out]
          go_wp2_with fail
          refine (num _ _).mono ?_
          rintro e w' ⟨rfl, rfl⟩
          go_wp2_with fail
          go_ret
          exact ⟨rfl, H3.out⟩
        have f4 : ¬ 1 + (m : Int) ≤ 12 := by omega
        have f7 : 12 < 1 + (m : Int) := by omega
        have f8 : decide (1 + (m : Int) ≤ 12) = false := by simp; omega
        have f1 : (32 : Int) ≤ (b : Int) := by omega
        have f2 : ((b : Int) != 127) = true := by simp; omega
        have f3 : ((b : Int) != 47) = true := by simp; omega
        have hv : mayV (m + 1) b = 801 := by unfold mayV; rw [if_pos (by omega)]
        rw [hv] at hck
        have HC : Hid (chk s = 801) := hck
        clear hck hv hlt e1 hj
        clear g g0 g1 g2
        go_wp2_with fail
        rw [HW.out.1]
        refine (n_check s W1 (HT.out.kept HW.out.2.kept)).mono ?_
        rintro e w2 ⟨rfl, hk⟩
        have HB2 : Hid (Bs w w2 B (qs (m + 1) p b)) := HW.out.2.turn hk
        clear hk hcv
        have hcv2 := HB2.out.conv (m + 1) (qs_length _ _ _) (m + 1)
        rw [HS.out] at hcv2
        rw [HC.out]
        go_wp2_with fail
        refine (n_may s w2 (HT.out.kept HB2.out.kept)).mono ?_
        rintro e w3 ⟨rfl, hk⟩
        have H3 : Hid (Kept [] w w3) := HB2.out.kept.trans hk (by simp)
        clear hk hcv2
        rw [HC.out]
        go_wp2_with fail
        refine (num _ _).mono ?_
        rintro e w' ⟨rfl, rfl⟩
        go_wp2_with fail
        go_ret
        exact ⟨rfl, H3.out⟩
      · by_cases g0 : b < 32
        · have f4 : 1 + (m : Int) ≤ 12 := by omega
          have f7 : ¬ 12 < 1 + (m : Int) := by omega
          have f8 : decide (12 < 1 + (m : Int)) = false := by simp; omega
          have f1 : ¬ (32 : Int) ≤ (b : Int) := by omega
          have hv : mayV (m + 1) b = 800 := by unfold mayV; rw [if_neg (by omega), if_pos (by omega)]
          rw [hv] at hck
          have HC : Hid (chk s = 800) := hck
          clear hck hv hlt e1 hj
          clear g g0
          go_wp2_with fail
          rw [HW.out.1]
          refine (n_check s W1 (HT.out.kept HW.out.2.kept)).mono ?_
          rintro e w2 ⟨rfl, hk⟩
          have HB2 : Hid (Bs w w2 B (qs (m + 1) p b)) := HW.out.2.turn hk
          clear hk hcv
          have hcv2 := HB2.out.conv (m + 1) (qs_length _ _ _) (m + 1)
          rw [HS.out] at hcv2
          rw [HC.out]
          go_wp2_with fail
          refine (n_may s w2 (HT.out.kept HB2.out.kept)).mono ?_
          rintro e w3 ⟨rfl, hk⟩
          have H3 : Hid (Kept [] w w3) := HB2.out.kept.trans hk (by simp)
          clear hk hcv2
          rw [HC.out]
          go_wp2_with fail
          refine (num _ _).mono ?_
          rintro e w' ⟨rfl, rfl⟩
          go_wp2_with fail
          go_ret
          exact ⟨rfl, H3.out⟩
        by_cases g1 : b = 127
        · have f4 : 1 + (m : Int) ≤ 12 := by omega
          have f7 : ¬ 12 < 1 + (m : Int) := by omega
          have f8 : decide (12 < 1 + (m : Int)) = false := by simp; omega
          have f1 : (32 : Int) ≤ (b : Int) := by omega
          have f2 : ((b : Int) != 127) = false := by simp; omega
          have hv : mayV (m + 1) b = 800 := by unfold mayV; rw [if_neg (by omega), if_pos (by omega)]
          rw [hv] at hck
          have HC : Hid (chk s = 800) := hck
          clear hck hv hlt e1 hj
          clear g g0 g1
          go_wp2_with fail
          rw [HW.out.1]
          refine (n_check s W1 (HT.out.kept HW.out.2.kept)).mono ?_
          rintro e w2 ⟨rfl, hk⟩
          have HB2 : Hid (Bs w w2 B (qs (m + 1) p b)) := HW.out.2.turn hk
          clear hk hcv
          have hcv2 := HB2.out.conv (m + 1) (qs_length _ _ _) (m + 1)
          rw [HS.out] at hcv2
          rw [HC.out]
          go_wp2_with fail
          refine (n_may s w2 (HT.out.kept HB2.out.kept)).mono ?_
          rintro e w3 ⟨rfl, hk⟩
          have H3 : Hid (Kept [] w w3) := HB2.out.kept.trans hk (by simp)
          clear hk hcv2
          rw [HC.out]
          go_wp2_with fail
          refine (num _ _).mono ?_
          rintro e w' ⟨rfl, rfl⟩
          go_wp2_with fail
          go_ret
          exact ⟨rfl, H3.out⟩
        by_cases g2 : b = 47
        · have f4 : 1 + (m : Int) ≤ 12 := by omega
          have f7 : ¬ 12 < 1 + (m : Int) := by omega
          have f8 : decide (12 < 1 + (m : Int)) = false := by simp; omega
          have f1 : (32 : Int) ≤ (b : Int) := by omega
          have f2 : ((b : Int) != 127) = true := by simp; omega
          have f3 : ((b : Int) != 47) = false := by simp; omega
          have hv : mayV (m + 1) b = 800 := by unfold mayV; rw [if_neg (by omega), if_pos (by omega)]
          rw [hv] at hck
          have HC : Hid (chk s = 800) := hck
          clear hck hv hlt e1 hj
          clear g g0 g1 g2
          go_wp2_with fail
          rw [HW.out.1]
          refine (n_check s W1 (HT.out.kept HW.out.2.kept)).mono ?_
          rintro e w2 ⟨rfl, hk⟩
          have HB2 : Hid (Bs w w2 B (qs (m + 1) p b)) := HW.out.2.turn hk
          clear hk hcv
          have hcv2 := HB2.out.conv (m + 1) (qs_length _ _ _) (m + 1)
          rw [HS.out] at hcv2
          rw [HC.out]
          go_wp2_with fail
          refine (n_may s w2 (HT.out.kept HB2.out.kept)).mono ?_
          rintro e w3 ⟨rfl, hk⟩
          have H3 : Hid (Kept [] w w3) := HB2.out.kept.trans hk (by simp)
          clear hk hcv2
          rw [HC.out]
          go_wp2_with fail
          refine (num _ _).mono ?_
          rintro e w' ⟨rfl, rfl⟩
          go_wp2_with fail
          go_ret
          exact ⟨rfl, H3.out⟩
        by_cases g3 : m + 1 = 1 ∧ b = 46
        · have f4 : 1 + (m : Int) ≤ 12 := by omega
          have f7 : ¬ 12 < 1 + (m : Int) := by omega
          have f8 : decide (12 < 1 + (m : Int)) = false := by simp; omega
          have f1 : (32 : Int) ≤ (b : Int) := by omega
          have f2 : ((b : Int) != 127) = true := by simp; omega
          have f3 : ((b : Int) != 47) = true := by simp; omega
          have f5 : ((1 + (m : Int)) == 1) = true := by simp; omega
          have f6 : ((b : Int) == 46) = true := by simp; omega
          have hv : mayV (m + 1) b = 800 := by unfold mayV; rw [if_neg (by omega), if_pos (by omega)]
          rw [hv] at hck
          have HC : Hid (chk s = 800) := hck
          clear hck hv hlt e1 hj
          clear g g0 g1 g2 g3
          go_wp2_with fail
          rw [HW.out.1]
          refine (n_check s W1 (HT.out.kept HW.out.2.kept)).mono ?_
          rintro e w2 ⟨rfl, hk⟩
          have HB2 : Hid (Bs w w2 B (qs (m + 1) p b)) := HW.out.2.turn hk
          clear hk hcv
          have hcv2 := HB2.out.conv (m + 1) (qs_length _ _ _) (m + 1)
          rw [HS.out] at hcv2
          rw [HC.out]
          go_wp2_with fail
          refine (n_may s w2 (HT.out.kept HB2.out.kept)).mono ?_
          rintro e w3 ⟨rfl, hk⟩
          have H3 : Hid (Kept [] w w3) := HB2.out.kept.trans hk (by simp)
          clear hk hcv2
          rw [HC.out]
          go_wp2_with fail
          refine (num _ _).mono ?_
          rintro e w' ⟨rfl, rfl⟩
          go_wp2_with fail
          go_ret
          exact ⟨rfl, H3.out⟩
        by_cases g4 : m + 1 = 1
        · have f4 : 1 + (m : Int) ≤ 12 := by omega
          have f7 : ¬ 12 < 1 + (m : Int) := by omega
          have f8 : decide (12 < 1 + (m : Int)) = false := by simp; omega
          have f1 : (32 : Int) ≤ (b : Int) := by omega
          have f2 : ((b : Int) != 127) = true := by simp; omega
          have f3 : ((b : Int) != 47) = true := by simp; omega
          have f5 : ((1 + (m : Int)) == 1) = true := by simp; omega
          have f6 : ((b : Int) == 46) = false := by simp; omega
          have hv : mayV (m + 1) b = 0 := by unfold mayV; rw [if_neg (by omega), if_neg (by omega)]
          rw [hv] at hck
          have HC : Hid (chk s = 0) := hck
          clear hck hv hlt e1 hj
          clear g g0 g1 g2 g3 g4
          go_wp2_with fail
          rw [HW.out.1]
          refine (n_check s W1 (HT.out.kept HW.out.2.kept)).mono ?_
          rintro e w2 ⟨rfl, hk⟩
          have HB2 : Hid (Bs w w2 B (qs (m + 1) p b)) := HW.out.2.turn hk
          clear hk hcv
          have hcv2 := HB2.out.conv (m + 1) (qs_length _ _ _) (m + 1)
          rw [HS.out] at hcv2
          rw [HC.out]
          go_wp2_with fail
          refine (n_may s w2 (HT.out.kept HB2.out.kept)).mono ?_
          rintro e w3 ⟨rfl, hk⟩
          have H3 : Hid (Kept [] w w3) := HB2.out.kept.trans hk (by simp)
          clear hk hcv2
          rw [HC.out]
          go_wp2_with fail
          refine (num _ _).mono ?_
          rintro e w' ⟨rfl, rfl⟩
          go_wp2_with fail
          go_ret
          exact ⟨rfl, H3.out⟩
        have f4 : 1 + (m : Int) ≤ 12 := by omega
        have f7 : ¬ 12 < 1 + (m : Int) := by omega
        have f8 : decide (12 < 1 + (m : Int)) = false := by simp; omega
        have f1 : (32 : Int) ≤ (b : Int) := by omega
        have f2 : ((b : Int) != 127) = true := by simp; omega
        have f3 : ((b : Int) != 47) = true := by simp; omega
        have f5 : ((1 + (m : Int)) == 1) = false := by simp; omega
        have hv : mayV (m + 1) b = 0 := by unfold mayV; rw [if_neg (by omega), if_neg (by omega)]
        rw [hv] at hck
        have HC : Hid (chk s = 0) := hck
        clear hck hv hlt e1 hj
        clear g g0 g1 g2 g3 g4
        go_wp2_with fail
        rw [HW.out.1]
        refine (n_check s W1 (HT.out.kept HW.out.2.kept)).mono ?_
        rintro e w2 ⟨rfl, hk⟩
        have HB2 : Hid (Bs w w2 B (qs (m + 1) p b)) := HW.out.2.turn hk
        clear hk hcv
        have hcv2 := HB2.out.conv (m + 1) (qs_length _ _ _) (m + 1)
        rw [HS.out] at hcv2
        rw [HC.out]
        go_wp2_with fail
        refine (n_may s w2 (HT.out.kept HB2.out.kept)).mono ?_
        rintro e w3 ⟨rfl, hk⟩
        have H3 : Hid (Kept [] w w3) := HB2.out.kept.trans hk (by simp)
        clear hk hcv2
        rw [HC.out]
        go_wp2_with fail
        refine (num _ _).mono ?_
        rintro e w' ⟨rfl, rfl⟩
        go_wp2_with fail
        go_ret
        exact ⟨rfl, H3.out⟩

theorem walk (c n a : Int) (w : World) (hT : Tab w) (_ : (Lit.int .i64 c).wf = true) (_ : (Lit.int .i64 n).wf = true) (_ : (Lit.int .i64 a).wf = true) :
    Calls Tryd.prog 6 #[.int .i64 c, .int .i64 n, .int .i64 a] w fun e w' => e = .returned (.bool true) ∧ Below w.heap.size w w' :=
  (main c n a w hT).mono fun e w' ⟨he, hk⟩ => ⟨he, hk.below (Nat.le_refl _) (by simp)⟩

set_option maxRecDepth 100000 in
theorem lifted (os : Os) (started : os.Started) (H : Type) (enc : TypeId × Value → H) :
    ReturnsInHanded {} Tryd.checked os 6 .any (fun w args => (Rows.nameMaysSpec.pre enc Tryd.prog Tryd.f6 [] false w args ∧ laidMetH Tryd.prog laid2 w) ∧ sizedMet enc Tryd.prog Tryd.f6 (OpenSpec.ofChange Rows.nameMaysSpec) false w args)
      (Rows.nameMaysSpec.post enc Tryd.prog Tryd.f6 false true false false) := by
  refine returnsInHanded_of_change_and (C := Tryd.checked) (X := fun w _ => laidMetH Tryd.prog laid2 w) (fun _ _ _ hh h => h.of_heap hh) own started (by kernel_rfl) Tryd.func6
    (ChangeSpec.witness_shaped (enc := enc) (C := Tryd.checked) (os := os) (X := fun w _ => laidMetH Tryd.prog laid2 w) false (World.laidAll Tryd.prog os laid2) #[.int .i64 0, .int .i64 0, .int .i64 0] 8 (World.laidAll_os _ _ _) (World.shaped_of_ZipB (by kernel_rfl) (by kernel_rfl)) (by kernel_rfl) (by kernel_rfl) (by kernel_rfl) (met_laid os _)) ?_
  intro W base args ds gs before hval0 hW _ hsz0 hL _
  have hsz : (DataW.weightsEach Tryd.prog (Tryd.f6.params.toList ++ Rows.nameMaysSpec.plain.varTypes Tryd.prog) (ds ++ gs)).all (· ≤ reachBytes) = true := hsz0
  have hval : ∀ (j : Nat) t v, Tryd.f6.params[j]? = some t → args[j]? = some v → Value.okWide Tryd.prog W .any base t v := hval0
  have hW' := hW
  obtain ⟨p, q, hA0, hV, rfl, hfz, hnd⟩ := hW
  have hA : DataW.TrodAll enc Tryd.prog W 0 (fun _ => true) true Tryd.f6.params.toList args.toList ds p := hA0
  rw [Tryd.params6] at hA hval hsz
  obtain ⟨v0, vs0, d0, ds0, p0, q0, hargs, rfl, rfl, h0, r0⟩ := trodAll_cons hA
  obtain ⟨v1, vs1, d1, ds1, p1, q1, rfl, rfl, rfl, h1, r1⟩ := trodAll_cons r0
  obtain ⟨v2, vs2, d2, ds2, p2, q2, rfl, rfl, rfl, h2, r2⟩ := trodAll_cons r1
  obtain ⟨rfl, rfl, rfl⟩ := trodAll_nil r2
  obtain rfl : args = #[v0, v1, v2] := by cases args; simp_all
  obtain ⟨rfl, rfl⟩ := trodVars_none hV
  obtain ⟨a0, rfl, rfl, rfl, w0⟩ := open_int Tryd.underlying3 (hval 0 3 v0 rfl rfl) h0
  obtain ⟨a1, rfl, rfl, rfl, w1⟩ := open_int Tryd.underlying3 (hval 1 3 v1 rfl rfl) h1
  obtain ⟨a2, rfl, rfl, rfl, w2⟩ := open_int Tryd.underlying3 (hval 2 3 v2 rfl rfl) h2
  clear hA0 hval0
  refine (walk a0 a1 a2 W (of_laid hL) w0 w1 w2).mono fun e W' ⟨he, bel⟩ => ?_
  subst he
  simp only [List.append_nil] at hW'
  exact ⟨_, rfl, _, _, _, [], [], [], hW', (trodAll_cons_mk (shut_bool Tryd.underlying4 _) trodAll_mk0), (trodAll_cons_mk (shut_int Tryd.underlying3 w0) (trodAll_cons_mk (shut_int Tryd.underlying3 w1) (trodAll_cons_mk (shut_int Tryd.underlying3 w2) trodAll_mk0))), rfl, bel.frame _, fun h => by cases h⟩

theorem over : Rows.nameMaysRow.holds Tryd.pinned (OpenSpec.ofChange Rows.nameMaysSpec) :=
  OpenClaim.holds_of_wide 6 Tryd.f6 rfl rfl rfl rfl rfl rfl rfl ⟨rfl, rfl, rfl, rfl, rfl⟩ rfl rfl rfl rfl rfl (by kernel_rfl) Tryd.func6 (by kernel_rfl)
    (of_decide_eq_true (by kernel_rfl)) (by unfold Func.isWrapper; first | (rw [if_pos (by decide +kernel)]; kernel_rfl) | (rw [if_neg (by decide +kernel)]; exact ⟨rfl, rfl⟩))
    (fun os started H enc _ => lifted os started H enc)

theorem card : Rows.NameMaysCardSaid :=
  Claim7.holds_tied_plain_at .later [] [.data, .pinned] true (true, "a19ee9f1284ada8f5c47f7762ea83e95fcdbdffd576c9b261bd8f54d32d6a93a") false
    over (fun _ h => by cases h) (by kernel_rfl) (fun _ h => by cases h) nameMays_row_tie rfl ⟨rfl, rfl⟩ (by kernel_rfl) rfl
    (fun f fn hf hfn => by
      obtain rfl : f = 6 := Option.some.inj ((show Tryd.prog.funcNamed "concourse/concourselaw8.NameMays" = some 6 by kernel_rfl).symm.trans hf) |>.symm
      obtain rfl : fn = Tryd.f6 := (Option.some.inj (Tryd.func6.symm.trans hfn)).symm
      exact ⟨by kernel_rfl, fun j t ht => by
        rw [Tryd.params6] at ht
        have hm : t ∈ [3, 3, 3] := by simpa using Array.mem_of_getElem? ht
        have hall : ([3, 3, 3].all fun u => !Tryd.prog.wantsStandIn u) = true := by kernel_rfl
        exact (show Tryd.prog.wantsStandIn t = false by simpa using List.all_eq_true.1 hall t hm)⟩)
    (by kernel_rfl)

end Go.Proofs.YtecddbolgegdfaaDoor.nameMays

namespace Go.Proofs.YtecddbolgegdfaaDoor
theorem nameMays_holds : Rows.NameMaysCardSaid := nameMays.card
#print axioms nameMays_holds
end Go.Proofs.YtecddbolgegdfaaDoor
