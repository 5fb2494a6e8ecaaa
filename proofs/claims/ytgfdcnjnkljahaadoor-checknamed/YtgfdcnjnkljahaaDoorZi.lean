/-
  How each inode is held: holds.
-/
import Derived.Test.YtgfdcnjnkljahaaDoorZf
namespace Go.Proofs.YtgfdcnjnkljahaaDoor
open Go.RowKit Go.Lib Go.Maps
set_option linter.unusedVariables false
set_option linter.unusedSimpArgs false

theorem Mb.first0 {U : World} {h : Wh} {p : Pl} {S : Sta} {n : Nat} {wM w : World} {v : Value} {T : List Fi} {Bs : List (Nat × Obj)} {Y : Nat} {d0 d1 d2 d3 : Value} {t : TypeId} {z : Nat × Nat} (m : Mb U h p S n wM w v T ((Y, .cells #[d0, d1, d2, d3] t z) :: Bs)) : w.cell? ⟨Y, 0, none⟩ = some d0 := by
  rw [cellB (m.bs _ (List.mem_cons_self ..)).2.2]; rfl

set_option maxRecDepth 100000 in
set_option maxHeartbeats 16000000 in
theorem d_holds {U : World} {h : Wh} {p : Pl} {S : Sta} {n : Nat} {wM w : World} {v : Value} {T : List Fi} (m : Md U h p S n wM w v T) (hf : Few S) (hfl : (foundL S).length = S.ino.length) (hl : T.length ≤ 100000) :
    Calls Tryd.prog 21 #[.pointer (some ⟨h.X, 0, none⟩)] w fun e w' => e = .returned (.tuple #[]) ∧ ∃ v', Md U h p S n wM w' v' (holdsR S T) := by
  obtain ⟨a1, c1, a2, c2, a3, c3⟩ := p
  have HM : Hid (Mb U h ⟨a1, c1, a2, c2, a3, c3⟩ S n wM w v T []) := m.alone
  have HF : Hid (Few S) := hf
  have hn1 : S.ino.length ≤ 100 := hf.n1
  have x0 : w.cell? ⟨h.X, 0, none⟩ = some (.slice a1 S.ino.length c1) := m.c0
  have HFl : Hid (∀ i, i < S.ino.length → ∀ {w : World} {v : Value} {T : List Fi}, Md U h ⟨a1, c1, a2, c2, a3, c3⟩ S n wM w v T → w.cell? ⟨h.bf, i, none⟩ = some (.bool ((foundL S).getD i true))) := fun i hi w v T m => m.found i (by rw [hfl]; exact hi)
  have HR : Hid (holdsR S T = holdsL S S.ino 0 T) := rfl
  obtain ⟨T0, hT0⟩ : ∃ T0, T0 = T := ⟨_, rfl⟩
  rw [← hT0] at HR
  have HT0 : Hid (T0 = T) := hT0
  clear m hf hT0 hfl
  go_enter Tryd.func21, Tryd.ntmps21
  go_wp2_with fail
  clear x0
  go_loopw [11] (fun ix wr => ∃ (j : Nat) (v2 : Value) (T2 : List Fi), ix = .int .i64 (j : Int) ∧ j ≤ S.ino.length ∧ T2.length ≤ 100000 + 2 * j ∧ Hid (Mb U h ⟨a1, c1, a2, c2, a3, c3⟩ S n wM wr v2 T2 [] ∧ holdsL S (S.ino.drop j) j T2 = holdsL S S.ino 0 T0)) (fun ix _ => (S.ino.length - intOf ix).toNat)
  case atStart => exact ⟨0, _, _, rfl, by omega, by omega, HM.out, by rw [HT0.out]; rfl⟩
  case round =>
    obtain ⟨j, v2, T2, rfl, hj, hl2, HJ⟩ := hrel
    clear HM
    by_cases hlt : j < S.ino.length
    · obtain ⟨hm, hK⟩ := HJ.out
      obtain ⟨b, o, ae, ce, ea, i0, i1, i2, i3, hea, -⟩ := hm.md.sv.ino j hlt
      have i0 := hm.md.kU.cell i0 (by simp)
      have i1 := hm.md.kU.cell i1 (by simp)
      have i2 := hm.md.kU.cell i2 (by simp)
      have i3 := hm.md.kU.cell i3 (by simp)
      obtain ⟨x, hx⟩ : ∃ x, x = S.ino[j] := ⟨_, rfl⟩
      have hxm : x ∈ S.ino := by rw [hx]; exact List.getElem_mem hlt
      rw [← hx] at i0 i1 i2 i3 hea
      have HW : Hid (Wf x.num) := HF.out.w1 x hxm
      have hd : S.ino.drop j = x :: S.ino.drop (j + 1) := by rw [hx]; exact List.drop_eq_getElem_cons hlt
      obtain ⟨fnd, hfnd⟩ : ∃ fnd, fnd = (foundL S).getD j true := ⟨_, rfl⟩
      obtain ⟨t3, ht3⟩ : ∃ t3, t3 = badL (entriesG S) x := ⟨_, rfl⟩
      obtain ⟨t4, ht4⟩ : ∃ t4, t4 = badP (opensG S) fnd x := ⟨_, rfl⟩
      rw [hd, holdsL, ← hfnd, ← ht3, ← ht4] at hK
      have HK : Hid (_) := hK
      obtain ⟨z3, hz3⟩ : ∃ z3, z3 = (entriesG S x.num).getD 0 := ⟨_, rfl⟩
      obtain ⟨z4, hz4⟩ : ∃ z4, z4 = (opensG S x.num).getD 0 := ⟨_, rfl⟩
      have HBt3 : Hid (t3 = (x.dir && !(x.num == 1) && !(z3 == 1))) := by show _ = _; rw [ht3, badL, hz3]
      have HBt4 : Hid (t4 = (!fnd && !(!x.dir && decide (0 < z4)))) := by show _ = _; rw [ht4, badP, hz4]
      have HFn : Hid (∀ {w : World} {v : Value} {T : List Fi}, Md U h ⟨a1, c1, a2, c2, a3, c3⟩ S n wM w v T → w.cell? ⟨h.bf, j, none⟩ = some (.bool fnd)) := by rw [hfnd]; exact HFl.out j hlt
      have HK3 : Hid (∀ {w : World} {v : Value} {T : List Fi}, Md U h ⟨a1, c1, a2, c2, a3, c3⟩ S n wM w v T → (Instr.lookup 53 (.map (some h.b2)) (.int .i64 x.num) false).run Tryd.prog w = .ok (.int .i64 z3) w) := by rw [hz3]; exact fun m => m.m2.look HW.out
      have HK4 : Hid (∀ {w : World} {v : Value} {T : List Fi}, Md U h ⟨a1, c1, a2, c2, a3, c3⟩ S n wM w v T → (Instr.lookup 53 (.map (some h.b3)) (.int .i64 x.num) false).run Tryd.prog w = .ok (.int .i64 z4) w) := by rw [hz4]; exact fun m => m.m3.look HW.out
      obtain ⟨V, Y, HVY, kv, b1⟩ := one_box wr #[.int .i64 x.num, .bool x.dir, .slice ae x.ents.length ce, .string x.data] 31
      have HV : Hid (_) := hm.more kv (Nat.le_of_eq HVY.out.2) b1
      have y0 : V.cell? ⟨Y, 0, none⟩ = some (.int .i64 x.num) := cellB b1
      have y1 : V.cell? ⟨Y, 1, none⟩ = some (.bool x.dir) := cellB b1
      have j0 : (0 : Int) ≤ (j : Int) := by omega
      have j1 : (j : Int) < (S.ino.length : Int) := by omega
      dsimp only at ea
      subst ea
      obtain ⟨num, dir, ents, data⟩ := x
      dsimp only at *
      clear hm hK HJ hd hfnd ht3 ht4 hz3 hz4 kv b1 hea hx hxm HFl
      go_upto_region 3 with fail
      rw [HVY.out.1, HVY.out.2]
      clear HVY i0 i1 i2 i3
      go_cut [32] from 16 to 32 (fun vv wx => vv = .bool t3 ∧ ∃ q, wx = V.drewN q)
      case first =>
        have q2 : V.cell? ⟨h.X, 4, none⟩ = some (.map (some h.b2)) := HV.out.md.c4
        have hlk : ∀ q, (Instr.lookup 53 (.map (some h.b2)) (.int .i64 num) false).run Tryd.prog (V.drewN q) = .ok (.int .i64 z3) (V.drewN q) := fun q => HK3.out (HV.out.same ((Kept.refl _ _).drewN q)).md
        cases dir
        · have HT5 : Hid (t3 = false) := by show _ = _; rw [HBt3.out]; rfl
          go_quiet (fail)
          go_wp2_with fail
          go_meet
          case rel => exact ⟨by rw [HT5.out], _, rfl⟩
        · by_cases d1 : num = 1
          · have e1 : (num != 1) = false := by simp [d1]
            have HT5 : Hid (t3 = false) := by show _ = _; rw [HBt3.out]; simp [d1]
            go_quiet (fail)
            go_wp2_with fail
            go_meet
            case rel => exact ⟨by rw [HT5.out], _, rfl⟩
          · have e1 : (num != 1) = true := by simp [d1]
            by_cases d2 : z3 = 1
            · have e2 : (z3 != 1) = false := by simp [d2]
              have HT5 : Hid (t3 = false) := by show _ = _; rw [HBt3.out]; simp [d1, d2]
              go_quiet (fail)
              go_wp2_with fail
              go_meet
              case rel => exact ⟨by rw [HT5.out], _, rfl⟩
            · have e2 : (z3 != 1) = true := by simp [d2]
              have HT5 : Hid (t3 = true) := by show _ = _; rw [HBt3.out]; simp [d1, d2]
              go_quiet (fail)
              go_wp2_with fail
              go_meet
              case rel => exact ⟨by rw [HT5.out], _, rfl⟩
      case rest =>
        obtain ⟨rfl, nq, hq⟩ := hcut
        obtain ⟨V2, hV2⟩ : ∃ V2, V2 = V.drewN nq := ⟨_, rfl⟩
        rw [← hV2] at hq
        subst hq
        have HV2 : Hid (Mb U h ⟨some ⟨b, o, none⟩, c1, a2, c2, a3, c3⟩ S n wM wc v2 T2 ((Y, .cells #[.int .i64 num, .bool dir, .slice ae ents.length ce, .string data] 31 (0, 0)) :: [])) := by rw [hV2]; exact HV.out.same ((Kept.refl _ _).drewN _)
        clear HV y0 y1 hV2 HBt3 HK3
        go_upto_if 32 with fail
        go_cut [] from 33 to 38 (fun wx => ∃ v', Hid (Mb U h ⟨some ⟨b, o, none⟩, c1, a2, c2, a3, c3⟩ S n wM wx v' (if t3 then pushF T2 ⟨3, num, ⟨#[]⟩⟩ else T2) ((Y, .cells #[.int .i64 num, .bool dir, .slice ae ents.length ce, .string data] 31 (0, 0)) :: [])))
        case first =>
          have HC : Hid (wc.cell? ⟨Y, 0, none⟩ = some (.int .i64 num)) := by show _ = _; rw [cellB (HV2.out.bs (Y, .cells #[.int .i64 num, .bool dir, .slice ae ents.length ce, .string data] 31 (0, 0)) (by simp)).2.2]; rfl
          cases t3
          · go_wp2_with fail
            go_meet
            case rel => exact ⟨_, HV2.out⟩
          · go_upto_region 4 with fail
            go_region_held3 (fun w' => w'.cell? ⟨Y, 0, none⟩ = some (.int .i64 num)) (first | exact HC.out | exact z6 | go_keep)
              (first
                | (go_at_call 29; refine (mb_add (HV2.out.same ((Kept.refl _ _).drew)) 3 num ⟨#[]⟩ (by omega)).mono ?_; rintro e6 w6 ⟨rfl, v6, h6⟩; have z6 : w6.cell? ⟨Y, 0, none⟩ = some (.int .i64 num) := by rw [cellB (h6.bs (Y, .cells #[.int .i64 num, .bool dir, .slice ae ents.length ce, .string data] 31 (0, 0)) (by simp)).2.2]; rfl))
            have HM6 : Hid (_) := h6
            clear h6 z6
            go_wp2_with fail
            go_meet
            case rel => exact ⟨_, HM6.out⟩
        case rest =>
          obtain ⟨v6, HV6⟩ := hcut
          clear HV2
          obtain ⟨T6, hT6⟩ : ∃ T6, T6 = (if t3 then pushF T2 ⟨3, num, ⟨#[]⟩⟩ else T2) := ⟨_, rfl⟩
          have hl6 : T6.length ≤ 100000 + 2 * j + 1 := by rw [hT6]; exact pushF_len hl2
          rw [← hT6] at HV6 HK
          have y0 : wc.cell? ⟨Y, 0, none⟩ = some (.int .i64 num) := by rw [cellB (HV6.out.bs (Y, .cells #[.int .i64 num, .bool dir, .slice ae ents.length ce, .string data] 31 (0, 0)) (by simp)).2.2]; rfl
          have y1 : wc.cell? ⟨Y, 1, none⟩ = some (.bool dir) := by rw [cellB (HV6.out.bs (Y, .cells #[.int .i64 num, .bool dir, .slice ae ents.length ce, .string data] 31 (0, 0)) (by simp)).2.2]; rfl
          clear hT6
          obtain ⟨t7, ht7⟩ : ∃ t7, t7 = (!dir && decide (0 < z4)) := ⟨_, rfl⟩
          have HBt7 : Hid (t7 = (!dir && decide (0 < z4))) := ht7
          rw [← ht7] at HBt4
          clear ht7
          obtain ⟨W0, hW0⟩ : ∃ W0, W0 = wc := ⟨_, rfl⟩
          subst hW0
          go_upto_region 5 with fail
          go_cut [4] from 39 to 51 (fun vv wx => vv = .bool t7 ∧ ∃ q, wx = W0.drewN q)
          case first =>
            have q3 : W0.cell? ⟨h.X, 5, none⟩ = some (.map (some h.b3)) := HV6.out.md.c5
            have hlk : ∀ q, (Instr.lookup 53 (.map (some h.b3)) (.int .i64 num) false).run Tryd.prog (W0.drewN q) = .ok (.int .i64 z4) (W0.drewN q) := fun q => HK4.out (HV6.out.same ((Kept.refl _ _).drewN q)).md
            cases dir
            · by_cases d2 : 0 < z4
              · have HT5 : Hid (t7 = true) := by show _ = _; rw [HBt7.out]; simp [d2]
                go_quiet (fail)
                go_wp2_with fail
                go_meet
                case rel => exact ⟨by rw [HT5.out], _, rfl⟩
              · have HT5 : Hid (t7 = false) := by show _ = _; rw [HBt7.out]; simp [d2]
                go_quiet (fail)
                go_wp2_with fail
                go_meet
                case rel => exact ⟨by rw [HT5.out], _, rfl⟩
            · have HT5 : Hid (t7 = false) := by show _ = _; rw [HBt7.out]; rfl
              go_quiet (fail)
              go_wp2_with fail
              go_meet
              case rel => exact ⟨by rw [HT5.out], _, rfl⟩
          case rest =>
            obtain ⟨rfl, nq3, hq3⟩ := hcut
            obtain ⟨V3, hV3⟩ : ∃ V3, V3 = W0.drewN nq3 := ⟨_, rfl⟩
            rw [← hV3] at hq3
            subst hq3
            have HV3 : Hid (Mb U h ⟨some ⟨b, o, none⟩, c1, a2, c2, a3, c3⟩ S n wM wc v6 T6 ((Y, .cells #[.int .i64 num, .bool dir, .slice ae ents.length ce, .string data] 31 (0, 0)) :: [])) := by rw [hV3]; exact HV6.out.same ((Kept.refl _ _).drewN _)
            clear HV6 y0 y1 hV3 HBt7 HK4
            go_upto_region 6 with fail
            go_cut [63] from 52 to 63 (fun vv wx => vv = .bool t4 ∧ wx = wc)
            case first =>
              have q6 : wc.cell? ⟨h.X, 6, none⟩ = some (.slice (some ⟨h.bf, 0, none⟩) S.ino.length S.ino.length) := HV3.out.md.c6
              have qf : wc.cell? ⟨h.bf, j, none⟩ = some (.bool fnd) := HFn.out HV3.out.md
              cases fnd
              · cases t7
                · have HT5 : Hid (t4 = true) := by show _ = _; rw [HBt4.out]; rfl
                  go_wp2_with fail
                  go_meet
                  case rel => exact ⟨by rw [HT5.out], rfl⟩
                · have HT5 : Hid (t4 = false) := by show _ = _; rw [HBt4.out]; rfl
                  go_wp2_with fail
                  go_meet
                  case rel => exact ⟨by rw [HT5.out], rfl⟩
              · have HT5 : Hid (t4 = false) := by show _ = _; rw [HBt4.out]; rfl
                go_wp2_with fail
                go_meet
                case rel => exact ⟨by rw [HT5.out], rfl⟩
            case rest =>
              obtain ⟨rfl, hw⟩ := hcut
              have hw2 := hw.symm
              subst hw2
              clear hw
              have HC : Hid (_) := HV3.out.first0
              cases t4
              · have HL9 : Hid (T6.length ≤ 100000 + 2 * j + 1) := hl6
                go_wp2_with fail
                go_roundw
                case rel => exact ⟨j + 1, _, _, by go_num, by omega, by have := HL9.out; omega, HV3.out.fewer (by simp), HK.out⟩
                case measure => simp [intOf]; omega
              · go_upto_region 7 with fail
                go_region_held3 (fun w' => w'.cell? ⟨Y, 0, none⟩ = some (.int .i64 num)) (first | exact HC.out | exact z6 | go_keep)
                  (first
                    | (go_at_call 29; refine (mb_add (HV3.out.same ((Kept.refl _ _).drew)) 4 num ⟨#[]⟩ (by omega)).mono ?_; rintro e6 w6 ⟨rfl, v6, h6⟩; have z6 : w6.cell? ⟨Y, 0, none⟩ = some (.int .i64 num) := by rw [cellB (h6.bs (Y, .cells #[.int .i64 num, .bool dir, .slice ae ents.length ce, .string data] 31 (0, 0)) (by simp)).2.2]; rfl))
                have HM6 : Hid (_) := h6
                have HL9 : Hid ((pushF T6 ⟨4, num, ⟨#[]⟩⟩).length ≤ 100000 + 2 * j + 1 + 1) := by show _ ≤ _; rw [pushF_length]; omega
                clear h6 z6
                go_wp2_with fail
                go_roundw
                case rel => exact ⟨j + 1, _, _, by go_num, by omega, by have := HL9.out; omega, HM6.out.fewer (by simp), HK.out⟩
                case measure => simp [intOf]; omega
    · obtain ⟨hm, hK⟩ := HJ.out
      have ej : j = S.ino.length := by omega
      rw [ej, List.drop_length] at hK
      have HE : Hid (T2 = holdsL S S.ino 0 T0) := hK
      have HM2 : Hid (_) := hm
      have j1 : ¬ (j : Int) < (S.ino.length : Int) := by omega
      clear hm hK HJ ej
      go_wp2_with fail
      go_end0
      exact ⟨rfl, _, by rw [← HT0.out, HR.out, ← HE.out]; exact HM2.out.md⟩

end Go.Proofs.YtgfdcnjnkljahaaDoor
