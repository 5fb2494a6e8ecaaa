/-
  The row of the inodes.
-/
import Derived.Test.YtgfdcnjnkljahaaDoorZa
namespace Go.Proofs.YtgfdcnjnkljahaaDoor
open Go.RowKit Go.Lib Go.Maps
set_option linter.unusedVariables false

theorem pushF_len {T : List Fi} {f : Fi} {b : Bool} {m : Nat} (h : T.length ≤ m) : (if b then pushF T f else T).length ≤ m + 1 := by
  cases b
  · simp; omega
  · simp only [if_true]; rw [pushF_length]; omega

set_option maxRecDepth 100000 in
set_option maxHeartbeats 16000000 in
theorem d_nums {U : World} {h : Wh} {p : Pl} {S : Sta} {n : Nat} {wM w : World} {v : Value} {T : List Fi} (m : Md U h p S n wM w v T) (hf : Few S) (hl : T.length ≤ 100000) :
    Calls Tryd.prog 19 #[.pointer (some ⟨h.X, 0, none⟩)] w fun e w' => e = .returned (.tuple #[]) ∧ ∃ v', Md U h p S n wM w' v' (numsR S T) := by
  obtain ⟨a1, c1, a2, c2, a3, c3⟩ := p
  have HM : Hid (Md U h ⟨a1, c1, a2, c2, a3, c3⟩ S n wM w v T) := m
  have HF : Hid (Few S) := hf
  have c0 : w.cell? ⟨h.X, 0, none⟩ = some (.slice a1 S.ino.length c1) := m.c0
  obtain ⟨t, ht⟩ : ∃ t, t = badRoot S := ⟨_, rfl⟩
  have hN : numsR S T = numsL S.ino none (if t then pushF T ⟨1, 1, ⟨#[]⟩⟩ else T) := by rw [ht]; rfl
  obtain ⟨T1, hT1⟩ : ∃ T1, T1 = (if t then pushF T ⟨1, 1, ⟨#[]⟩⟩ else T) := ⟨_, rfl⟩
  have hl1 : T1.length ≤ 100001 := by rw [hT1]; exact pushF_len hl
  rw [hN, ← hT1]
  have HT1 : Hid (T1 = (if t then pushF T ⟨1, 1, ⟨#[]⟩⟩ else T)) := hT1
  have HB0 : Hid (t = badRoot S) := ht
  clear m hf hN ht hT1
  go_enter Tryd.func19, Tryd.ntmps19
  go_upto_region 0 with fail
  go_cut [32] from 4 to 32 (fun v wx => v = .bool t ∧ wx = w)
  case first =>
    cases hS : S.ino with
    | nil =>
      have HR : Hid (t = true) := by show _ = _; rw [HB0.out]; unfold badRoot; rw [hS]
      have b1 : ((S.ino.length : Int) == 0) = true := by simp [hS]
      clear hS
      go_wp2_with fail
      go_meet
      case rel => exact ⟨by rw [HR.out], rfl⟩
    | cons x L =>
      have b1 : ((S.ino.length : Int) == 0) = false := by rw [beq_eq_false_iff_ne]; simp [hS]; omega
      have l0 : 0 < S.ino.length := by simp [hS]
      obtain ⟨b, o, ae, ce, ea, i0, i1, -⟩ := HM.out.svw.ino 0 l0
      have e0 : S.ino[0] = x := by simp [hS]
      rw [e0] at i0 i1
      have i0' : w.cell? ⟨b, o, none⟩ = some (.int .i64 x.num) := by simpa using i0
      have i1' : w.cell? ⟨b, o + 1, none⟩ = some (.bool x.dir) := by simpa using i1
      have HR : Hid (t = (!(x.num == 1) || !x.dir)) := by show _ = _; rw [HB0.out]; unfold badRoot; rw [hS]
      have l1 : (0 : Int) < (S.ino.length : Int) := by omega
      dsimp only at ea
      subst ea
      clear hS e0 i0 i1 l0
      by_cases hx : x.num = 1
      · have b2 : (x.num != 1) = false := by simp [hx]
        have b3 : (x.num == 1) = true := by simp [hx]
        rw [b3] at HR
        clear hx b3
        go_wp2_with fail
        go_meet
        case rel => exact ⟨by rw [HR.out]; simp, rfl⟩
      · have b2 : (x.num != 1) = true := by simpa using hx
        have b3 : (x.num == 1) = false := by simpa using hx
        rw [b3] at HR
        clear hx b3
        go_wp2_with fail
        go_meet
        case rel => exact ⟨by rw [HR.out]; simp, rfl⟩
  case rest =>
    obtain ⟨rfl, hw⟩ := hcut
    have hw2 := hw.symm
    subst hw2
    clear hw
    clear HB0
    go_upto_if 32 with fail
    go_cut [] from 33 to 36 (fun wx => ∃ v', Hid (Md U h ⟨a1, c1, a2, c2, a3, c3⟩ S n wM wx v' (if t then pushF T ⟨1, 1, ⟨#[]⟩⟩ else T)))
    case first =>
      cases t
      · go_wp2_with fail
        go_meet
        case rel => exact ⟨_, HM.out⟩
      · go_wp2_with fail
        refine (d_add HM.out 1 1 ⟨#[]⟩ (by omega)).mono ?_
        rintro e w5 ⟨rfl, v5, h5, k5⟩
        have HM5 : Hid (_) := h5
        clear h5 k5
        go_wp2_with fail
        go_meet
        case rel => exact ⟨_, HM5.out⟩
    case rest =>
      obtain ⟨v1, HM1⟩ := hcut
      rw [← HT1.out] at HM1
      clear HM
      have x0 : wc.cell? ⟨h.X, 0, none⟩ = some (.slice a1 S.ino.length c1) := HM1.out.c0
      clear c0
      have hn1 : S.ino.length ≤ 100 := HF.out.n1
      go_wp2_with fail
      clear x0
      go_loopw [43] (fun ix wr => ∃ (j : Nat) (v2 : Value) (T2 : List Fi), ix = .int .i64 (j : Int) ∧ j ≤ S.ino.length ∧ T2.length ≤ 100001 + j ∧ Hid (Md U h ⟨a1, c1, a2, c2, a3, c3⟩ S n wM wr v2 T2 ∧ numsL (S.ino.drop j) (prevN S.ino j) T2 = numsL S.ino none T1)) (fun ix _ => (S.ino.length - intOf ix).toNat)
      case atStart => exact ⟨0, _, _, rfl, by omega, by omega, HM1.out, rfl⟩
      case round =>
        obtain ⟨j, v2, T2, rfl, hj, hl2, HJ⟩ := hrel
        obtain ⟨hm, hK⟩ := HJ.out
        by_cases hlt : j < S.ino.length
        · obtain ⟨b, o, ae, ce, ea, i0, i1, i2, i3, -⟩ := hm.svw.ino j hlt
          obtain ⟨x, hx⟩ : ∃ x, x = S.ino[j] := ⟨_, rfl⟩
          rw [← hx] at i0 i1 i2 i3
          have hd : S.ino.drop j = x :: S.ino.drop (j + 1) := by rw [hx]; exact List.drop_eq_getElem_cons hlt
          have hpn : prevN S.ino (j + 1) = some x.num := by unfold prevN; rw [if_neg (by omega)]; simp [inoAt, hlt, hx]
          rw [hd, numsL, ← hpn] at hK
          obtain ⟨t5, ht5⟩ : ∃ t5, t5 = badN x (prevN S.ino j) := ⟨_, rfl⟩
          rw [← ht5] at hK
          have HK : Hid (numsL (S.ino.drop (j + 1)) (prevN S.ino (j + 1)) (if t5 then pushF T2 ⟨1, x.num, ⟨#[]⟩⟩ else T2) = numsL S.ino none T1) := hK
          have HB : Hid (t5 = badN x (prevN S.ino j)) := ht5
          obtain ⟨V, Y, HVY, kv, b1⟩ := one_box wr #[.int .i64 x.num, .bool x.dir, .slice ae x.ents.length ce, .string x.data] 31
          have hmv := hm.same kv
          have HV : Hid (_) := hmv
          have HMr : Hid (_) := hm
          have HYw : Hid (wr.heap.size ≤ Y) := Nat.le_of_eq HVY.out.2
          have HYb : Hid (V.heap[Y]? = some (.cells #[.int .i64 x.num, .bool x.dir, .slice ae x.ents.length ce, .string x.data] 31 (0, 0))) := b1
          have y0 : V.cell? ⟨Y, 0, none⟩ = some (.int .i64 x.num) := cellB b1
          have q0 : V.cell? ⟨h.X, 0, none⟩ = some (.slice a1 S.ino.length c1) := hmv.c0
          have j0 : (0 : Int) ≤ (j : Int) := by omega
          have j1 : (j : Int) < (S.ino.length : Int) := by omega
          dsimp only at ea
          have HPv : Hid (0 < j → V.cell? ⟨b, o + (j - 1) * 4, none⟩ = some (.int .i64 (inoAt S.ino (j - 1)).num)) := by
            intro hj0
            obtain ⟨b', o', ae', ce', ea', p0, -⟩ := hmv.svw.ino (j - 1) (by omega)
            dsimp only at ea'
            rw [ea] at ea'
            injection ea' with ea'
            injection ea' with e1 e2
            subst e1 e2
            rw [p0]
            unfold inoAt
            simp [show j - 1 < S.ino.length by omega]
          subst ea
          clear hm hK HJ hx hd hpn ht5 kv b1 hmv HM1
          go_upto_region 5 with fail
          rw [HVY.out.1, HVY.out.2]
          clear HVY i0 i1 i2 i3
          go_cut [69] from 48 to 69 (fun vv wx => vv = .bool t5 ∧ ∃ q, wx = V.drewN q)
          case first =>
            by_cases d1 : x.num < 1
            · have HT : Hid (t5 = true) := by show _ = _; rw [HB.out]; unfold badN; simp [d1]
              go_quiet (fail)
              go_wp2_with fail
              go_meet
              case rel => exact ⟨by rw [HT.out], _, rfl⟩
            · by_cases d2 : j = 0
              · have HT : Hid (t5 = false) := by show _ = _; rw [HB.out]; unfold badN prevN; simp [d1, d2]
                clear HPv
                subst d2
                go_quiet (fail)
                go_wp2_with fail
                go_meet
                case rel => exact ⟨by rw [HT.out], _, rfl⟩
              · have pv := HPv.out (by omega)
                obtain ⟨z, hz⟩ : ∃ z, z = (inoAt S.ino (j - 1)).num := ⟨_, rfl⟩
                have HT : Hid (t5 = decide (x.num ≤ z)) := by show _ = _; rw [HB.out, hz]; unfold badN prevN; simp [d1, d2]
                rw [← hz] at pv
                obtain ⟨i, hi⟩ : ∃ i, j = i + 1 := ⟨j - 1, by omega⟩
                subst hi
                have e1 : ((i + 1 : Nat) : Int) - 1 = (i : Int) := by omega
                have e2 : IntKind.i64.wrap (((i + 1 : Nat) : Int) - 1) = (i : Int) := by rw [e1, IntKind.wrap_i64]; omega
                have k0 : (0 : Int) ≤ (i : Int) := by omega
                have k1 : (i : Int) < (S.ino.length : Int) := by omega
                have k2 : (0 : Int) < ((i + 1 : Nat) : Int) := by omega
                rw [Nat.add_sub_cancel] at pv
                clear hz HPv d2
                by_cases d4 : x.num ≤ z
                · have hdt : decide (x.num ≤ z) = true := by simp [d4]
                  rw [hdt] at HT
                  go_quiet (fail)
                  go_wp2_with fail
                  go_meet
                  case rel => exact ⟨by rw [HT.out], _, rfl⟩
                · have hdt : decide (x.num ≤ z) = false := by simp [d4]
                  rw [hdt] at HT
                  go_quiet (fail)
                  go_wp2_with fail
                  go_meet
                  case rel => exact ⟨by rw [HT.out], _, rfl⟩
          case rest =>
            obtain ⟨rfl, nq, hq⟩ := hcut
            obtain ⟨V2, hV2⟩ : ∃ V2, V2 = V.drewN nq := ⟨_, rfl⟩
            rw [← hV2] at hq
            subst hq
            have HV2 : Hid (Md U h ⟨some ⟨b, o, none⟩, c1, a2, c2, a3, c3⟩ S n wM wc v2 T2) := by rw [hV2]; exact HV.out.same ((Kept.refl _ _).drewN _)
            have y2 : wc.cell? ⟨Y, 0, none⟩ = some (.int .i64 x.num) := by rw [hV2]; exact y0
            clear HV y0 q0 HPv HB
            have HYc : Hid (wc.heap[Y]? = some (.cells #[.int .i64 x.num, .bool x.dir, .slice ae x.ents.length ce, .string x.data] 31 (0, 0))) := by show _ = _; rw [hV2]; exact HYb.out
            clear hV2 HYb
            cases t5
            · go_wp2_with fail
              go_roundw
              case rel => exact ⟨j + 1, _, _, by go_num, by omega, by omega, HV2.out, HK.out⟩
              case measure => simp [intOf]; omega
            · go_upto_region 6 with fail
              go_region_held3 (fun w' => w'.cell? ⟨Y, 0, none⟩ = some (.int .i64 x.num)) (first | exact y2 | exact z6 | go_keep)
                (first
                  | (go_at_call 29; refine (d_add (HV2.out.same ((Kept.refl _ _).drew)) 1 x.num ⟨#[]⟩ (by omega)).mono ?_; rintro e w6 ⟨rfl, v6, h6, k6⟩; have z6 : w6.cell? ⟨Y, 0, none⟩ = some (.int .i64 x.num) := by rw [cellB (HMr.out.box HYw.out (w1 := wc.drew) HYc.out k6)]; rfl))
              have HM6 : Hid (_) := h6
              clear h6 k6 z6
              go_wp2_with fail
              go_roundw
              case rel => exact ⟨j + 1, _, _, by go_num, by omega, by rw [pushF_length]; omega, HM6.out, HK.out⟩
              case measure => simp [intOf]; omega
        · have ej : j = S.ino.length := by omega
          have HE : Hid (T2 = numsL S.ino none T1) := by show _ = _; rw [← hK, ej, List.drop_length]; rfl
          have HM2 : Hid (_) := hm
          have j1 : ¬ (j : Int) < (S.ino.length : Int) := by omega
          clear hm hK HJ HM1 ej
          go_wp2_with fail
          go_end0
          exact ⟨rfl, _, by rw [← HE.out]; exact HM2.out⟩

end Go.Proofs.YtgfdcnjnkljahaaDoor
