/-
  What the cores made: made.
-/
import Derived.Test.YtgfdcnjnkljahaaDoorZj
import Derived.Test.YtgfdcnjnkljahaaDoorZi
namespace Go.Proofs.YtgfdcnjnkljahaaDoor
open Go.RowKit Go.Lib Go.Maps
set_option linter.unusedVariables false
set_option linter.unusedSimpArgs false

theorem madeL_len : ∀ (M : List Int) (i : Nat) (T : List Fi) (m : Nat), T.length ≤ m → (madeL M i T).length ≤ m + M.length := by
  intro M
  induction M with
  | nil => intro i T m h; exact h
  | cons x M ih =>
    intro i T m h
    rw [madeL]
    have := ih (i + 1) _ (m + 1) (pushF_len (b := decide (x < 0) || decide (32 < x)) (f := ⟨8, (i : Int), ⟨#[]⟩⟩) h)
    simp only [List.length_cons]
    omega

set_option maxRecDepth 100000 in
set_option maxHeartbeats 16000000 in
theorem d_made {U : World} {h : Wh} {p : Pl} {S : Sta} {n : Nat} {wM w : World} {v : Value} {T : List Fi} (m : Md U h p S n wM w v T) (hf : Few S) (hl : T.length ≤ 100000) :
    Calls Tryd.prog 22 #[.pointer (some ⟨h.X, 0, none⟩)] w fun e w' => e = .returned (.tuple #[]) ∧ ∃ v', Md U h p S n wM w' v' (madeR S T) := by
  obtain ⟨a1, c1, a2, c2, a3, c3⟩ := p
  have HM : Hid (Mb U h ⟨a1, c1, a2, c2, a3, c3⟩ S n wM w v T []) := m.alone
  have HF : Hid (Few S) := hf
  have hn1 : S.ino.length ≤ 100 := hf.n1
  have hn3 : S.made.length ≤ 100 := hf.n3
  have x2 : w.cell? ⟨h.X, 2, none⟩ = some (.slice a3 S.made.length c3) := m.c2
  obtain ⟨t0, ht0⟩ : ∃ t0, t0 = (decide (S.made.length < 1) || decide (8 < S.made.length)) := ⟨_, rfl⟩
  have HR : Hid (madeR S T = givenL S S.ino (madeL S.made 0 (if t0 then pushF T ⟨8, -1, ⟨#[]⟩⟩ else T))) := by show _ = _; rw [ht0]; rfl
  have HB0 : Hid (t0 = (decide (S.made.length < 1) || decide (8 < S.made.length))) := ht0
  clear m hf ht0
  go_enter Tryd.func22, Tryd.ntmps22
  go_upto_region 0 with fail
  go_cut [21] from 6 to 21 (fun vv wx => vv = .bool t0 ∧ wx = w)
  case first =>
    by_cases d1 : S.made.length < 1
    · have i1 : (S.made.length : Int) < 1 := by omega
      have HT5 : Hid (t0 = true) := by show _ = _; rw [HB0.out]; simp [d1]
      go_wp2_with fail
      go_meet
      case rel => exact ⟨by rw [HT5.out], rfl⟩
    · have i1 : ¬ (S.made.length : Int) < 1 := by omega
      by_cases d2 : 8 < S.made.length
      · have i2 : (8 : Int) < (S.made.length : Int) := by omega
        have HT5 : Hid (t0 = true) := by show _ = _; rw [HB0.out]; simp [d2]
        go_wp2_with fail
        go_meet
        case rel => exact ⟨by rw [HT5.out], rfl⟩
      · have i2 : ¬ (8 : Int) < (S.made.length : Int) := by omega
        have HT5 : Hid (t0 = false) := by show _ = _; rw [HB0.out, decide_eq_false d1, decide_eq_false d2]; rfl
        go_wp2_with fail
        go_meet
        case rel => exact ⟨by rw [HT5.out], rfl⟩
  case rest =>
    obtain ⟨rfl, hw⟩ := hcut
    have hw2 := hw.symm
    subst hw2
    clear hw HB0 x2
    go_upto_if 21 with fail
    go_cut [] from 22 to 25 (fun wx => ∃ v', Hid (Mb U h ⟨a1, c1, a2, c2, a3, c3⟩ S n wM wx v' (if t0 then pushF T ⟨8, -1, ⟨#[]⟩⟩ else T) []))
    case first =>
      cases t0
      · go_wp2_with fail
        go_meet
        case rel => exact ⟨_, HM.out⟩
      · go_wp2_with fail
        refine (mb_add HM.out 8 (-1) ⟨#[]⟩ (by omega)).mono ?_
        rintro e w5 ⟨rfl, v5, h5⟩
        have HM5 : Hid (_) := h5
        clear h5
        go_wp2_with fail
        go_meet
        case rel => exact ⟨_, HM5.out⟩
    case rest =>
      obtain ⟨v1, HM1⟩ := hcut
      clear HM
      obtain ⟨T1, hT1⟩ : ∃ T1, T1 = (if t0 then pushF T ⟨8, -1, ⟨#[]⟩⟩ else T) := ⟨_, rfl⟩
      have hl1 : T1.length ≤ 100001 := by rw [hT1]; exact pushF_len hl
      rw [← hT1] at HM1 HR
      have HLm : Hid ((madeL S.made 0 T1).length ≤ 100001 + S.made.length) := madeL_len _ _ _ _ hl1
      have x2 : wc.cell? ⟨h.X, 2, none⟩ = some (.slice a3 S.made.length c3) := HM1.out.md.c2
      clear hT1
      go_upto_block 0 with fail
      clear x2
      go_cut [] from 32 to 48 (fun wx => ∃ v', Hid (Mb U h ⟨a1, c1, a2, c2, a3, c3⟩ S n wM wx v' (madeL S.made 0 T1) []))
      case first =>
        go_wp2_with fail
        go_loopw [32] (fun ix wr => ∃ (j : Nat) (v2 : Value) (T2 : List Fi), ix = .int .i64 (j : Int) ∧ j ≤ S.made.length ∧ T2.length ≤ 100001 + j ∧ Hid (Mb U h ⟨a1, c1, a2, c2, a3, c3⟩ S n wM wr v2 T2 [] ∧ madeL (S.made.drop j) j T2 = madeL S.made 0 T1)) (fun ix _ => (S.made.length - intOf ix).toNat)
        case atStart => exact ⟨0, _, _, rfl, by omega, by omega, HM1.out, rfl⟩
        case round =>
          obtain ⟨j, v2, T2, rfl, hj, hl2, HJ⟩ := hrel
          clear HM1
          by_cases hlt : j < S.made.length
          · obtain ⟨hm, hK⟩ := HJ.out
            obtain ⟨b, o, ea, i0⟩ := hm.md.svw.mad j hlt
            obtain ⟨x, hx⟩ : ∃ x, x = S.made[j] := ⟨_, rfl⟩
            rw [← hx] at i0
            have hd : S.made.drop j = x :: S.made.drop (j + 1) := by rw [hx]; exact List.drop_eq_getElem_cons hlt
            obtain ⟨t5, ht5⟩ : ∃ t5, t5 = (decide (x < 0) || decide (32 < x)) := ⟨_, rfl⟩
            rw [hd, madeL, ← ht5] at hK
            have HK : Hid (_) := hK
            have HB : Hid (t5 = (decide (x < 0) || decide (32 < x))) := ht5
            have HJ2 : Hid (_) := hm
            have j0 : (0 : Int) ≤ (j : Int) := by omega
            have j1 : (j : Int) < (S.made.length : Int) := by omega
            dsimp only at ea
            subst ea
            clear hm hK HJ hd ht5 hx
            go_upto_region 5 with fail
            clear i0
            go_cut [42] from 37 to 42 (fun vv wx => vv = .bool t5 ∧ wx = wr)
            case first =>
              by_cases d1 : x < 0
              · have HT5 : Hid (t5 = true) := by show _ = _; rw [HB.out]; simp [d1]
                go_wp2_with fail
                go_meet
                case rel => exact ⟨by rw [HT5.out], rfl⟩
              · by_cases d2 : 32 < x
                · have HT5 : Hid (t5 = true) := by show _ = _; rw [HB.out]; simp [d2]
                  go_wp2_with fail
                  go_meet
                  case rel => exact ⟨by rw [HT5.out], rfl⟩
                · have HT5 : Hid (t5 = false) := by show _ = _; rw [HB.out, decide_eq_false d1, decide_eq_false d2]; rfl
                  go_wp2_with fail
                  go_meet
                  case rel => exact ⟨by rw [HT5.out], rfl⟩
            case rest =>
              obtain ⟨rfl, hw⟩ := hcut
              have hw2 := hw.symm
              subst hw2
              clear hw HB
              cases t5
              · go_wp2_with fail
                go_roundw
                case rel => exact ⟨j + 1, v2, T2, by go_num, by omega, by omega, HJ2.out, HK.out⟩
                case measure => simp [intOf]; omega
              · go_upto_region 6 with fail
                go_wp2_with fail
                refine (mb_add HJ2.out 8 (j : Int) ⟨#[]⟩ (by omega)).mono ?_
                rintro e w5 ⟨rfl, v5, h5⟩
                have HM5 : Hid (_) := h5
                clear h5
                go_wp2_with fail
                go_roundw
                case rel => exact ⟨j + 1, v5, _, by go_num, by omega, by rw [pushF_length]; omega, HM5.out, HK.out⟩
                case measure => simp [intOf]; omega
          · obtain ⟨hm, hK⟩ := HJ.out
            have ej : j = S.made.length := by omega
            rw [ej, List.drop_length] at hK
            have HE : Hid (T2 = madeL S.made 0 T1) := hK
            have HJ2 : Hid (_) := hm
            have j1 : ¬ (j : Int) < (S.made.length : Int) := by omega
            clear hm hK HJ ej
            go_wp2_with fail
            go_meet
            case rel => exact ⟨_, by rw [← HE.out]; exact HJ2⟩
      case rest =>
        obtain ⟨v3, HM3⟩ := hcut
        clear HM1
        obtain ⟨T3, hT3⟩ : ∃ T3, T3 = madeL S.made 0 T1 := ⟨_, rfl⟩
        rw [← hT3] at HM3 HR HLm
        have hl3 : T3.length ≤ 100101 := by have := HLm.out; omega
        have x0 : wc.cell? ⟨h.X, 0, none⟩ = some (.slice a1 S.ino.length c1) := HM3.out.md.c0
        clear hT3 HLm
        go_upto_region 8 with fail
        go_wp2_with fail
        clear x0
        go_loopw [55] (fun ix wr => ∃ (j : Nat) (v2 : Value) (T2 : List Fi), ix = .int .i64 (j : Int) ∧ j ≤ S.ino.length ∧ T2.length ≤ 100101 + j ∧ Hid (Mb U h ⟨a1, c1, a2, c2, a3, c3⟩ S n wM wr v2 T2 [] ∧ givenL S (S.ino.drop j) T2 = givenL S S.ino T3)) (fun ix _ => (S.ino.length - intOf ix).toNat)
        case atStart => exact ⟨0, _, _, rfl, by omega, by omega, HM3.out, rfl⟩
        case round =>
          obtain ⟨j, v2, T2, rfl, hj, hl2, HJ⟩ := hrel
          clear HM3
          by_cases hlt : j < S.ino.length
          · obtain ⟨hm, hK⟩ := HJ.out
            obtain ⟨b, o, ae, ce, ea, i0, i1, i2, i3, hea, -⟩ := hm.md.sv.ino j hlt
            have i0 := hm.md.kU.cell i0 (by simp)
            have i1 := hm.md.kU.cell i1 (by simp)
            have i2 := hm.md.kU.cell i2 (by simp)
            have i3 := hm.md.kU.cell i3 (by simp)
            obtain ⟨x, hx⟩ : ∃ x, x = S.ino[j] := ⟨_, rfl⟩
            have hxm : x ∈ S.ino := by rw [hx]; exact List.getElem_mem hlt
            rw [← hx] at i0 i1 i2 i3
            have HW : Hid (Wf x.num) := HF.out.w1 x hxm
            have hd : S.ino.drop j = x :: S.ino.drop (j + 1) := by rw [hx]; exact List.drop_eq_getElem_cons hlt
            obtain ⟨gv, hgv⟩ : ∃ gv, gv = givenR S x.num := ⟨_, rfl⟩
            rw [hd, givenL, ← hgv] at hK
            have HK : Hid (_) := hK
            obtain ⟨V, Y, HVY, kv, b1⟩ := one_box wr #[.int .i64 x.num, .bool x.dir, .slice ae x.ents.length ce, .string x.data] 31
            have HV : Hid (_) := hm.more kv (Nat.le_of_eq HVY.out.2) b1
            have y0 : V.cell? ⟨Y, 0, none⟩ = some (.int .i64 x.num) := cellB b1
            have j0 : (0 : Int) ≤ (j : Int) := by omega
            have j1 : (j : Int) < (S.ino.length : Int) := by omega
            have HGv : Hid (Calls Tryd.prog 31 #[.pointer (some ⟨h.X, 0, none⟩), .int .i64 x.num] V fun e w' => e = .returned (.bool gv) ∧ w' = V) := by rw [hgv]; exact t_isGiven HV.out.md HF.out x.num HW.out
            dsimp only at ea
            subst ea
            obtain ⟨num, dir, ents, data⟩ := x
            dsimp only at *
            clear hm hK HJ hd hgv kv b1 hea hx hxm
            go_upto_region 11 with fail
            rw [HVY.out.1, HVY.out.2]
            clear HVY i0 i1 i2 i3
            obtain ⟨t5, ht5⟩ : ∃ t5, t5 = (!(num == 1) && !gv) := ⟨_, rfl⟩
            rw [← ht5] at HK
            have HB : Hid (t5 = (!(num == 1) && !gv)) := ht5
            clear ht5
            go_cut [68] from 59 to 68 (fun vv wx => vv = .bool t5 ∧ wx = V)
            case first =>
              by_cases d1 : num = 1
              · have e1 : (num != 1) = false := by simp [d1]
                have HT5 : Hid (t5 = false) := by show _ = _; rw [HB.out]; simp [d1]
                go_wp2_with fail
                go_meet
                case rel => exact ⟨by rw [HT5.out], rfl⟩
              · have e1 : (num != 1) = true := by simp [d1]
                cases gv
                · have HT5 : Hid (t5 = true) := by show _ = _; rw [HB.out]; simp [d1]
                  go_wp2_with fail
                  refine HGv.out.mono ?_
                  rintro e w5 ⟨rfl, hw5⟩
                  have hw6 := hw5.symm
                  subst hw6
                  clear hw5
                  go_wp2_with fail
                  go_meet
                  case rel => exact ⟨by rw [HT5.out], rfl⟩
                · have HT5 : Hid (t5 = false) := by show _ = _; rw [HB.out]; simp
                  go_wp2_with fail
                  refine HGv.out.mono ?_
                  rintro e w5 ⟨rfl, hw5⟩
                  have hw6 := hw5.symm
                  subst hw6
                  clear hw5
                  go_wp2_with fail
                  go_meet
                  case rel => exact ⟨by rw [HT5.out], rfl⟩
            case rest =>
              obtain ⟨rfl, hw⟩ := hcut
              have hw2 := hw.symm
              subst hw2
              clear hw HB HGv y0
              have HC : Hid (_) := HV.out.first0
              cases t5
              · go_wp2_with fail
                go_roundw
                case rel => exact ⟨j + 1, v2, T2, by go_num, by omega, by omega, HV.out.fewer (by simp), HK.out⟩
                case measure => simp [intOf]; omega
              · go_upto_region 12 with fail
                go_region_held3 (fun w' => w'.cell? ⟨Y, 0, none⟩ = some (.int .i64 num)) (first | exact HC.out | exact z6 | go_keep)
                  (first
                    | (go_at_call 29; refine (mb_add (HV.out.same ((Kept.refl _ _).drew)) 8 num ⟨#[]⟩ (by omega)).mono ?_; rintro e6 w6 ⟨rfl, v6, h6⟩; have z6 : w6.cell? ⟨Y, 0, none⟩ = some (.int .i64 num) := by rw [cellB (h6.bs (Y, .cells #[.int .i64 num, .bool dir, .slice ae ents.length ce, .string data] 31 (0, 0)) (by simp)).2.2]; rfl))
                have HM6 : Hid (_) := h6
                clear h6 z6
                go_wp2_with fail
                go_roundw
                case rel => exact ⟨j + 1, _, _, by go_num, by omega, by rw [pushF_length]; omega, HM6.out.fewer (by simp), HK.out⟩
                case measure => simp [intOf]; omega
          · obtain ⟨hm, hK⟩ := HJ.out
            have ej : j = S.ino.length := by omega
            rw [ej, List.drop_length] at hK
            have HE : Hid (T2 = givenL S S.ino T3) := hK
            have HM2 : Hid (_) := hm
            have j1 : ¬ (j : Int) < (S.ino.length : Int) := by omega
            clear hm hK HJ ej
            go_wp2_with fail
            go_end0
            exact ⟨rfl, _, by rw [HR.out, ← HE.out]; exact HM2.out.md⟩

end Go.Proofs.YtgfdcnjnkljahaaDoor
