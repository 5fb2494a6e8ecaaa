/-
  What each inode has: inodes.
-/
import Derived.Test.YtgfdcnjnkljahaaDoorZg
namespace Go.Proofs.YtgfdcnjnkljahaaDoor
open Go.RowKit Go.Lib Go.Maps
set_option linter.unusedVariables false

theorem namesL_len {g : Int → Option Int} {num : Int} : ∀ (E : List En) (pv : Option ByteArray) (T : List Fi) (m : Nat), T.length ≤ m → (namesL g num E pv T).length ≤ m + 2 * E.length := by
  intro E
  induction E with
  | nil => intro pv T m h; exact h
  | cons e E ih =>
    intro pv T m h
    rw [namesL]
    have := ih (some e.1) (oneE g num e pv T) (m + 2) (oneE_len h)
    simp only [List.length_cons]
    omega

theorem entsOfI_len (x : Ino) : (entsOfI x).length ≤ x.ents.length := by unfold entsOfI; split <;> simp

theorem namesR_len {g : Int → Option Int} {x : Ino} {T : List Fi} {m : Nat} (h : T.length ≤ m) (h1 : x.ents.length ≤ 100) : (namesR g x T).length ≤ m + 201 := by
  have h2 := namesL_len (g := g) (num := x.num) (entsOfI x) none T m h
  have h3 := entsOfI_len x
  unfold namesR
  split
  · rw [pushF_length]; omega
  · omega

set_option maxRecDepth 100000 in
set_option maxHeartbeats 16000000 in
theorem d_inodes {U : World} {h : Wh} {p : Pl} {S : Sta} {n : Nat} {wM w : World} {v : Value} {T : List Fi} (m : Md U h p S n wM w v T) (hT : Tab U) (hf : Few S) (hl : T.length ≤ 50000) :
    Calls Tryd.prog 20 #[.pointer (some ⟨h.X, 0, none⟩)] w fun e w' => e = .returned (.tuple #[]) ∧ ∃ v', Md U h p S n wM w' v' (inodesR S T) := by
  obtain ⟨a1, c1, a2, c2, a3, c3⟩ := p
  have HM : Hid (Mb U h ⟨a1, c1, a2, c2, a3, c3⟩ S n wM w v T []) := m.alone
  have HF : Hid (Few S) := hf
  have HT : Hid (Tab U) := hT
  have hn1 : S.ino.length ≤ 100 := hf.n1
  have x0 : w.cell? ⟨h.X, 0, none⟩ = some (.slice a1 S.ino.length c1) := m.c0
  have HR : Hid (inodesR S T = inodesL (placeG S) S.ino T) := rfl
  obtain ⟨T0, hT0⟩ : ∃ T0, T0 = T := ⟨_, rfl⟩
  rw [← hT0] at HR
  have HT0 : Hid (T0 = T) := hT0
  clear m hT hf hT0
  go_enter Tryd.func20, Tryd.ntmps20
  go_wp2_with fail
  clear x0
  go_loopw [10] (fun ix wr => ∃ (j : Nat) (v2 : Value) (T2 : List Fi), ix = .int .i64 (j : Int) ∧ j ≤ S.ino.length ∧ T2.length ≤ 50000 + 202 * j ∧ Hid (Mb U h ⟨a1, c1, a2, c2, a3, c3⟩ S n wM wr v2 T2 [] ∧ inodesL (placeG S) (S.ino.drop j) T2 = inodesL (placeG S) S.ino T0)) (fun ix _ => (S.ino.length - intOf ix).toNat)
  case atStart => exact ⟨0, _, _, rfl, by omega, by omega, HM.out, by rw [HT0.out]; rfl⟩
  case round =>
    obtain ⟨j, v2, T2, rfl, hj, hl2, HJ⟩ := hrel
    clear HM
    by_cases hlt : j < S.ino.length
    · obtain ⟨hm, hK⟩ := HJ.out
      obtain ⟨b, o, ae, ce, ea, i0, i1, i2, i3, hea, -⟩ := hm.md.sv.ino j hlt
      have i0 := hm.md.kU.cell i0 (by simp)
      have i1 := hm.md.kU.cell i1 (by simp)
      have i2 := hm.md.kU.cell i2 (by simp)
      have i3 := hm.md.kU.cell i3 (by simp)
      obtain ⟨x, hx⟩ : ∃ x, x = S.ino[j] := ⟨_, rfl⟩
      have hxm : x ∈ S.ino := by rw [hx]; exact List.getElem_mem hlt
      rw [← hx] at i0 i1 i2 i3 hea
      have HEa : Hid (EntA U ae x.ents) := hea
      have HX1 : Hid (x.ents.length ≤ 100) := HF.out.e1 x hxm
      have HX2 : Hid (∀ e ∈ x.ents, Wf e.2) := HF.out.w2 x hxm
      have hd : S.ino.drop j = x :: S.ino.drop (j + 1) := by rw [hx]; exact List.drop_eq_getElem_cons hlt
      obtain ⟨t5, ht5⟩ : ∃ t5, t5 = badC x := ⟨_, rfl⟩
      rw [hd, inodesL, ← ht5] at hK
      have HK : Hid (inodesL (placeG S) (S.ino.drop (j + 1)) (namesR (placeG S) x (if t5 then pushF T2 ⟨6, x.num, ⟨#[]⟩⟩ else T2)) = inodesL (placeG S) S.ino T0) := hK
      have HB : Hid (t5 = badC x) := ht5
      obtain ⟨V, Y, HVY, kv, b1⟩ := one_box wr #[.int .i64 x.num, .bool x.dir, .slice ae x.ents.length ce, .string x.data] 31
      have HV : Hid (_) := hm.more kv (Nat.le_of_eq HVY.out.2) b1
      have y0 : V.cell? ⟨Y, 0, none⟩ = some (.int .i64 x.num) := cellB b1
      have y1 : V.cell? ⟨Y, 1, none⟩ = some (.bool x.dir) := cellB b1
      have y2 : V.cell? ⟨Y, 2, none⟩ = some (.slice ae x.ents.length ce) := cellB b1
      have y3 : V.cell? ⟨Y, 3, none⟩ = some (.string x.data) := cellB b1
      have j0 : (0 : Int) ≤ (j : Int) := by omega
      have j1 : (j : Int) < (S.ino.length : Int) := by omega
      dsimp only at ea
      subst ea
      obtain ⟨num, dir, ents, data⟩ := x
      dsimp only at *
      clear hm hK HJ hd ht5 kv b1 hea hx hxm
      go_upto_region 3 with fail
      rw [HVY.out.1, HVY.out.2]
      clear HVY i0 i1 i2 i3
      go_cut [37] from 14 to 37 (fun vv wx => vv = .bool t5 ∧ wx = V)
      case first =>
        cases dir
        · by_cases d1 : 0 < ents.length
          · have i1 : (0 : Int) < (ents.length : Int) := by omega
            have HT5 : Hid (t5 = true) := by show _ = _; rw [HB.out, badC]; simp [d1]
            go_wp2_with fail
            go_meet
            case rel => exact ⟨by rw [HT5.out], rfl⟩
          · have i1 : ¬ (0 : Int) < (ents.length : Int) := by omega
            by_cases d2 : 256 < data.size
            · have i2 : (256 : Int) < (data.size : Int) := by omega
              have HT5 : Hid (t5 = true) := by show _ = _; rw [HB.out, badC]; simp [d1, d2]
              go_wp2_with fail
              go_meet
              case rel => exact ⟨by rw [HT5.out], rfl⟩
            · have i2 : ¬ (256 : Int) < (data.size : Int) := by omega
              have HT5 : Hid (t5 = false) := by show _ = _; rw [HB.out, badC]; simp [d1, d2]
              go_wp2_with fail
              go_meet
              case rel => exact ⟨by rw [HT5.out], rfl⟩
        · obtain ⟨s1, hs1⟩ : ∃ s1, data.toList.isEmpty = s1 := ⟨_, rfl⟩
          cases s1
          · have HT5 : Hid (t5 = true) := by show _ = _; rw [HB.out, badC]; simp [hs1]
            go_wp2_with fail
            go_meet
            case rel => exact ⟨by rw [HT5.out], rfl⟩
          · by_cases d2 : 256 < data.size
            · have i2 : (256 : Int) < (data.size : Int) := by omega
              have HT5 : Hid (t5 = true) := by show _ = _; rw [HB.out, badC]; simp [hs1, d2]
              go_wp2_with fail
              go_meet
              case rel => exact ⟨by rw [HT5.out], rfl⟩
            · have i2 : ¬ (256 : Int) < (data.size : Int) := by omega
              have HT5 : Hid (t5 = false) := by show _ = _; rw [HB.out, badC]; simp [hs1, d2]
              go_wp2_with fail
              go_meet
              case rel => exact ⟨by rw [HT5.out], rfl⟩
      case rest =>
        obtain ⟨rfl, hw⟩ := hcut
        have hw2 := hw.symm
        subst hw2
        clear hw
        go_upto_if 37 with fail
        go_cut [] from 38 to 43 (fun wx => ∃ v', Hid (Mb U h ⟨some ⟨b, o, none⟩, c1, a2, c2, a3, c3⟩ S n wM wx v' (if t5 then pushF T2 ⟨6, num, ⟨#[]⟩⟩ else T2) ((Y, .cells #[.int .i64 num, .bool dir, .slice ae ents.length ce, .string data] 31 (0, 0)) :: [])))
        case first =>
          have HC : Hid (V.cell? ⟨Y, 0, none⟩ = some (.int .i64 num)) := y0
          cases t5
          · go_wp2_with fail
            go_meet
            case rel => exact ⟨_, HV.out⟩
          · go_upto_region 4 with fail
            go_region_held3 (fun w' => w'.cell? ⟨Y, 0, none⟩ = some (.int .i64 num)) (first | exact HC.out | exact z6 | go_keep)
              (first
                | (go_at_call 29; refine (mb_add (HV.out.same ((Kept.refl _ _).drew)) 6 num ⟨#[]⟩ (by omega)).mono ?_; rintro e6 w6 ⟨rfl, v6, h6⟩; have z6 : w6.cell? ⟨Y, 0, none⟩ = some (.int .i64 num) := by rw [cellB (h6.bs (Y, .cells #[.int .i64 num, .bool dir, .slice ae ents.length ce, .string data] 31 (0, 0)) (by simp)).2.2]; rfl))
            have HM6 : Hid (_) := h6
            clear h6 z6
            go_wp2_with fail
            go_meet
            case rel => exact ⟨_, HM6.out⟩
        case rest =>
          obtain ⟨v6, HV6⟩ := hcut
          clear HV y0 y1 y2 y3 HB
          obtain ⟨T6, hT6⟩ : ∃ T6, T6 = (if t5 then pushF T2 ⟨6, num, ⟨#[]⟩⟩ else T2) := ⟨_, rfl⟩
          have hl6 : T6.length ≤ 50000 + 202 * j + 1 := by rw [hT6]; exact pushF_len hl2
          rw [← hT6] at HV6 HK
          have hYb : wc.heap[Y]? = some (.cells #[.int .i64 num, .bool dir, .slice ae ents.length ce, .string data] 31 (0, 0)) := (HV6.out.bs (Y, .cells #[.int .i64 num, .bool dir, .slice ae ents.length ce, .string data] 31 (0, 0)) (by simp)).2.2
          have y0 : wc.cell? ⟨Y, 0, none⟩ = some (.int .i64 num) := cellB hYb
          have y1 : wc.cell? ⟨Y, 1, none⟩ = some (.bool dir) := cellB hYb
          have y2 : wc.cell? ⟨Y, 2, none⟩ = some (.slice ae ents.length ce) := cellB hYb
          have y3 : wc.cell? ⟨Y, 3, none⟩ = some (.string data) := cellB hYb
          clear hT6 hYb
          go_upto_region 5 with fail
          go_wp2_with fail
          refine (d_names (HV6.out.fewer (Cs := []) (by simp)) HT.out ⟨num, dir, ents, data⟩ ae ce HEa.out HX1.out HX2.out (by omega)).mono ?_
          rintro e9 w9 ⟨rfl, v9, h9⟩
          have HM9 : Hid (_) := h9
          have HL9 : Hid ((namesR (placeG S) ⟨num, dir, ents, data⟩ T6).length ≤ 50000 + 202 * j + 1 + 201) := namesR_len hl6 HX1.out
          clear h9 y0 y1 y2 y3 HV6
          go_wp2_with fail
          go_roundw
          case rel => exact ⟨j + 1, _, _, by go_num, by omega, by have := HL9.out; omega, HM9.out, HK.out⟩
          case measure => simp [intOf]; omega
    · obtain ⟨hm, hK⟩ := HJ.out
      have ej : j = S.ino.length := by omega
      rw [ej, List.drop_length] at hK
      have HE : Hid (T2 = inodesL (placeG S) S.ino T0) := hK
      have HM2 : Hid (_) := hm
      have j1 : ¬ (j : Int) < (S.ino.length : Int) := by omega
      clear hm hK HJ ej
      go_wp2_with fail
      go_end0
      exact ⟨rfl, _, by rw [← HT0.out, HR.out, ← HE.out]; exact HM2.out.md⟩

end Go.Proofs.YtgfdcnjnkljahaaDoor
