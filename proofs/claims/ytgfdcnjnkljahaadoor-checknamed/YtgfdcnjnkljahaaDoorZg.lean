/-
  A directory's entries: names.
-/
import Derived.Test.YtgfdcnjnkljahaaDoorZf
namespace Go.Proofs.YtgfdcnjnkljahaaDoor
open Go.RowKit Go.Lib Go.Maps
set_option linter.unusedVariables false
set_option linter.unusedSimpArgs false

theorem oneE_len {g : Int → Option Int} {num : Int} {e : En} {pv : Option ByteArray} {T : List Fi} {m : Nat} (h : T.length ≤ m) : (oneE g num e pv T).length ≤ m + 2 := by
  unfold oneE; split <;> split <;> (try rw [pushF_length]) <;> (try rw [pushF_length]) <;> omega

theorem slotsL_len (E : List En) : ∀ B : List Int, (slotsL E B).length = B.length := by
  induction E with
  | nil => intro B; rfl
  | cons e E ih => intro B; rw [slotsL, ih]; unfold upS; simp

/-- Counts of names. -/
def Few8 (B : List Int) (j : Nat) : Prop := B.length = 8 ∧ ∀ k, 0 ≤ B.getD k 0 ∧ B.getD k 0 ≤ (j : Int)

theorem Few8.up {B : List Int} {j k : Nat} (h : Few8 B j) : Few8 (upS B k) (j + 1) := by
  refine ⟨by unfold upS; rw [List.length_set]; exact h.1, fun i => ?_⟩
  have h1 := h.2 i
  have h2 := h.2 k
  unfold upS
  by_cases e : i = k
  · subst e
    by_cases hi : i < B.length
    · have : (B.set i (B.getD i 0 + 1)).getD i 0 = B.getD i 0 + 1 := by simp [hi]
      rw [this]; omega
    · rw [List.set_eq_of_length_le (by omega)]; omega
  · have : (B.set k (B.getD k 0 + 1)).getD i 0 = B.getD i 0 := by simp [List.getD, List.getElem?_set_ne (Ne.symm e)]
    rw [this]; omega

theorem few8_0 : Few8 (List.replicate 8 0) 0 := ⟨rfl, fun k => by
  have : (List.replicate 8 (0 : Int)).getD k 0 = 0 := by
    by_cases hk : k < 8
    · rw [List.getD_eq_getElem?_getD, List.getElem?_replicate, if_pos hk]; rfl
    · rw [List.getD_eq_getElem?_getD, List.getElem?_replicate, if_neg hk]; rfl
  rw [this]; omega⟩

set_option maxRecDepth 100000 in
set_option maxHeartbeats 16000000 in
theorem d_names {U : World} {h : Wh} {p : Pl} {S : Sta} {n : Nat} {wM w : World} {v : Value} {T : List Fi} {Bs : List (Nat × Obj)} (m : Mb U h p S n wM w v T Bs) (hT : Tab U) (x : Ino) (ae : Option Addr) (ce : Nat) (hE : EntA U ae x.ents)
    (h1 : x.ents.length ≤ 100) (hw : ∀ e ∈ x.ents, Wf e.2) (hl : T.length ≤ 100000) :
    Calls Tryd.prog 30 #[.pointer (some ⟨h.X, 0, none⟩), .agg #[.int .i64 x.num, .bool x.dir, .slice ae x.ents.length ce, .string x.data]] w fun e w' => e = .returned (.tuple #[]) ∧ ∃ v', Mb U h p S n wM w' v' (namesR (placeG S) x T) Bs := by
  obtain ⟨E, hEq⟩ : ∃ E, E = entsOfI x := ⟨_, rfl⟩
  obtain ⟨ea, ec, hval, hEA⟩ : ∃ ea ec, (if x.dir then Value.slice ae x.ents.length ce else Value.slice none 0 0) = .slice ea E.length ec ∧ EntA U ea E := by
    rw [hEq]
    unfold entsOfI
    cases x.dir
    · exact ⟨none, 0, rfl, fun i hi => by simp at hi⟩
    · exact ⟨ae, ce, rfl, hE⟩
  have hE1 : E.length ≤ 100 := by rw [hEq]; unfold entsOfI; split; exact h1; simp
  have hWE : Hid (∀ e ∈ E, Wf e.2) := by
    intro e he
    rw [hEq] at he
    unfold entsOfI at he
    split at he
    · exact hw e he
    · simp at he
  have HEA : Hid (EntA U ea E) := hEA
  obtain ⟨g, hg⟩ : ∃ g, g = placeG S := ⟨_, rfl⟩
  have HG : Hid (g = placeG S) := hg
  have HR : Hid (namesR (placeG S) x T = if 4 < max8 (slotsL E (List.replicate 8 0)) then pushF (namesL g x.num E none T) ⟨7, x.num, ⟨#[]⟩⟩ else namesL g x.num E none T) := by show _ = _; rw [hEq, hg]; rfl
  obtain ⟨T0, hT0⟩ : ∃ T0, T0 = T := ⟨_, rfl⟩
  rw [← hT0] at HR
  have HT0 : Hid (T0 = T) := hT0
  obtain ⟨num, dir, ents, data⟩ := x
  dsimp only at *
  have HEn := fun W => t_entriesOf num dir ae ents.length ce data W
  simp only [hval] at HEn
  have HEn2 : Hid (_) := HEn
  obtain ⟨V, O, HVO, kv, b1⟩ := one_box w #[.int .i64 num, .bool dir, .slice ae ents.length ce, .string data] 31
  have HM1 := m.more kv (Nat.le_of_eq HVO.out.2) b1
  obtain ⟨V2, Q, HVQ, kv2, b2⟩ := one_box V #[.int .i64 0, .int .i64 0, .int .i64 0, .int .i64 0, .int .i64 0, .int .i64 0, .int .i64 0, .int .i64 0] 77
  have b2' : V2.heap[Q]? = some (.cells (icl (List.replicate 8 0)) 77 (0, 0)) := b2
  have HM : Hid (_) := HM1.more kv2 (Nat.le_of_eq HVQ.out.2) b2'
  have HT : Hid (Tab U) := hT
  have hOb : V2.heap[O]? = some (.cells #[.int .i64 num, .bool dir, .slice ae ents.length ce, .string data] 31 (0, 0)) := (HM.out.bs (O, .cells #[.int .i64 num, .bool dir, .slice ae ents.length ce, .string data] 31 (0, 0)) (List.mem_cons_of_mem _ (List.mem_cons_self ..))).2.2
  have o0 : V2.cell? ⟨O, 0, none⟩ = some (.int .i64 num) := cellB hOb
  have o1 : V2.cell? ⟨O, 1, none⟩ = some (.bool dir) := cellB hOb
  have o2 : V2.cell? ⟨O, 2, none⟩ = some (.slice ae ents.length ce) := cellB hOb
  have o3 : V2.cell? ⟨O, 3, none⟩ = some (.string data) := cellB hOb
  have HOQ : Hid (∀ b ∈ (O, Obj.cells #[.int .i64 num, .bool dir, .slice ae ents.length ce, .string data] 31 (0, 0)) :: Bs, b.1 ≠ Q) := by
    intro b hb
    have := lt_of_heap (HM1.bs b hb).2.2
    have e : V.heap.size = Q := HVQ.out.2
    omega
  clear hOb m kv b1 hT kv2 b2 b2' HM1 hE h1 hw hEq hval HEn hEA hg hT0
  go_enter Tryd.func30, Tryd.ntmps30
  go_upto_region 1 with fail
  rw [HVO.out.1, HVO.out.2]
  clear HVO
  go_upto_region 2 with fail
  rw [HVQ.out.1, HVQ.out.2]
  clear HVQ
  go_wp2_with fail
  refine (HEn2.out _).mono ?_
  rintro e w1 ⟨rfl, k1⟩
  have HM1 : Hid (_) := HM.out.same k1
  clear HEn2 k1 o0 o1 o2 o3 HM
  go_wp2_with fail
  go_loopw [12] (fun ix wr => ∃ (j : Nat) (v2 : Value) (T2 : List Fi) (B : List Int), ix = .int .i64 (j : Int) ∧ j ≤ E.length ∧ T2.length ≤ 100000 + 2 * j ∧ Hid (Mb U h p S n wM wr v2 T2 ((Q, .cells (icl B) 77 (0, 0)) :: (O, .cells #[.int .i64 num, .bool dir, .slice ae ents.length ce, .string data] 31 (0, 0)) :: Bs) ∧ Few8 B j ∧ namesL g num (E.drop j) (prevE E j) T2 = namesL g num E none T0 ∧ slotsL (E.drop j) B = slotsL E (List.replicate 8 0))) (fun ix _ => (E.length - intOf ix).toNat)
  case atStart => exact ⟨0, _, _, _, rfl, by omega, by omega, HM1.out, few8_0, by rw [HT0.out]; rfl, rfl⟩
  case round =>
    obtain ⟨j, v2, T2, B, rfl, hj, hl2, HJ⟩ := hrel
    clear HM1
    by_cases hlt : j < E.length
    · obtain ⟨hm, hB, hK, hSl⟩ := HJ.out
      obtain ⟨b, o, e1, i0, i1⟩ := HEA.out j hlt
      have i0 := hm.md.kU.cell i0 (by simp)
      have i1 := hm.md.kU.cell i1 (by simp)
      obtain ⟨e, he⟩ : ∃ e, e = E[j] := ⟨_, rfl⟩
      have hwe : Hid (Wf e.2) := by rw [he]; exact hWE.out _ (List.getElem_mem hlt)
      rw [← he] at i0 i1
      have hd : E.drop j = e :: E.drop (j + 1) := by rw [he]; exact List.drop_eq_getElem_cons hlt
      have hpn : prevE E (j + 1) = some e.1 := by unfold prevE; rw [if_neg (by omega)]; simp [hlt, he]
      rw [hd, namesL, ← hpn] at hK
      rw [hd, slotsL] at hSl
      have HSl : Hid (slotsL (E.drop (j + 1)) (upS B (bkS e.1)) = slotsL E (List.replicate 8 0)) := hSl
      have HB : Hid (Few8 B j) := hB
      obtain ⟨t5, ht5⟩ : ∃ t5, t5 = badE g e := ⟨_, rfl⟩
      obtain ⟨t8, ht8⟩ : ∃ t8, t8 = badS e.1 (prevE E j) := ⟨_, rfl⟩
      unfold oneE at hK
      rw [← ht5, ← ht8] at hK
      have HK : Hid (_) := hK
      have HB5 : Hid (t5 = badE g e) := ht5
      have HB8 : Hid (t8 = badS e.1 (prevE E j)) := ht8
      obtain ⟨V, Y, HVY, kv, b1⟩ := one_box wr #[.string e.1, .int .i64 e.2] 33
      have HV : Hid (_) := hm.more kv (Nat.le_of_eq HVY.out.2) b1
      have y1 : V.cell? ⟨Y, 1, none⟩ = some (.int .i64 e.2) := cellB b1
      have q3 : V.cell? ⟨h.X, 3, none⟩ = some (.map (some h.b1)) := HV.out.md.c3
      have j0 : (0 : Int) ≤ (j : Int) := by omega
      have j1 : (j : Int) < (E.length : Int) := by omega
      have HYQ : Hid (Y ≠ Q) := by
        have := lt_of_heap (hm.bs _ (List.mem_cons_self ..)).2.2
        have e : wr.heap.size = Y := HVY.out.2
        intro e2
        dsimp only at this
        omega
      have HPv : Hid (0 < j → ∀ W, Kept [] U W → W.cell? ⟨b, o + (j - 1) * 2, none⟩ = some (.string (E.getD (j - 1) (⟨#[]⟩, 0)).1)) := by
        intro hj0 W hW
        obtain ⟨b', o', ea', p0, -⟩ := HEA.out (j - 1) (by omega)
        rw [e1] at ea'
        injection ea' with ea'
        injection ea' with q1 q2
        subst q1 q2
        rw [hW.cell p0 (by simp)]
        simp [show j - 1 < E.length by omega]
      subst e1
      clear hm hB hK hSl HJ he hd hpn ht5 ht8 kv b1
      go_upto_region 6 with fail
      rw [HVY.out.1, HVY.out.2]
      clear HVY i0 i1
      go_cut [26] from 17 to 26 (fun vv wx => vv = .bool t5 ∧ wx = V)
      case first =>
        have HMi : Hid (_) := HV.out.md.m1
        rw [← HG.out] at HMi
        obtain ⟨s6, hs6⟩ : ∃ s6, (g e.2).isSome = s6 := ⟨_, rfl⟩
        obtain ⟨s7, hs7⟩ : ∃ s7, (e.2 == 1) = s7 := ⟨_, rfl⟩
        have HT5 : Hid (t5 = (!s6 || s7)) := by show _ = _; rw [HB5.out, badE, hs6, hs7]
        have HS6 : Hid (_) := hs6
        clear hs6
        go_wp2_with fail
        refine (t_isThere q3 HMi.out e.2 hwe.out).mono ?_
        rintro e w5 ⟨rfl, hw5⟩
        have hw6 := hw5.symm
        subst hw6
        clear hw5
        rw [HS6.out]
        cases s6
        · go_wp2_with fail
          go_meet
          case rel => exact ⟨by rw [HT5.out]; rfl, rfl⟩
        · cases s7
          · go_wp2_with fail
            go_meet
            case rel => exact ⟨by rw [HT5.out]; rfl, rfl⟩
          · go_wp2_with fail
            go_meet
            case rel => exact ⟨by rw [HT5.out]; rfl, rfl⟩
      case rest =>
        obtain ⟨rfl, hw⟩ := hcut
        have hw2 := hw.symm
        subst hw2
        clear hw
        clear y1 q3 HB5 HG
        go_upto_if 26 with fail
        go_cut [] from 27 to 34 (fun wx => ∃ v', Hid (Mb U h p S n wM wx v' (if t5 then pushF T2 ⟨2, num, e.1⟩ else T2) ((Y, .cells #[.string e.1, .int .i64 e.2] 33 (0, 0)) :: (Q, .cells (icl B) 77 (0, 0)) :: (O, .cells #[.int .i64 num, .bool dir, .slice ae ents.length ce, .string data] 31 (0, 0)) :: Bs)))
        case first =>
          have HC : Hid (V.cell? ⟨O, 0, none⟩ = some (.int .i64 num) ∧ V.cell? ⟨Y, 0, none⟩ = some (.string e.1)) := ⟨by rw [cellB (HV.out.bs (O, .cells #[.int .i64 num, .bool dir, .slice ae ents.length ce, .string data] 31 (0, 0)) (by simp)).2.2]; rfl, by rw [cellB (HV.out.bs (Y, .cells #[.string e.1, .int .i64 e.2] 33 (0, 0)) (by simp)).2.2]; rfl⟩
          cases t5
          · go_wp2_with fail
            go_meet
            case rel => exact ⟨_, HV.out⟩
          · go_upto_region 7 with fail
            go_region_held3 (fun w' => w'.cell? ⟨O, 0, none⟩ = some (.int .i64 num) ∧ w'.cell? ⟨Y, 0, none⟩ = some (.string e.1)) (first | exact HC.out | exact z6 | go_keep)
              (first
                | (go_at_call 29; refine (mb_add (HV.out.same ((Kept.refl _ _).drew)) 2 num e.1 (by omega)).mono ?_; rintro e6 w6 ⟨rfl, v6, h6⟩; have z6 : w6.cell? ⟨O, 0, none⟩ = some (.int .i64 num) ∧ w6.cell? ⟨Y, 0, none⟩ = some (.string e.1) := ⟨by rw [cellB (h6.bs (O, .cells #[.int .i64 num, .bool dir, .slice ae ents.length ce, .string data] 31 (0, 0)) (by simp)).2.2]; rfl, by rw [cellB (h6.bs (Y, .cells #[.string e.1, .int .i64 e.2] 33 (0, 0)) (by simp)).2.2]; rfl⟩))
            have HM6 : Hid (_) := h6
            clear h6 z6
            go_wp2_with fail
            go_meet
            case rel => exact ⟨_, HM6.out⟩
        case rest =>
          obtain ⟨v6, HV6⟩ := hcut
          clear HV
          have HL6 : Hid ((if t5 then pushF T2 ⟨2, num, e.1⟩ else T2).length ≤ 100000 + 2 * j + 1) := pushF_len hl2
          have HC8 : Hid (∀ w', Kept [] wc w' → Kept [] wc w' ∧ w'.cell? ⟨Y, 0, none⟩ = some (.string e.1)) := fun w' k => ⟨k, by rw [cellB ((HV6.out.same k).bs (Y, .cells #[.string e.1, .int .i64 e.2] 33 (0, 0)) (by simp)).2.2]; rfl⟩
          have HCp : Hid (0 < j → ∀ w', Kept [] wc w' → Kept [] wc w' ∧ w'.cell? ⟨Y, 0, none⟩ = some (.string e.1) ∧ w'.cell? ⟨b, o + (j - 1) * 2, none⟩ = some (.string (E.getD (j - 1) (⟨#[]⟩, 0)).1)) := fun hj0 w' k => ⟨k, (HC8.out _ k).2, HPv.out hj0 _ (HV6.out.same k).md.kU⟩
          go_upto_region 8 with fail
          go_cut [53] from 35 to 53 (fun vv wx => vv = .bool t8 ∧ Hid (Kept [] wc wx))
          case first =>
            obtain ⟨s8, hs8⟩ : ∃ s8, (chk e.1 == 0) = s8 := ⟨_, rfl⟩
            have HMay : Hid (∀ W, Tab W → Calls Tryd.prog 43 #[.string e.1] W fun e w' => e = .returned (.bool s8) ∧ Kept [] W w') := fun W hW => by rw [← hs8]; exact n_may e.1 W hW
            unfold badS at HB8
            rw [hs8] at HB8
            clear hs8
            cases s8
            · have HT8 : Hid (t8 = true) := by show _ = _; rw [HB8.out]; rfl
              refine wp_region_held_drew (S := fun w' => Kept [] wc w' ∧ w'.cell? ⟨Y, 0, none⟩ = some (.string e.1)) (by kernel_rfl) ?_ (fun hHeld => ?_)
              · exact HC8.out _ (Kept.refl _ _).drew
              refine wpAnyH_take (i := 0) (v := ?vp00) rfl (by kernel_rfl) (by kernel_rfl) (by kernel_rfl) (fun _ _ _ h => h) (Or.inl ⟨by rfl, ?hyp00⟩) (by assumption) ?_
              case hyp00 =>
                intro w hSw
                (try dsimp only at hSw)
                go_simp
                try with_reducible rfl
              try simp only [Act.put, List.setIfInBounds_toArray, List.set_cons_zero, List.set_cons_succ, List.getElem_toArray, List.getElem_cons_zero, List.getElem_cons_succ]
              refine wpAnyH_take (i := 1) (v := ?vp01) rfl (by kernel_rfl) (by kernel_rfl) (by kernel_rfl) (fun _ _ _ h => h) (Or.inl ⟨by rfl, ?hyp01⟩) (by assumption) ?_
              case hyp01 =>
                intro w hSw
                (try dsimp only at hSw)
                go_simp
                try with_reducible rfl
              try simp only [Act.put, List.setIfInBounds_toArray, List.set_cons_zero, List.set_cons_succ, List.getElem_toArray, List.getElem_cons_zero, List.getElem_cons_succ]
              refine wpAnyH_ready (rs := [2]) (by kernel_rfl) (by simp) ?_
              refine AllReadyH.cons rfl (fun K hK => ?_) AllReadyH.nil
              go_simp
              refine (HMay.out _ (HT.out.kept ((HV6.out.same hHeld.1).md.kU))).mono ?_
              rintro e6 w6 ⟨rfl, k6⟩
              have z6 := HC8.out _ (hHeld.1.trans k6 (by simp))
              clear k6
              go_wp2_with fail
              refine hK.out _ _ ?_ (fun hHeld => ?_)
              · exact z6
              clear hK K
              try simp only [Act.put, List.setIfInBounds_toArray, List.set_cons_zero, List.set_cons_succ, List.getElem_toArray, List.getElem_cons_zero, List.getElem_cons_succ]
              refine wpAnyH_take (i := 3) (v := ?vp03) rfl (by kernel_rfl) (by kernel_rfl) (by kernel_rfl) (fun _ _ _ h => h) (Or.inl ⟨by rfl, ?hyp03⟩) (by assumption) ?_
              case hyp03 =>
                intro w hSw
                (try dsimp only at hSw)
                go_simp
                try with_reducible rfl
              try simp only [Act.put, List.setIfInBounds_toArray, List.set_cons_zero, List.set_cons_succ, List.getElem_toArray, List.getElem_cons_zero, List.getElem_cons_succ]
              refine wpAnyH_take (i := 4) (v := ?vp04) rfl (by kernel_rfl) (by kernel_rfl) (by kernel_rfl) (fun _ _ _ h => h) (Or.inl ⟨by rfl, ?hyp04⟩) (by assumption) ?_
              case hyp04 =>
                intro w hSw
                (try dsimp only at hSw)
                go_simp
                try with_reducible rfl
              try simp only [Act.put, List.setIfInBounds_toArray, List.set_cons_zero, List.set_cons_succ, List.getElem_toArray, List.getElem_cons_zero, List.getElem_cons_succ]
              refine wpAnyH_take (i := 5) (v := undef) rfl (by kernel_rfl) (by kernel_rfl) (by kernel_rfl) (fun _ _ _ h => h) (Or.inr ⟨by rfl, rfl⟩) (by assumption) ?_
              try simp only [Act.put, List.setIfInBounds_toArray, List.set_cons_zero, List.set_cons_succ, List.getElem_toArray, List.getElem_cons_zero, List.getElem_cons_succ]
              refine wpAnyH_take (i := 6) (v := undef) rfl (by kernel_rfl) (by kernel_rfl) (by kernel_rfl) (fun _ _ _ h => h) (Or.inr ⟨by rfl, rfl⟩) (by assumption) ?_
              try simp only [Act.put, List.setIfInBounds_toArray, List.set_cons_zero, List.set_cons_succ, List.getElem_toArray, List.getElem_cons_zero, List.getElem_cons_succ]
              refine wpAnyH_take (i := 7) (v := undef) rfl (by kernel_rfl) (by kernel_rfl) (by kernel_rfl) (fun _ _ _ h => h) (Or.inr ⟨by rfl, rfl⟩) (by assumption) ?_
              try simp only [Act.put, List.setIfInBounds_toArray, List.set_cons_zero, List.set_cons_succ, List.getElem_toArray, List.getElem_cons_zero, List.getElem_cons_succ]
              refine wpAnyH_take (i := 8) (v := undef) rfl (by kernel_rfl) (by kernel_rfl) (by kernel_rfl) (fun _ _ _ h => h) (Or.inr ⟨by rfl, rfl⟩) (by assumption) ?_
              try simp only [Act.put, List.setIfInBounds_toArray, List.set_cons_zero, List.set_cons_succ, List.getElem_toArray, List.getElem_cons_zero, List.getElem_cons_succ]
              refine wpAnyH_take (i := 9) (v := undef) rfl (by kernel_rfl) (by kernel_rfl) (by kernel_rfl) (fun _ _ _ h => h) (Or.inr ⟨by rfl, rfl⟩) (by assumption) ?_
              try simp only [Act.put, List.setIfInBounds_toArray, List.set_cons_zero, List.set_cons_succ, List.getElem_toArray, List.getElem_cons_zero, List.getElem_cons_succ]
              refine wpAnyH_take (i := 10) (v := undef) rfl (by kernel_rfl) (by kernel_rfl) (by kernel_rfl) (fun _ _ _ h => h) (Or.inr ⟨by rfl, rfl⟩) (by assumption) ?_
              try simp only [Act.put, List.setIfInBounds_toArray, List.set_cons_zero, List.set_cons_succ, List.getElem_toArray, List.getElem_cons_zero, List.getElem_cons_succ]
              refine wpAnyH_take (i := 11) (v := undef) rfl (by kernel_rfl) (by kernel_rfl) (by kernel_rfl) (fun _ _ _ h => h) (Or.inr ⟨by rfl, rfl⟩) (by assumption) ?_
              try simp only [Act.put, List.setIfInBounds_toArray, List.set_cons_zero, List.set_cons_succ, List.getElem_toArray, List.getElem_cons_zero, List.getElem_cons_succ]
              refine wpAnyH_take (i := 12) (v := undef) rfl (by kernel_rfl) (by kernel_rfl) (by kernel_rfl) (fun _ _ _ h => h) (Or.inr ⟨by rfl, rfl⟩) (by assumption) ?_
              try simp only [Act.put, List.setIfInBounds_toArray, List.set_cons_zero, List.set_cons_succ, List.getElem_toArray, List.getElem_cons_zero, List.getElem_cons_succ]
              refine wpAnyH_take (i := 13) (v := undef) rfl (by kernel_rfl) (by kernel_rfl) (by kernel_rfl) (fun _ _ _ h => h) (Or.inr ⟨by rfl, rfl⟩) (by assumption) ?_
              try simp only [Act.put, List.setIfInBounds_toArray, List.set_cons_zero, List.set_cons_succ, List.getElem_toArray, List.getElem_cons_zero, List.getElem_cons_succ]
              refine wpAnyH_take (i := 14) (v := undef) rfl (by kernel_rfl) (by kernel_rfl) (by kernel_rfl) (fun _ _ _ h => h) (Or.inr ⟨by rfl, rfl⟩) (by assumption) ?_
              try simp only [Act.put, List.setIfInBounds_toArray, List.set_cons_zero, List.set_cons_succ, List.getElem_toArray, List.getElem_cons_zero, List.getElem_cons_succ]
              refine wpAnyH_take (i := 15) (v := undef) rfl (by kernel_rfl) (by kernel_rfl) (by kernel_rfl) (fun _ _ _ h => h) (Or.inr ⟨by rfl, rfl⟩) (by assumption) ?_
              try simp only [Act.put, List.setIfInBounds_toArray, List.set_cons_zero, List.set_cons_succ, List.getElem_toArray, List.getElem_cons_zero, List.getElem_cons_succ]
              refine wpAnyH_take (i := 16) (v := undef) rfl (by kernel_rfl) (by kernel_rfl) (by kernel_rfl) (fun _ _ _ h => h) (Or.inr ⟨by rfl, rfl⟩) (by assumption) ?_
              try simp only [Act.put, List.setIfInBounds_toArray, List.set_cons_zero, List.set_cons_succ, List.getElem_toArray, List.getElem_cons_zero, List.getElem_cons_succ]
              refine wpAnyH_take (i := 17) (v := undef) rfl (by kernel_rfl) (by kernel_rfl) (by kernel_rfl) (fun _ _ _ h => h) (Or.inr ⟨by rfl, rfl⟩) (by assumption) ?_
              try simp only [Act.put, List.setIfInBounds_toArray, List.set_cons_zero, List.set_cons_succ, List.getElem_toArray, List.getElem_cons_zero, List.getElem_cons_succ]
              refine wpAnyH_take (i := 18) (v := ?vp018) rfl (by kernel_rfl) (by kernel_rfl) (by kernel_rfl) (fun _ _ _ h => h) (Or.inl ⟨by rfl, ?hyp018⟩) (by assumption) ?_
              case hyp018 =>
                intro w hSw
                (try dsimp only at hSw)
                go_simp
                try with_reducible rfl
              try simp only [Act.put, List.setIfInBounds_toArray, List.set_cons_zero, List.set_cons_succ, List.getElem_toArray, List.getElem_cons_zero, List.getElem_cons_succ]
              refine wpAnyH_done (by kernel_rfl) ?_ _
              have HK6 : Hid (_) := z6.1
              clear z6
              go_wp2_with fail
              go_meet
              case rel => exact ⟨by rw [HT8.out], HK6⟩
            · by_cases d2 : j = 0
              · have HT8 : Hid (t8 = false) := by show _ = _; rw [HB8.out, d2]; rfl
                subst d2
                refine wp_region_held_drew (S := fun w' => Kept [] wc w' ∧ w'.cell? ⟨Y, 0, none⟩ = some (.string e.1)) (by kernel_rfl) ?_ (fun hHeld => ?_)
                · exact HC8.out _ (Kept.refl _ _).drew
                refine wpAnyH_take (i := 0) (v := ?vp10) rfl (by kernel_rfl) (by kernel_rfl) (by kernel_rfl) (fun _ _ _ h => h) (Or.inl ⟨by rfl, ?hyp10⟩) (by assumption) ?_
                case hyp10 =>
                  intro w hSw
                  (try dsimp only at hSw)
                  go_simp
                  try with_reducible rfl
                try simp only [Act.put, List.setIfInBounds_toArray, List.set_cons_zero, List.set_cons_succ, List.getElem_toArray, List.getElem_cons_zero, List.getElem_cons_succ]
                refine wpAnyH_take (i := 1) (v := ?vp11) rfl (by kernel_rfl) (by kernel_rfl) (by kernel_rfl) (fun _ _ _ h => h) (Or.inl ⟨by rfl, ?hyp11⟩) (by assumption) ?_
                case hyp11 =>
                  intro w hSw
                  (try dsimp only at hSw)
                  go_simp
                  try with_reducible rfl
                try simp only [Act.put, List.setIfInBounds_toArray, List.set_cons_zero, List.set_cons_succ, List.getElem_toArray, List.getElem_cons_zero, List.getElem_cons_succ]
                refine wpAnyH_ready (rs := [2]) (by kernel_rfl) (by simp) ?_
                refine AllReadyH.cons rfl (fun K hK => ?_) AllReadyH.nil
                go_simp
                refine (HMay.out _ (HT.out.kept ((HV6.out.same hHeld.1).md.kU))).mono ?_
                rintro e6 w6 ⟨rfl, k6⟩
                have z6 := HC8.out _ (hHeld.1.trans k6 (by simp))
                clear k6
                go_wp2_with fail
                refine hK.out _ _ ?_ (fun hHeld => ?_)
                · exact z6
                clear hK K
                try simp only [Act.put, List.setIfInBounds_toArray, List.set_cons_zero, List.set_cons_succ, List.getElem_toArray, List.getElem_cons_zero, List.getElem_cons_succ]
                refine wpAnyH_take (i := 3) (v := ?vp13) rfl (by kernel_rfl) (by kernel_rfl) (by kernel_rfl) (fun _ _ _ h => h) (Or.inl ⟨by rfl, ?hyp13⟩) (by assumption) ?_
                case hyp13 =>
                  intro w hSw
                  (try dsimp only at hSw)
                  go_simp
                  try with_reducible rfl
                try simp only [Act.put, List.setIfInBounds_toArray, List.set_cons_zero, List.set_cons_succ, List.getElem_toArray, List.getElem_cons_zero, List.getElem_cons_succ]
                refine wpAnyH_take (i := 4) (v := ?vp14) rfl (by kernel_rfl) (by kernel_rfl) (by kernel_rfl) (fun _ _ _ h => h) (Or.inl ⟨by rfl, ?hyp14⟩) (by assumption) ?_
                case hyp14 =>
                  intro w hSw
                  (try dsimp only at hSw)
                  go_simp
                  try with_reducible rfl
                try simp only [Act.put, List.setIfInBounds_toArray, List.set_cons_zero, List.set_cons_succ, List.getElem_toArray, List.getElem_cons_zero, List.getElem_cons_succ]
                refine wpAnyH_take (i := 5) (v := ?vp15) rfl (by kernel_rfl) (by kernel_rfl) (by kernel_rfl) (fun _ _ _ h => h) (Or.inl ⟨by rfl, ?hyp15⟩) (by assumption) ?_
                case hyp15 =>
                  intro w hSw
                  (try dsimp only at hSw)
                  go_simp
                  try with_reducible rfl
                try simp only [Act.put, List.setIfInBounds_toArray, List.set_cons_zero, List.set_cons_succ, List.getElem_toArray, List.getElem_cons_zero, List.getElem_cons_succ]
                refine wpAnyH_take (i := 6) (v := ?vp16) rfl (by kernel_rfl) (by kernel_rfl) (by kernel_rfl) (fun _ _ _ h => h) (Or.inl ⟨by rfl, ?hyp16⟩) (by assumption) ?_
                case hyp16 =>
                  intro w hSw
                  (try dsimp only at hSw)
                  go_simp
                  try with_reducible rfl
                try simp only [Act.put, List.setIfInBounds_toArray, List.set_cons_zero, List.set_cons_succ, List.getElem_toArray, List.getElem_cons_zero, List.getElem_cons_succ]
                refine wpAnyH_take (i := 7) (v := ?vp17) rfl (by kernel_rfl) (by kernel_rfl) (by kernel_rfl) (fun _ _ _ h => h) (Or.inl ⟨by rfl, ?hyp17⟩) (by assumption) ?_
                case hyp17 =>
                  intro w hSw
                  (try dsimp only at hSw)
                  go_simp
                  try with_reducible rfl
                try simp only [Act.put, List.setIfInBounds_toArray, List.set_cons_zero, List.set_cons_succ, List.getElem_toArray, List.getElem_cons_zero, List.getElem_cons_succ]
                refine wpAnyH_take (i := 8) (v := undef) rfl (by kernel_rfl) (by kernel_rfl) (by kernel_rfl) (fun _ _ _ h => h) (Or.inr ⟨by rfl, rfl⟩) (by assumption) ?_
                try simp only [Act.put, List.setIfInBounds_toArray, List.set_cons_zero, List.set_cons_succ, List.getElem_toArray, List.getElem_cons_zero, List.getElem_cons_succ]
                refine wpAnyH_take (i := 9) (v := undef) rfl (by kernel_rfl) (by kernel_rfl) (by kernel_rfl) (fun _ _ _ h => h) (Or.inr ⟨by rfl, rfl⟩) (by assumption) ?_
                try simp only [Act.put, List.setIfInBounds_toArray, List.set_cons_zero, List.set_cons_succ, List.getElem_toArray, List.getElem_cons_zero, List.getElem_cons_succ]
                refine wpAnyH_take (i := 10) (v := undef) rfl (by kernel_rfl) (by kernel_rfl) (by kernel_rfl) (fun _ _ _ h => h) (Or.inr ⟨by rfl, rfl⟩) (by assumption) ?_
                try simp only [Act.put, List.setIfInBounds_toArray, List.set_cons_zero, List.set_cons_succ, List.getElem_toArray, List.getElem_cons_zero, List.getElem_cons_succ]
                refine wpAnyH_take (i := 11) (v := undef) rfl (by kernel_rfl) (by kernel_rfl) (by kernel_rfl) (fun _ _ _ h => h) (Or.inr ⟨by rfl, rfl⟩) (by assumption) ?_
                try simp only [Act.put, List.setIfInBounds_toArray, List.set_cons_zero, List.set_cons_succ, List.getElem_toArray, List.getElem_cons_zero, List.getElem_cons_succ]
                refine wpAnyH_take (i := 12) (v := undef) rfl (by kernel_rfl) (by kernel_rfl) (by kernel_rfl) (fun _ _ _ h => h) (Or.inr ⟨by rfl, rfl⟩) (by assumption) ?_
                try simp only [Act.put, List.setIfInBounds_toArray, List.set_cons_zero, List.set_cons_succ, List.getElem_toArray, List.getElem_cons_zero, List.getElem_cons_succ]
                refine wpAnyH_take (i := 13) (v := undef) rfl (by kernel_rfl) (by kernel_rfl) (by kernel_rfl) (fun _ _ _ h => h) (Or.inr ⟨by rfl, rfl⟩) (by assumption) ?_
                try simp only [Act.put, List.setIfInBounds_toArray, List.set_cons_zero, List.set_cons_succ, List.getElem_toArray, List.getElem_cons_zero, List.getElem_cons_succ]
                refine wpAnyH_take (i := 14) (v := undef) rfl (by kernel_rfl) (by kernel_rfl) (by kernel_rfl) (fun _ _ _ h => h) (Or.inr ⟨by rfl, rfl⟩) (by assumption) ?_
                try simp only [Act.put, List.setIfInBounds_toArray, List.set_cons_zero, List.set_cons_succ, List.getElem_toArray, List.getElem_cons_zero, List.getElem_cons_succ]
                refine wpAnyH_take (i := 15) (v := undef) rfl (by kernel_rfl) (by kernel_rfl) (by kernel_rfl) (fun _ _ _ h => h) (Or.inr ⟨by rfl, rfl⟩) (by assumption) ?_
                try simp only [Act.put, List.setIfInBounds_toArray, List.set_cons_zero, List.set_cons_succ, List.getElem_toArray, List.getElem_cons_zero, List.getElem_cons_succ]
                refine wpAnyH_take (i := 16) (v := undef) rfl (by kernel_rfl) (by kernel_rfl) (by kernel_rfl) (fun _ _ _ h => h) (Or.inr ⟨by rfl, rfl⟩) (by assumption) ?_
                try simp only [Act.put, List.setIfInBounds_toArray, List.set_cons_zero, List.set_cons_succ, List.getElem_toArray, List.getElem_cons_zero, List.getElem_cons_succ]
                refine wpAnyH_take (i := 17) (v := ?vp117) rfl (by kernel_rfl) (by kernel_rfl) (by kernel_rfl) (fun _ _ _ h => h) (Or.inl ⟨by rfl, ?hyp117⟩) (by assumption) ?_
                case hyp117 =>
                  intro w hSw
                  (try dsimp only at hSw)
                  go_simp
                  try with_reducible rfl
                try simp only [Act.put, List.setIfInBounds_toArray, List.set_cons_zero, List.set_cons_succ, List.getElem_toArray, List.getElem_cons_zero, List.getElem_cons_succ]
                refine wpAnyH_take (i := 18) (v := ?vp118) rfl (by kernel_rfl) (by kernel_rfl) (by kernel_rfl) (fun _ _ _ h => h) (Or.inl ⟨by rfl, ?hyp118⟩) (by assumption) ?_
                case hyp118 =>
                  intro w hSw
                  (try dsimp only at hSw)
                  go_simp
                  try with_reducible rfl
                try simp only [Act.put, List.setIfInBounds_toArray, List.set_cons_zero, List.set_cons_succ, List.getElem_toArray, List.getElem_cons_zero, List.getElem_cons_succ]
                refine wpAnyH_done (by kernel_rfl) ?_ _
                have HK6 : Hid (_) := z6.1
                clear z6
                go_wp2_with fail
                go_meet
                case rel => exact ⟨by rw [HT8.out], HK6⟩
              · obtain ⟨i, hi⟩ : ∃ i, j = i + 1 := ⟨j - 1, by omega⟩
                subst hi
                have HC9 := HCp.out (by omega)
                rw [Nat.add_sub_cancel] at HC9
                obtain ⟨z, hz⟩ : ∃ z, z = (E.getD i (⟨#[]⟩, 0)).1 := ⟨_, rfl⟩
                rw [← hz] at HC9
                have hpz : prevE E (i + 1) = some z := by
                  unfold prevE
                  rw [if_neg (by omega), hz, Nat.add_sub_cancel]
                  have : i < E.length := by omega
                  simp [this]
                have HT8 : Hid (t8 = (Op.bytesLess e.1.toList z.toList || e.1.toList == z.toList)) := by show _ = _; rw [HB8.out, hpz]; rfl
                obtain ⟨s9, hs9⟩ : ∃ s9, (Op.bytesLess e.1.toList z.toList || e.1.toList == z.toList) = s9 := ⟨_, rfl⟩
                rw [hs9] at HT8
                have e1 : ((i + 1 : Nat) : Int) - 1 = (i : Int) := by omega
                have e2 : IntKind.i64.wrap (((i + 1 : Nat) : Int) - 1) = (i : Int) := by rw [e1, IntKind.wrap_i64]; omega
                have e3 : IntKind.i64.wrap (i : Int) = (i : Int) := by rw [IntKind.wrap_i64]; omega
                have k0 : (0 : Int) ≤ (i : Int) := by omega
                have k1 : (i : Int) < (E.length : Int) := by omega
                have k2 : (0 : Int) < ((i + 1 : Nat) : Int) := by omega
                have HC8 : Hid (_) := HC9
                clear hz hpz HC9 HB8 d2
                refine wp_region_held_drew (S := fun w' => Kept [] wc w' ∧ w'.cell? ⟨Y, 0, none⟩ = some (.string e.1) ∧ w'.cell? ⟨b, o + i * 2, none⟩ = some (.string z)) (by kernel_rfl) ?_ (fun hHeld => ?_)
                · exact HC8.out _ (Kept.refl _ _).drew
                refine wpAnyH_take (i := 0) (v := ?vp20) rfl (by kernel_rfl) (by kernel_rfl) (by kernel_rfl) (fun _ _ _ h => h) (Or.inl ⟨by rfl, ?hyp20⟩) (by assumption) ?_
                case hyp20 =>
                  intro w hSw
                  (try dsimp only at hSw)
                  go_simp
                  try with_reducible rfl
                try simp only [Act.put, List.setIfInBounds_toArray, List.set_cons_zero, List.set_cons_succ, List.getElem_toArray, List.getElem_cons_zero, List.getElem_cons_succ]
                refine wpAnyH_take (i := 1) (v := ?vp21) rfl (by kernel_rfl) (by kernel_rfl) (by kernel_rfl) (fun _ _ _ h => h) (Or.inl ⟨by rfl, ?hyp21⟩) (by assumption) ?_
                case hyp21 =>
                  intro w hSw
                  (try dsimp only at hSw)
                  go_simp
                  try with_reducible rfl
                try simp only [Act.put, List.setIfInBounds_toArray, List.set_cons_zero, List.set_cons_succ, List.getElem_toArray, List.getElem_cons_zero, List.getElem_cons_succ]
                refine wpAnyH_ready (rs := [2]) (by kernel_rfl) (by simp) ?_
                refine AllReadyH.cons rfl (fun K hK => ?_) AllReadyH.nil
                go_simp
                refine (HMay.out _ (HT.out.kept ((HV6.out.same hHeld.1).md.kU))).mono ?_
                rintro e6 w6 ⟨rfl, k6⟩
                have z6 := HC8.out _ (hHeld.1.trans k6 (by simp))
                clear k6
                go_wp2_with fail
                refine hK.out _ _ ?_ (fun hHeld => ?_)
                · exact z6
                clear hK K
                try simp only [Act.put, List.setIfInBounds_toArray, List.set_cons_zero, List.set_cons_succ, List.getElem_toArray, List.getElem_cons_zero, List.getElem_cons_succ]
                refine wpAnyH_take (i := 3) (v := ?vp23) rfl (by kernel_rfl) (by kernel_rfl) (by kernel_rfl) (fun _ _ _ h => h) (Or.inl ⟨by rfl, ?hyp23⟩) (by assumption) ?_
                case hyp23 =>
                  intro w hSw
                  (try dsimp only at hSw)
                  go_simp
                  try with_reducible rfl
                try simp only [Act.put, List.setIfInBounds_toArray, List.set_cons_zero, List.set_cons_succ, List.getElem_toArray, List.getElem_cons_zero, List.getElem_cons_succ]
                refine wpAnyH_take (i := 4) (v := ?vp24) rfl (by kernel_rfl) (by kernel_rfl) (by kernel_rfl) (fun _ _ _ h => h) (Or.inl ⟨by rfl, ?hyp24⟩) (by assumption) ?_
                case hyp24 =>
                  intro w hSw
                  (try dsimp only at hSw)
                  go_simp
                  try with_reducible rfl
                try simp only [Act.put, List.setIfInBounds_toArray, List.set_cons_zero, List.set_cons_succ, List.getElem_toArray, List.getElem_cons_zero, List.getElem_cons_succ]
                refine wpAnyH_take (i := 5) (v := ?vp25) rfl (by kernel_rfl) (by kernel_rfl) (by kernel_rfl) (fun _ _ _ h => h) (Or.inl ⟨by rfl, ?hyp25⟩) (by assumption) ?_
                case hyp25 =>
                  intro w hSw
                  (try dsimp only at hSw)
                  go_simp
                  try with_reducible rfl
                try simp only [Act.put, List.setIfInBounds_toArray, List.set_cons_zero, List.set_cons_succ, List.getElem_toArray, List.getElem_cons_zero, List.getElem_cons_succ]
                refine wpAnyH_take (i := 6) (v := ?vp26) rfl (by kernel_rfl) (by kernel_rfl) (by kernel_rfl) (fun _ _ _ h => h) (Or.inl ⟨by rfl, ?hyp26⟩) (by assumption) ?_
                case hyp26 =>
                  intro w hSw
                  (try dsimp only at hSw)
                  go_simp
                  try with_reducible rfl
                try simp only [Act.put, List.setIfInBounds_toArray, List.set_cons_zero, List.set_cons_succ, List.getElem_toArray, List.getElem_cons_zero, List.getElem_cons_succ]
                refine wpAnyH_take (i := 7) (v := ?vp27) rfl (by kernel_rfl) (by kernel_rfl) (by kernel_rfl) (fun _ _ _ h => h) (Or.inl ⟨by rfl, ?hyp27⟩) (by assumption) ?_
                case hyp27 =>
                  intro w hSw
                  (try dsimp only at hSw)
                  go_simp
                  try with_reducible rfl
                try simp only [Act.put, List.setIfInBounds_toArray, List.set_cons_zero, List.set_cons_succ, List.getElem_toArray, List.getElem_cons_zero, List.getElem_cons_succ]
                refine wpAnyH_take (i := 8) (v := ?vp28) rfl (by kernel_rfl) (by kernel_rfl) (by kernel_rfl) (fun _ _ _ h => h) (Or.inl ⟨by rfl, ?hyp28⟩) (by assumption) ?_
                case hyp28 =>
                  intro w hSw
                  (try dsimp only at hSw)
                  go_simp
                  try with_reducible rfl
                try simp only [Act.put, List.setIfInBounds_toArray, List.set_cons_zero, List.set_cons_succ, List.getElem_toArray, List.getElem_cons_zero, List.getElem_cons_succ]
                refine wpAnyH_take (i := 9) (v := ?vp29) rfl (by kernel_rfl) (by kernel_rfl) (by kernel_rfl) (fun _ _ _ h => h) (Or.inl ⟨by rfl, ?hyp29⟩) (by assumption) ?_
                case hyp29 =>
                  intro w hSw
                  (try dsimp only at hSw)
                  go_simp
                  try with_reducible rfl
                try simp only [Act.put, List.setIfInBounds_toArray, List.set_cons_zero, List.set_cons_succ, List.getElem_toArray, List.getElem_cons_zero, List.getElem_cons_succ]
                refine wpAnyH_take (i := 10) (v := ?vp210) rfl (by kernel_rfl) (by kernel_rfl) (by kernel_rfl) (fun _ _ _ h => h) (Or.inl ⟨by rfl, ?hyp210⟩) (by assumption) ?_
                case hyp210 =>
                  intro w hSw
                  (try dsimp only at hSw)
                  go_simp
                  try with_reducible rfl
                try simp only [Act.put, List.setIfInBounds_toArray, List.set_cons_zero, List.set_cons_succ, List.getElem_toArray, List.getElem_cons_zero, List.getElem_cons_succ]
                refine wpAnyH_take (i := 11) (v := ?vp211) rfl (by kernel_rfl) (by kernel_rfl) (by kernel_rfl) (fun _ _ _ h => h) (Or.inl ⟨by rfl, ?hyp211⟩) (by assumption) ?_
                case hyp211 =>
                  intro w hSw
                  (try dsimp only at hSw)
                  go_simp
                  try with_reducible rfl
                try simp only [Act.put, List.setIfInBounds_toArray, List.set_cons_zero, List.set_cons_succ, List.getElem_toArray, List.getElem_cons_zero, List.getElem_cons_succ]
                refine wpAnyH_take (i := 12) (v := ?vp212) rfl (by kernel_rfl) (by kernel_rfl) (by kernel_rfl) (fun _ _ _ h => h) (Or.inl ⟨by rfl, ?hyp212⟩) (by assumption) ?_
                case hyp212 =>
                  intro w hSw
                  (try dsimp only at hSw)
                  go_simp
                  try with_reducible rfl
                try simp only [Act.put, List.setIfInBounds_toArray, List.set_cons_zero, List.set_cons_succ, List.getElem_toArray, List.getElem_cons_zero, List.getElem_cons_succ]
                refine wpAnyH_take (i := 13) (v := ?vp213) rfl (by kernel_rfl) (by kernel_rfl) (by kernel_rfl) (fun _ _ _ h => h) (Or.inl ⟨by rfl, ?hyp213⟩) (by assumption) ?_
                case hyp213 =>
                  intro w hSw
                  (try dsimp only at hSw)
                  go_simp
                  try with_reducible rfl
                try simp only [Act.put, List.setIfInBounds_toArray, List.set_cons_zero, List.set_cons_succ, List.getElem_toArray, List.getElem_cons_zero, List.getElem_cons_succ]
                refine wpAnyH_take (i := 14) (v := ?vp214) rfl (by kernel_rfl) (by kernel_rfl) (by kernel_rfl) (fun _ _ _ h => h) (Or.inl ⟨by rfl, ?hyp214⟩) (by assumption) ?_
                case hyp214 =>
                  intro w hSw
                  (try dsimp only at hSw)
                  go_simp
                  try with_reducible rfl
                try simp only [Act.put, List.setIfInBounds_toArray, List.set_cons_zero, List.set_cons_succ, List.getElem_toArray, List.getElem_cons_zero, List.getElem_cons_succ]
                refine wpAnyH_take (i := 15) (v := ?vp215) rfl (by kernel_rfl) (by kernel_rfl) (by kernel_rfl) (fun _ _ _ h => h) (Or.inl ⟨by rfl, ?hyp215⟩) (by assumption) ?_
                case hyp215 =>
                  intro w hSw
                  (try dsimp only at hSw)
                  go_simp
                  try with_reducible rfl
                try simp only [Act.put, List.setIfInBounds_toArray, List.set_cons_zero, List.set_cons_succ, List.getElem_toArray, List.getElem_cons_zero, List.getElem_cons_succ]
                refine wpAnyH_take (i := 16) (v := ?vp216) rfl (by kernel_rfl) (by kernel_rfl) (by kernel_rfl) (fun _ _ _ h => h) (Or.inl ⟨by rfl, ?hyp216⟩) (by assumption) ?_
                case hyp216 =>
                  intro w hSw
                  (try dsimp only at hSw)
                  go_simp
                  try with_reducible rfl
                try simp only [Act.put, List.setIfInBounds_toArray, List.set_cons_zero, List.set_cons_succ, List.getElem_toArray, List.getElem_cons_zero, List.getElem_cons_succ]
                refine wpAnyH_take (i := 17) (v := ?vp217) rfl (by kernel_rfl) (by kernel_rfl) (by kernel_rfl) (fun _ _ _ h => h) (Or.inl ⟨by rfl, ?hyp217⟩) (by assumption) ?_
                case hyp217 =>
                  intro w hSw
                  (try dsimp only at hSw)
                  go_simp
                  try with_reducible rfl
                try simp only [Act.put, List.setIfInBounds_toArray, List.set_cons_zero, List.set_cons_succ, List.getElem_toArray, List.getElem_cons_zero, List.getElem_cons_succ]
                refine wpAnyH_take (i := 18) (v := ?vp218) rfl (by kernel_rfl) (by kernel_rfl) (by kernel_rfl) (fun _ _ _ h => h) (Or.inl ⟨by rfl, ?hyp218⟩) (by assumption) ?_
                case hyp218 =>
                  intro w hSw
                  (try dsimp only at hSw)
                  go_simp
                  try with_reducible rfl
                try simp only [Act.put, List.setIfInBounds_toArray, List.set_cons_zero, List.set_cons_succ, List.getElem_toArray, List.getElem_cons_zero, List.getElem_cons_succ]
                refine wpAnyH_done (by kernel_rfl) ?_ _
                have HK6 : Hid (_) := z6.1
                clear z6
                go_wp2_with fail
                go_meet
                case rel => exact ⟨by rw [HT8.out], HK6⟩
          case rest =>
            obtain ⟨rfl, HK8⟩ := hcut
            have HV8 : Hid (_) := HV6.out.same HK8.out
            clear HV6 HK8 HC8 HCp HPv HB8
            obtain ⟨T6, hT6⟩ : ∃ T6, T6 = (if t5 then pushF T2 ⟨2, num, e.1⟩ else T2) := ⟨_, rfl⟩
            rw [← hT6] at HV8 HK HL6
            clear hT6
            go_upto_if 53 with fail
            go_cut [] from 54 to 61 (fun wx => ∃ v', Hid (Mb U h p S n wM wx v' (if t8 then pushF T6 ⟨5, num, e.1⟩ else T6) ((Y, .cells #[.string e.1, .int .i64 e.2] 33 (0, 0)) :: (Q, .cells (icl B) 77 (0, 0)) :: (O, .cells #[.int .i64 num, .bool dir, .slice ae ents.length ce, .string data] 31 (0, 0)) :: Bs)))
            case first =>
              have HC : Hid (wc.cell? ⟨O, 0, none⟩ = some (.int .i64 num) ∧ wc.cell? ⟨Y, 0, none⟩ = some (.string e.1)) := ⟨by rw [cellB (HV8.out.bs (O, .cells #[.int .i64 num, .bool dir, .slice ae ents.length ce, .string data] 31 (0, 0)) (by simp)).2.2]; rfl, by rw [cellB (HV8.out.bs (Y, .cells #[.string e.1, .int .i64 e.2] 33 (0, 0)) (by simp)).2.2]; rfl⟩
              cases t8
              · go_wp2_with fail
                go_meet
                case rel => exact ⟨_, HV8.out⟩
              · go_upto_region 9 with fail
                go_region_held3 (fun w' => w'.cell? ⟨O, 0, none⟩ = some (.int .i64 num) ∧ w'.cell? ⟨Y, 0, none⟩ = some (.string e.1)) (first | exact HC.out | exact z6 | go_keep)
                  (first
                    | (go_at_call 29; refine (mb_add (HV8.out.same ((Kept.refl _ _).drew)) 5 num e.1 (by have := HL6.out; omega)).mono ?_; rintro e6 w6 ⟨rfl, v6, h6⟩; have z6 : w6.cell? ⟨O, 0, none⟩ = some (.int .i64 num) ∧ w6.cell? ⟨Y, 0, none⟩ = some (.string e.1) := ⟨by rw [cellB (h6.bs (O, .cells #[.int .i64 num, .bool dir, .slice ae ents.length ce, .string data] 31 (0, 0)) (by simp)).2.2]; rfl, by rw [cellB (h6.bs (Y, .cells #[.string e.1, .int .i64 e.2] 33 (0, 0)) (by simp)).2.2]; rfl⟩))
                have HM6 : Hid (_) := h6
                clear h6 z6
                go_wp2_with fail
                go_meet
                case rel => exact ⟨_, HM6.out⟩
            case rest =>
              obtain ⟨v9, HV9⟩ := hcut
              clear HV8
              have HL9 : Hid ((if t8 then pushF T6 ⟨5, num, e.1⟩ else T6).length ≤ 100000 + 2 * j + 1 + 1) := pushF_len HL6.out
              obtain ⟨k, hk⟩ : ∃ k, k = bkS e.1 := ⟨_, rfl⟩
              have hk8 : k < 8 := by rw [hk]; exact bkS_lt _
              have HBk : Hid (∀ W, Calls Tryd.prog 44 #[.string e.1] W fun e w' => e = .returned (.int .i64 (k : Int)) ∧ Kept [] W w') := fun W => by rw [hk, bkS_int]; exact n_bucket e.1 W
              rw [← hk] at HSl
              have y0 : wc.cell? ⟨Y, 0, none⟩ = some (.string e.1) := by rw [cellB (HV9.out.bs (Y, .cells #[.string e.1, .int .i64 e.2] 33 (0, 0)) (by simp)).2.2]; rfl
              clear hk
              go_upto_region 10 with fail
              go_wp2_with fail
              refine (HBk.out _).mono ?_
              rintro e6 w6 ⟨rfl, k6⟩
              have HV10 : Hid (_) := HV9.out.same k6
              have hq : w6.heap[Q]? = some (.cells (icl B) 77 (0, 0)) := (HV10.out.bs (Q, .cells (icl B) 77 (0, 0)) (by simp)).2.2
              have q1 : w6.cell? ⟨Q, k, none⟩ = some (.int .i64 (B.getD k 0)) := by rw [cellB hq]; exact icl_get (by rw [HB.out.1]; exact hk8)
              have q2 : w6.frozen? ⟨Q, k, none⟩ = false := by simp [World.frozen?, hq]
              have hbb := HB.out.2 k
              obtain ⟨z, hz⟩ : ∃ z, z = B.getD k 0 := ⟨_, rfl⟩
              have HUp : Hid (B.set k (z + 1) = upS B k) := by rw [hz]; rfl
              rw [← hz] at q1 hbb
              have ew : IntKind.i64.wrap (z + 1) = z + 1 := by rw [IntKind.wrap_i64]; omega
              have ew2 : wrap64 (z + 1) = z + 1 := by unfold wrap64; omega
              have kk0 : (0 : Int) ≤ (k : Int) := by omega
              have kk1 : (k : Int) < 8 := by omega
              obtain ⟨W7, hW7⟩ : ∃ W7, W7 = w6.setCell ⟨Q, k, none⟩ (.int .i64 (z + 1)) := ⟨_, rfl⟩
              have HV7 : Hid (Mb U h p S n wM W7 v9 (if t8 then pushF T6 ⟨5, num, e.1⟩ else T6) ((Q, .cells (icl (upS B k)) 77 (0, 0)) :: (O, .cells #[.int .i64 num, .bool dir, .slice ae ents.length ce, .string data] 31 (0, 0)) :: Bs)) := by
                refine (HV10.out.fewer (Cs := (Q, .cells (icl B) 77 (0, 0)) :: (O, .cells #[.int .i64 num, .bool dir, .slice ae ents.length ce, .string data] 31 (0, 0)) :: Bs) (fun b hb => List.mem_cons_of_mem _ hb)).turn (o' := .cells (icl (upS B k)) 77 (0, 0)) (w' := W7) ?_ ?_ HOQ.out
                · rw [hW7]; exact (Kept.refl _ _).setCell (Or.inl (by simp)) _
                · rw [hW7, ← HUp.out]; exact icl_set hq
              have HW7 : Hid (w6.setCell ⟨Q, k, none⟩ (.int .i64 (z + 1)) = W7) := hW7.symm
              clear hz hW7 hq hbb HV9 y0 k6 HV10
              go_wp2_with fail
              go_roundw
              case rel => exact ⟨j + 1, v9, _, upS B k, by go_num, by omega, by have := HL9.out; omega, by rw [HW7.out]; exact HV7.out, HB.out.up, HK.out, HSl.out⟩
              case measure => simp [intOf]; omega
    · obtain ⟨hm, hB, hK, hSl⟩ := HJ.out
      have ej : j = E.length := by omega
      rw [ej, List.drop_length] at hK hSl
      have hT2 : namesL g num E none T0 = T2 := hK.symm
      have hB2 : slotsL E (List.replicate 8 0) = B := hSl.symm
      obtain ⟨mx, hmx⟩ : ∃ mx, mx = max8 B := ⟨_, rfl⟩
      have hq : wr.heap[Q]? = some (.cells (icl B) 77 (0, 0)) := (hm.bs (Q, .cells (icl B) 77 (0, 0)) (by simp)).2.2
      have HMx : Hid (Calls Tryd.prog 45 #[.slice (some ⟨Q, 0, none⟩) 8 8] wr fun e w' => e = .returned (.int .i64 mx) ∧ w' = wr) := by rw [hmx]; exact s_max hq hB.1 8
      rw [hB2, hT2, ← hmx] at HR
      have HJ2 : Hid (_) := hm
      have j1 : ¬ (j : Int) < (E.length : Int) := by omega
      clear hm hB hK hSl HJ ej hT2 hB2 hmx hq
      have HC : Hid (wr.cell? ⟨O, 0, none⟩ = some (.int .i64 num)) := by show _ = _; rw [cellB (HJ2.out.bs (O, .cells #[.int .i64 num, .bool dir, .slice ae ents.length ce, .string data] 31 (0, 0)) (by simp)).2.2]; rfl
      by_cases h4 : 4 < mx
      · rw [if_pos h4] at HR
        go_wp2_with fail
        refine HMx.out.mono ?_
        rintro e w6 ⟨rfl, hw6⟩
        have hw7 := hw6.symm
        subst hw7
        clear hw6
        go_upto_region 13 with fail
        go_region_held3 (fun w' => w'.cell? ⟨O, 0, none⟩ = some (.int .i64 num)) (first | exact HC.out | exact z6 | go_keep)
          (first
            | (go_at_call 29; refine (mb_add (HJ2.out.same ((Kept.refl _ _).drew)) 7 num ⟨#[]⟩ (by omega)).mono ?_; rintro e6 w6 ⟨rfl, v6, h6⟩; have z6 : w6.cell? ⟨O, 0, none⟩ = some (.int .i64 num) := by rw [cellB (h6.bs (O, .cells #[.int .i64 num, .bool dir, .slice ae ents.length ce, .string data] 31 (0, 0)) (by simp)).2.2]; rfl))
        have HM6 : Hid (_) := h6
        clear h6 z6
        go_wp2_with fail
        go_end0
        exact ⟨rfl, _, by rw [← HT0.out, HR.out]; exact HM6.out.fewer (fun b hb => List.mem_cons_of_mem _ (List.mem_cons_of_mem _ hb))⟩
      · rw [if_neg h4] at HR
        go_wp2_with fail
        refine HMx.out.mono ?_
        rintro e w6 ⟨rfl, hw6⟩
        have hw7 := hw6.symm
        subst hw7
        clear hw6
        go_wp2_with fail
        go_end0
        exact ⟨rfl, _, by rw [← HT0.out, HR.out]; exact HJ2.out.fewer (fun b hb => List.mem_cons_of_mem _ (List.mem_cons_of_mem _ hb))⟩

end Go.Proofs.YtgfdcnjnkljahaaDoor
