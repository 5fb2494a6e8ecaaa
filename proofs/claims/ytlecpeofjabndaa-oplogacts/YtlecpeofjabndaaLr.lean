/-
  Package oplog: Drop.
-/
import Derived.Test.YtlecpeofjabndaaLq
namespace Go.Proofs.Ytlecpeofjabndaa
open Go.RowKit
set_option linter.unusedVariables false
set_option linter.unusedSimpArgs false

/-- The first n cores' records have been dropped up to a stamp. -/
structure Dp (ua uk : Int) (n : Nat) (C D : List Co) : Prop where
  len : D.length = C.length
  rows : ∀ i (hi : i < C.length) (hd : i < D.length), (D[i]).R = if i < n then (C[i]).R.filter (keepB ua uk) else (C[i]).R
  sta : ∀ i (hi : i < C.length) (hd : i < D.length), (D[i]).a = (C[i]).a ∧ (D[i]).k = (C[i]).k
  blk : ∀ i (hi : i < C.length) (hd : i < D.length), (D[i]).v.ownBlock = (C[i]).v.ownBlock

theorem Dp.refl (ua uk : Int) (C : List Co) : Dp ua uk 0 C C := ⟨rfl, fun i _ _ => by rw [if_neg (by omega)], fun _ _ _ => ⟨rfl, rfl⟩, fun _ _ _ => rfl⟩

theorem Dp.bl {ua uk : Int} {n p g : Nat} {C D : List Co} (h : Dp ua uk n C D) : ∀ x, x ∈ bl p g D ↔ x ∈ bl p g C := fun x => by
  rw [mem_bl, mem_bl]
  constructor
  · rintro (e | e | ⟨i, hi, e⟩)
    · exact Or.inl e
    · exact Or.inr (Or.inl e)
    · exact Or.inr (Or.inr ⟨i, by rw [← h.len]; exact hi, by rw [← h.blk i (by rw [← h.len]; exact hi) hi]; exact e⟩)
  · rintro (e | e | ⟨i, hi, e⟩)
    · exact Or.inl e
    · exact Or.inr (Or.inl e)
    · exact Or.inr (Or.inr ⟨i, by rw [h.len]; exact hi, by rw [h.blk i hi (by rw [h.len]; exact hi)]; exact e⟩)

theorem Dp.step {ua uk : Int} {n : Nat} {C D : List Co} (h : Dp ua uk n C D) (hn : n < C.length) (hd : n < D.length) {c : Co} (hR : c.R = (D[n]).R.filter (keepB ua uk)) (ha : c.a = (D[n]).a) (hk : c.k = (D[n]).k) (hb : c.v.ownBlock = (D[n]).v.ownBlock) : Dp ua uk (n + 1) C (D.set n c) := by
  have gs : ∀ j (hj : j < (D.set n c).length), (j = n ∧ (D.set n c)[j] = c) ∨ (n ≠ j ∧ ∃ hj' : j < D.length, (D.set n c)[j] = D[j]) := fun j hj => by
    have hj' : j < D.length := by simpa using hj
    by_cases e : j = n
    · subst e; exact Or.inl ⟨rfl, by simp⟩
    · exact Or.inr ⟨fun e' => e e'.symm, hj', by rw [List.getElem_set_ne (fun e' => e e'.symm)]⟩
  refine ⟨by simpa using h.len, fun i hi hx => ?_, fun i hi hx => ?_, fun i hi hx => ?_⟩
  · rcases gs i hx with ⟨rfl, e⟩ | ⟨hne, hj, e⟩
    · rw [e, hR, h.rows i hi hd, if_neg (by omega), if_pos (by omega)]
    · rw [e, h.rows i hi hj]
      by_cases c1 : i < n
      · rw [if_pos c1, if_pos (by omega)]
      · rw [if_neg c1, if_neg (by omega)]
  · rcases gs i hx with ⟨rfl, e⟩ | ⟨hne, hj, e⟩
    · rw [e, ha, hk]; exact h.sta i hi hd
    · rw [e]; exact h.sta i hi hj
  · rcases gs i hx with ⟨rfl, e⟩ | ⟨hne, hj, e⟩
    · rw [e, hb]; exact h.blk i hi hd
    · rw [e]; exact h.blk i hi hj

theorem Dp.all {ua uk : Int} {n : Nat} {C D : List Co} (h : Dp ua uk n C D) (hn : n = C.length) : D.map Co.R = (C.map Co.R).map (List.filter (keepB ua uk)) := by
  apply List.ext_getElem (by simp [h.len])
  intro i h1 h2
  have hi : i < C.length := by simpa using h2
  have hd : i < D.length := by simpa using h1
  have := h.rows i hi hd
  rw [if_pos (by omega)] at this
  simpa using this

theorem totR_put {D : List Co} {n : Nat} (hn : n < D.length) (c : Co) : totR ((D.set n c).map Co.R) + (D[n]).R.length = totR (D.map Co.R) + c.R.length := by
  have := sum_set ((D.map Co.R).map List.length) n c.R.length (by simpa using hn)
  have e : ((D.map Co.R).map List.length)[n]'(by simpa using hn) = (D[n]).R.length := by simp
  rw [e] at this
  unfold totR
  rw [List.map_set, List.map_set]
  exact this

set_option maxRecDepth 100000 in
set_option maxHeartbeats 8000000 in
theorem p_drop {H : Nat} {w : World} {p g : Nat} {C : List Co} (h : Lo H w p g C) (ua uk : Int) :
    Calls Try.prog 13 #[.pointer (some ⟨p, 0, none⟩), .agg #[.int .i64 ua, .int .i64 uk]] w fun e w' => ∃ (D : List Co) (m : Nat), e = .returned (.int .i64 (m : Int)) ∧ Lo H w' p g D ∧ Dp ua uk C.length C D ∧ m + totR (D.map Co.R) = totR (C.map Co.R) ∧ Kept (bl p g C) w w' := by
  obtain ⟨U, Z, HU, HK, HB⟩ := box1 w #[.int .i64 ua, .int .i64 uk] 35
  have HL : Hid (Lo H U p g C) := h.kept0 HK.out.1
  obtain ⟨n, hN⟩ : ∃ n, C.length = n := ⟨_, rfl⟩
  have HN : Hid (C.length = n) := hN
  have hn8 := h.chi
  rw [hN] at hn8
  have HZ : Hid (Z ∉ bl p g C) := fun hm => by have := (h.lt Z hm).2; have := HU.out.2; omega
  have c0 := HL.out.box
  rw [hN] at c0 ⊢
  have HT : Hid (totR (C.map Co.R) ≤ 2048) := by
    have := totR_le (L := C.map Co.R) (fun l hl => by
      obtain ⟨i, hi, rfl⟩ := List.getElem_of_mem hl
      have := h.len i (by simpa using hi)
      simpa using this)
    simp only [List.length_map] at this
    show _ ≤ _
    omega
  clear h hN
  go_enter Try.func13, Try.ntmps13
  go_upto_region 1 with fail
  rw [HU.out.1, HU.out.2]
  clear HU
  go_wp2_with fail
  clear c0
  go_loopw [18, 6] (fun i q wr => ∃ (j m : Nat) (D : List Co), i = .int .i64 (j : Int) ∧ q = .int .i64 (m : Int) ∧ j ≤ n ∧ Hid (Lo H wr p g D ∧ Dp ua uk j C D ∧ m + totR (D.map Co.R) = totR (C.map Co.R) ∧ Kept (bl p g C) w wr ∧ wr.cell? ⟨Z, 0, none⟩ = some (.int .i64 ua) ∧ wr.cell? ⟨Z, 1, none⟩ = some (.int .i64 uk))) (fun i _ _ => (n - intOf i).toNat)
  case atStart => exact ⟨0, 0, C, rfl, rfl, by omega, HL.out, Dp.refl _ _ _, by omega, HK.out.1.mono (by simp), cellB HB.out, cellB HB.out⟩
  case round =>
    obtain ⟨j, m, D, rfl, rfl, hj, HJ⟩ := hrel
    have HDn : Hid (D.length = n) := HJ.out.2.1.len.trans HN.out
    have c0 := HJ.out.1.box
    rw [HDn.out] at c0
    by_cases hlt : j < n
    · have j0 : (0 : Int) ≤ (j : Int) := by omega
      have j1 : (j : Int) < (n : Int) := by omega
      have hjD : j < D.length := by rw [HDn.out]; exact hlt
      have hjC : j < C.length := by rw [HN.out]; exact hlt
      obtain ⟨q0, q1, q2⟩ := HJ.out.1.cells hjD
      obtain ⟨av, cv, hv, hvc, hvm, -⟩ := (HJ.out.1.each j hjD).slice
      obtain ⟨R, hR⟩ : ∃ R, (D[j]).R = R := ⟨_, rfl⟩
      rw [hv, hR] at q0
      rw [hR] at hvc
      obtain ⟨l, hl⟩ : ∃ l, R.length = l := ⟨_, rfl⟩
      have hl256 : l ≤ 256 := by have := HJ.out.1.len j hjD; rw [hR, hl] at this; exact this
      have HV : Hid ((D[j]).v = .slice av R.length cv ∧ (D[j]).R = R ∧ R.length = l) := ⟨by rw [hv, hR], hR, hl⟩
      have HZD : Hid (Z ∉ bl p g D) := fun hm => HZ.out ((HJ.out.2.1.bl Z).1 hm)
      have HD : Hid (Rr wr H (.slice av l cv) R) := by have := HJ.out.1.each j hjD; rw [hv, hR, hl] at this; exact this
      have HOb : Hid ((Value.slice av l cv).ownBlock ≠ some Z) := fun e => HZD.out (mem_bl.2 (Or.inr (Or.inr ⟨j, hjD, by rw [HV.out.1, HV.out.2.2]; exact e⟩)))
      have P := p_delf HD.out (by rw [hl]; exact hl256) HJ.out.2.2.2.2 HOb.out
      rw [hl] at q0 hvc
      have hcv : cv ≤ 9223372036854775807 := by unfold maxLen at hvm; omega
      clear hv hR hl hvm
      go_wp2_with fail
      refine P.mono ?_
      rintro e w5 ⟨a5, l5, c5, rfl, rr5, k5, ob5⟩
      obtain ⟨R5, hR5⟩ : ∃ R5, R.filter (keepB ua uk) = R5 := ⟨_, rfl⟩
      have hl5 : l5 = R5.length := by
        obtain ⟨a', c', e', -⟩ := rr5.slice
        simp only [Value.slice.injEq] at e'
        rw [← hR5]; exact e'.2.1
      have hlle : l5 ≤ l := by
        rw [hl5, ← hR5, ← HV.out.2.2]; exact List.length_filter_le ..
      rw [hR5] at rr5
      have HK5 : Hid (Kept (D[j]).v.ownBlock.toList wr w5) := by rw [HV.out.1, HV.out.2.2]; exact k5
      have hgo : g ∉ (D[j]).v.ownBlock.toList := fun hm => (HJ.out.1.off j hjD g (by simpa using hm)).2 rfl
      have HA5 : Hid (w5.heap[g]? = some (.cells (coC D).toArray 66 (0, 0))) := (HK5.out.block g (lt_of_heap HJ.out.1.arr) hgo).trans HJ.out.1.arr
      have y0 : w5.cell? ⟨g, j * 3, none⟩ = some (.slice av l cv) := HK5.out.cell q0 hgo
      have f0 := frozen_of HA5.out (j * 3)
      obtain ⟨W6, hW6⟩ : ∃ W6, w5.setCell ⟨g, j * 3, none⟩ (.slice a5 l5 c5) = W6 := ⟨_, rfl⟩
      have k6 : Kept [g] w5 W6 := by rw [← hW6]; exact (Kept.refl _ _).setCell (Or.inl (by simp)) _
      have HP : Hid (_ ∧ _) := HJ.out.1.put hjD ⟨.slice a5 l5 c5, R5, (D[j]).a, (D[j]).k⟩ (w1 := w5) (w2 := W6) HK5.out rr5 (fun x hx => Or.inl (by rw [HV.out.1, HV.out.2.2, ← ob5]; exact hx)) (by show R5.length ≤ 256; omega) (fun r hr => by
        have : r ∈ R := by rw [← hR5] at hr; exact (List.mem_filter.1 hr).1
        exact HJ.out.1.small j hjD r (by rw [HV.out.2.1]; exact this)) k6 (by
        rw [← hW6, block_set HA5.out, coC_set _ _ _ hjD]
        obtain ⟨-, y1, y2⟩ := coC_get D j _ (List.getElem?_eq_getElem hjD)
        dsimp only
        rw [list_set_self ((coC D).set (j * 3) (.slice a5 l5 c5)) (j * 3 + 1) (.int .i64 (D[j]).a) (by rw [List.getElem?_set_ne (by omega)]; exact y1), list_set_self ((coC D).set (j * 3) (.slice a5 l5 c5)) (j * 3 + 2) (.int .i64 (D[j]).k) (by rw [List.getElem?_set_ne (by omega)]; exact y2)]
        simp)
      have HDp : Hid (_) := HJ.out.2.1.step hjC hjD (c := ⟨.slice a5 l5 c5, R5, (D[j]).a, (D[j]).k⟩) (by rw [HV.out.2.1]; exact hR5.symm) rfl rfl (by rw [HV.out.1, HV.out.2.2]; exact ob5)
      have HTo : Hid (totR ((D.set j ⟨.slice a5 l5 c5, R5, (D[j]).a, (D[j]).k⟩).map Co.R) + l = totR (D.map Co.R) + l5) := by
        have := totR_put hjD ⟨.slice a5 l5 c5, R5, (D[j]).a, (D[j]).k⟩
        rw [HV.out.2.1, HV.out.2.2] at this
        show _ = _
        dsimp only at this
        omega
      have HKw : Hid (Kept (bl p g C) w W6) := (HJ.out.2.2.2.1.trans HK5.out (fun x hx => Or.inl ((HJ.out.2.1.bl x).1 (mem_bl.2 (Or.inr (Or.inr ⟨j, hjD, by simpa using hx⟩)))))).trans k6 (fun x hx => Or.inl (by
        have : x = g := by simpa using hx
        exact mem_bl.2 (Or.inr (Or.inl this))))
      have HZ6 : Hid (_) := k2_kept (k2_kept HJ.out.2.2.2.2 HK5.out (fun hm => HZD.out (mem_bl.2 (Or.inr (Or.inr ⟨j, hjD, by simpa using hm⟩))))) k6 (by simp; exact fun e => HZD.out (mem_bl.2 (Or.inr (Or.inl e))))
      have y6 : W6.cell? ⟨g, j * 3, none⟩ = some (.slice a5 l5 c5) := by rw [← hW6]; exact World.cell?_setCell_same' _ _ _ (by rw [y0]; rfl)
      have HW6 : Hid (_) := hW6
      have hl5c : l5 ≤ 256 := by omega
      clear hW6 k6 k5 rr5 ob5 hR5 hgo q1 q2 P hl5 hjC
      go_upto_region 11 with fail
      rw [HW6.out]
      clear HW6 y0 f0 q0
      have hmT : m + totR (D.map Co.R) ≤ 2048 := by have := HJ.out.2.2.1; have := HT.out; omega
      have hsb : ((l : Int) - (l5 : Int)) = ((l - l5 : Nat) : Int) := by omega
      go_wp2_with fail
      go_roundw
      case rel => exact ⟨j + 1, m + (l - l5), _, by go_num, by go_num, by omega, HP.out.1, HDp.out, by have := HTo.out; have := HJ.out.2.2.1; omega, HKw.out, HZ6.out⟩
      case measure => simp [intOf]; omega
    · have hjn : j = n := by omega
      subst hjn
      have j1 : ¬ (j : Int) < (j : Int) := by omega
      go_wp2_with fail
      go_ret
      exact ⟨D, m, rfl, HJ.out.1, HJ.out.2.1, HJ.out.2.2.1, HJ.out.2.2.2.1⟩

end Go.Proofs.Ytlecpeofjabndaa
