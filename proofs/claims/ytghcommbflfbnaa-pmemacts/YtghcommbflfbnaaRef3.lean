/-
  The reference memory: Flush, Fence.
-/
import Derived.Test.YtghcommbflfbnaaRef2
namespace Go.Proofs.Ytghcommbflfbnaa
open Go.RowKit

theorem brow_cell {w : World} {b : Nat} {xs : List Bool} {zs : List Value} (h : w.heap[b]? = some (.cells (brow xs zs) 4 (0, 0))) {i : Nat} (hi : i < xs.length) : w.cell? ⟨b, i, none⟩ = some (.bool (xs.getD i false)) := by
  simp [World.cell?, h, brow, List.getElem?_append, hi]

/-- 'copy' of a line out of the rest of a row into a row, as the walk spells it. -/
theorem run_copy_rest {W : World} {g : Nat} {ys : List Int} {zs : List Value} (hg : W.heap[g]? = some (.cells (row ys zs) 44 (0, 0))) (l n : Nat) (hl : 8 * l + 8 ≤ ys.length) (b : Nat) (src : List Int) (us : List Value) (hb : W.heap[b]? = some (.cells (row src us) 44 (0, 0))) (hn : src.length = n) (hl2 : 8 * l + 8 ≤ n) (c1 c2 : Nat) (ty : TypeId) :
    (Builtin.copy_ #[38, 38] ty #[.slice (some ⟨g, l * 8, none⟩) ((l + 1) * 8 - l * 8) c1, .slice (some ⟨b, l * 8, none⟩) (n - l * 8) c2]).run Try.prog W = .ok (.int .i64 8) (W.setRow g (row (setLine ys l (lineList src l)) zs)) := by
  have hx : (lineList src l).length = 8 := lineList_length (by omega)
  have h := run_copy_row Try.prog W 38 38 ty 44 g (l * 8) ((l + 1) * 8 - l * 8) c1 ⟨b, l * 8, none⟩ (n - l * 8) c2 (row ys zs) 44 ((lineList src l).map (Value.int .u64)) Try.underlying38 size44 hg (by
      have : Nat.min (n - l * 8) ((l + 1) * 8 - l * 8) = 8 := by simp only [Nat.min_def]; split <;> omega
      rw [this]; simp [hx]) (by
    intro j v hv
    have hj : j < 8 := by
      rcases Nat.lt_or_ge j 8 with h1 | h1
      · exact h1
      · rw [List.getElem?_eq_none (by simp [hx]; exact h1)] at hv; cases hv
    have : (⟨b, l * 8, none⟩ : Addr).add j = ⟨b, l * 8 + j, none⟩ := by unfold Addr.add; split <;> simp_all
    rw [this, row_word hb (by omega), ← hv]
    have := wordAt_lineList (xs := src) (l := l) hj
    rw [show l * 8 + j = 8 * l + j from by omega, ← this]
    simp [wordAt, List.getD, hx, hj]) (by simp [size_row, hx]; omega) (row_oneCell _)
  rw [h]
  have e1 : goInt ((lineList src l).map (Value.int .u64)).length = .int .i64 8 := by simp [hx]; rfl
  have e2 : ((row ys zs).toList.take (l * 8) ++ (lineList src l).map (Value.int .u64) ++ (row ys zs).toList.drop (l * 8 + ((lineList src l).map (Value.int .u64)).length)).toArray = row (setLine ys l (lineList src l)) zs := by
    unfold row setLine
    congr 1
    simp only [List.map_append, List.map_take, List.map_drop, List.length_map, hx, List.append_assoc]
    rw [List.take_append_of_le_length (by simp; omega), List.drop_append_of_le_length (by simp; omega), show l * 8 = 8 * l from by omega]
  rw [e1, e2]

/-- A Flush that is OK. -/
def Rf.flush (R : Rf) (l : Nat) : Rf := (if R.canWork then ({ R.worked with way := setLine R.way l (lineList R.seen l), going := R.going.set l true } : Rf) else R.worked).mark

set_option maxHeartbeats 2000000 in
theorem rflush_yes {w : World} {p : Rp} {R : Rf} (h : RefIs w p R) (l : Nat) (hl : 8 * l + 8 ≤ R.seen.length) (hs0 : -1000000000 < R.steps) (hs : R.steps < 1000000000) :
    Calls Try.prog 30 #[.pointer (some ⟨p.b, 0, none⟩), .int .i64 (l : Int)] w fun e w' => e = .returned (.int .i64 0) ∧ ∃ p', RTo w p w' p' ∧ RefIs w' p' (R.flush l) := by
  have c3 : w.cell? ⟨p.b, 3, none⟩ = some (.slice (some ⟨p.bg, 0, none⟩) (R.seen.length / 8) (R.seen.length / 8 + p.zg.length)) := by simpa [Rp.cells] using h.cell 3
  have hi := h.ok.hi
  have i1 : (l : Int) < ((R.seen.length / 8 : Nat) : Int) := by omega
  go_enter Try.func30, Try.ntmps30
  go_wp2_with fail
  refine (works_any h hs0 hs).mono ?_
  rintro e w1 ⟨rfl, hto1, hm1⟩
  cases hcw : R.canWork with
  | false =>
    have hF : R.flush l = R.worked.mark := by simp [Rf.flush, hcw]
    have HX : Hid (_ ∧ _ ∧ _) := ⟨hF, hto1, hm1⟩
    clear hF hto1 hm1 hcw
    go_wp2_with fail
    refine (mark_any HX.out.2.2).mono ?_
    rintro e w4 ⟨rfl, p4, hto4, hm4⟩
    have HY : Hid (_ ∧ _) := ⟨hto4, hm4⟩
    clear hto4 hm4
    go_wp2
    go_ret
    exact ⟨rfl, p4, HX.out.2.1.trans HY.out.1, by rw [HX.out.1]; exact HY.out.2⟩
  | true =>
    have d0 : w1.cell? ⟨p.b, 0, none⟩ = some (.slice (some ⟨p.bs, 0, none⟩) R.seen.length (R.seen.length + p.zs.length)) := by simpa [Rp.cells, Rf.worked] using hm1.cell 0
    have d2 : w1.cell? ⟨p.b, 2, none⟩ = some (.slice (some ⟨p.bw, 0, none⟩) R.seen.length (R.seen.length + p.zw.length)) := by simpa [Rp.cells, Rf.worked] using hm1.cell 2
    have i2 : (0 : Int) ≤ (l : Int) := by omega
    have i3 : 8 * (l : Int) + 8 ≤ (R.seen.length : Int) := by omega
    have hF : R.flush l = ({ R.worked with way := setLine R.way l (lineList R.seen l), going := R.going.set l true } : Rf).mark := by simp [Rf.flush, hcw]
    have hcp := run_copy_rest (W := w1.drew) (g := p.bw) (ys := R.way) (zs := p.zw) hm1.way l R.seen.length (by rw [h.ok.wlen]; exact hl) p.bs R.seen p.zs hm1.seen rfl hl (R.seen.length + p.zw.length - l * 8) (R.seen.length + p.zs.length - l * 8) 3
    have hm2 := (hm1.kept0 (Kept.refl _ _).drew).setWay (setLine R.way l (lineList R.seen l)) (by rw [setLine_length (lineList_length hl) (by rw [h.ok.wlen]; exact hl)]; exact h.ok.wlen)
    have hto2 : RTo w p (w1.drew.setRow p.bw (row (setLine R.way l (lineList R.seen l)) p.zw)) p := hto1.trans ⟨rfl, ((Kept.refl _ _).drew).setRow (by simp [Rp.blocks]) _, fun _ h => Or.inl h⟩
    have hgl : l < R.going.length := by rw [h.ok.glen]; omega
    generalize hW2 : w1.drew.setRow p.bw (row (setLine R.way l (lineList R.seen l)) p.zw) = W2 at hcp hm2 hto2
    have e3 : W2.cell? ⟨p.b, 3, none⟩ = some (.slice (some ⟨p.bg, 0, none⟩) (R.seen.length / 8) (R.seen.length / 8 + p.zg.length)) := by simpa [Rp.cells, Rf.worked] using hm2.cell 3
    have el : W2.cell? ⟨p.bg, l, none⟩ = some (.bool (R.going.getD l false)) := brow_cell hm2.going hgl
    have fl : W2.frozen? ⟨p.bg, l, none⟩ = false := row_frozen hm2.going l
    have hm3 := hm2.setGoing l hgl true
    have hto3 : RTo w p (W2.setCell ⟨p.bg, l, none⟩ (.bool true)) p := hto2.trans ⟨rfl, (Kept.refl _ _).setCell (by simp [Rp.blocks]) _, fun _ h => Or.inl h⟩
    have HX : Hid (_ ∧ _ ∧ _ ∧ _) := ⟨hF, hto3, hm3, hW2⟩
    clear hcw hF hto3 hm3 hto2 hm2 hto1 hm1 hW2 h
    go_wp2
    go_region
    go_wp2_with fail
    refine (mark_any HX.out.2.2.1).mono ?_
    rintro e w4 ⟨rfl, p4, hto4, hm4⟩
    have HY : Hid (_ ∧ _) := ⟨hto4, hm4⟩
    clear hto4 hm4
    go_wp2
    go_ret
    exact ⟨rfl, p4, HX.out.2.1.trans HY.out.1, by rw [HX.out.1]; exact HY.out.2⟩

set_option maxHeartbeats 1000000 in
theorem rflush_no {w : World} {p : Rp} {R : Rf} (h : RefIs w p R) (a : Int) (ha : a < 0 ∨ (R.seen.length : Int) < 8 * a + 8) :
    Calls Try.prog 30 #[.pointer (some ⟨p.b, 0, none⟩), .int .i64 a] w fun e w' => e = .returned (.int .i64 101) ∧ w = w' := by
  have c3 : w.cell? ⟨p.b, 3, none⟩ = some (.slice (some ⟨p.bg, 0, none⟩) (R.seen.length / 8) (R.seen.length / 8 + p.zg.length)) := by simpa [Rp.cells] using h.cell 3
  have hi := h.ok.hi
  have hmul := h.ok.mul
  by_cases hn : a < 0
  · go_enter Try.func30, Try.ntmps30
    go_wp2
    go_ret
    exact ⟨rfl, rfl⟩
  · have hn' : ((R.seen.length / 8 : Nat) : Int) ≤ a := by omega
    go_enter Try.func30, Try.ntmps30
    go_wp2
    go_ret
    exact ⟨rfl, rfl⟩

/-- A Fence's work, the lines ahead of i looked at. -/
def Rf.arr (R : Rf) : Nat → Rf
  | 0 => R
  | i + 1 => if (R.arr i).going.getD i false then { R.arr i with last := setLine (R.arr i).last i (lineList (R.arr i).way i), going := (R.arr i).going.set i false } else R.arr i

theorem arr_seen (R : Rf) : ∀ i, (R.arr i).seen = R.seen
  | 0 => rfl
  | i + 1 => by simp only [Rf.arr]; split <;> exact arr_seen R i

/-- A Fence. -/
def Rf.fence (R : Rf) : Rf := (if R.canWork then R.worked.arr (R.seen.length / 8) else R.worked).mark

set_option maxHeartbeats 4000000 in
theorem rfence_any {w : World} {p : Rp} {R : Rf} (h : RefIs w p R) (hs0 : -1000000000 < R.steps) (hs : R.steps < 1000000000) :
    Calls Try.prog 31 #[.pointer (some ⟨p.b, 0, none⟩)] w fun e w' => e = .returned (.int .i64 0) ∧ ∃ p', RTo w p w' p' ∧ RefIs w' p' R.fence := by
  have hi := h.ok.hi
  go_enter Try.func31, Try.ntmps31
  go_wp2_with fail
  refine (works_any h hs0 hs).mono ?_
  rintro e w1 ⟨rfl, hto1, hm1⟩
  cases hcw : R.canWork with
  | false =>
    have hF : R.fence = R.worked.mark := by simp [Rf.fence, hcw]
    have HX : Hid (_ ∧ _ ∧ _) := ⟨hF, hto1, hm1⟩
    clear hF hto1 hm1 hcw
    go_wp2_with fail
    refine (mark_any HX.out.2.2).mono ?_
    rintro e w4 ⟨rfl, p4, hto4, hm4⟩
    have HY : Hid (_ ∧ _) := ⟨hto4, hm4⟩
    clear hto4 hm4
    go_wp2
    go_ret
    exact ⟨rfl, p4, HX.out.2.1.trans HY.out.1, by rw [HX.out.1]; exact HY.out.2⟩
  | true =>
    have hF : R.fence = (R.worked.arr (R.seen.length / 8)).mark := by simp [Rf.fence, hcw]
    have HF : Hid (_ = _) := hF
    have HM : Hid (RTo w p w1 p ∧ RefIs w1 p (R.worked.arr 0)) := ⟨hto1, hm1⟩
    have hws : R.worked.seen = R.seen := rfl
    have HS : Hid (_ = _) := hws
    clear hF hto1 hm1 hcw hws
    go_wp2_with fail
    go_loopw [3] (fun i wr => ∃ n : Nat, n ≤ R.seen.length / 8 ∧ i = .int .i64 (n : Int) ∧ Hid (RTo w p wr p ∧ RefIs wr p (R.worked.arr n))) (fun i _ => R.seen.length / 8 - (intOf i).toNat)
    case atStart => exact ⟨0, by omega, rfl, HM⟩
    case round =>
      obtain ⟨n, hn, rfl, HR⟩ := hrel
      have hseen := arr_seen R.worked n
      rw [HS.out] at hseen
      have c3 : wr.cell? ⟨p.b, 3, none⟩ = some (.slice (some ⟨p.bg, 0, none⟩) (R.seen.length / 8) (R.seen.length / 8 + p.zg.length)) := by have := HR.out.2.cell 3; simpa [Rp.cells, hseen] using this
      by_cases hlt : n < R.seen.length / 8
      · have i1 : (n : Int) < ((R.seen.length / 8 : Nat) : Int) := by omega
        have i2 : (0 : Int) ≤ (n : Int) := by omega
        have hgl : n < (R.worked.arr n).going.length := by rw [HR.out.2.ok.glen, hseen]; exact hlt
        have cg : wr.cell? ⟨p.bg, n, none⟩ = some (.bool ((R.worked.arr n).going.getD n false)) := brow_cell HR.out.2.going hgl
        cases hg : (R.worked.arr n).going.getD n false with
        | false =>
          rw [hg] at cg
          have hnx : R.worked.arr (n + 1) = R.worked.arr n := by simp only [Rf.arr, hg]; rfl
          have HN : Hid (_ = _) := hnx
          clear hg hnx hseen hgl
          go_wp2
          go_roundw
          case rel => exact ⟨n + 1, by omega, by go_num, by rw [HN.out]; exact HR.out⟩
          case measure => simp [intOf]; omega
        | true =>
          rw [hg] at cg
          have hnx : R.worked.arr (n + 1) = { R.worked.arr n with last := setLine (R.worked.arr n).last n (lineList (R.worked.arr n).way n), going := (R.worked.arr n).going.set n false } := by simp only [Rf.arr, hg]; rfl
          have hmn := HR.out.2
          have hton := HR.out.1
          generalize R.worked.arr n = N at hmn hnx hgl hseen HR
          have c1 : wr.cell? ⟨p.b, 1, none⟩ = some (.slice (some ⟨p.bl, 0, none⟩) R.seen.length (R.seen.length + p.zl.length)) := by have := hmn.cell 1; simpa [Rp.cells, hseen] using this
          have c2 : wr.cell? ⟨p.b, 2, none⟩ = some (.slice (some ⟨p.bw, 0, none⟩) R.seen.length (R.seen.length + p.zw.length)) := by have := hmn.cell 2; simpa [Rp.cells, hseen] using this
          have i3 : 8 * (n : Int) + 8 ≤ (R.seen.length : Int) := by omega
          have hlN : N.last.length = R.seen.length := by rw [hmn.ok.llen, hseen]
          have hwN : N.way.length = R.seen.length := by rw [hmn.ok.wlen, hseen]
          have hcp := run_copy_rest (W := wr.drew) (g := p.bl) (ys := N.last) (zs := p.zl) hmn.last n R.seen.length (by omega) p.bw N.way p.zw hmn.way hwN (by omega) (R.seen.length + p.zl.length - n * 8) (R.seen.length + p.zw.length - n * 8) 3
          have hm2 := (hmn.kept0 (Kept.refl _ _).drew).setLast (setLine N.last n (lineList N.way n)) (by rw [setLine_length (lineList_length (by omega)) (by omega), hseen]; exact hlN)
          have hto2 : RTo w p (wr.drew.setRow p.bl (row (setLine N.last n (lineList N.way n)) p.zl)) p := hton.trans ⟨rfl, ((Kept.refl _ _).drew).setRow (by simp [Rp.blocks]) _, fun _ h => Or.inl h⟩
          generalize hW2 : wr.drew.setRow p.bl (row (setLine N.last n (lineList N.way n)) p.zl) = W2 at hcp hm2 hto2
          have e3 : W2.cell? ⟨p.b, 3, none⟩ = some (.slice (some ⟨p.bg, 0, none⟩) (R.seen.length / 8) (R.seen.length / 8 + p.zg.length)) := by have := hm2.cell 3; simpa [Rp.cells, hseen] using this
          have el : W2.cell? ⟨p.bg, n, none⟩ = some (.bool (N.going.getD n false)) := brow_cell hm2.going hgl
          have fl : W2.frozen? ⟨p.bg, n, none⟩ = false := row_frozen hm2.going n
          have hm3 := hm2.setGoing n hgl false
          have hto3 : RTo w p (W2.setCell ⟨p.bg, n, none⟩ (.bool false)) p := hto2.trans ⟨rfl, (Kept.refl _ _).setCell (by simp [Rp.blocks]) _, fun _ h => Or.inl h⟩
          have HX : Hid (_ ∧ _ ∧ _ ∧ _) := ⟨hnx, hto3, hm3, hW2⟩
          clear hg hnx hto3 hm3 hto2 hm2 hton hmn hW2 hseen HR hlN hwN hgl
          go_wp2
          go_region
          go_wp2
          go_roundw
          case rel => exact ⟨n + 1, by omega, by go_num, by rw [HX.out.1]; exact ⟨HX.out.2.1, HX.out.2.2.1⟩⟩
          case measure => simp [intOf]; omega
      · have hne : n = R.seen.length / 8 := by omega
        have HR2 : Hid (RTo w p wr p ∧ RefIs wr p (R.worked.arr (R.seen.length / 8))) := by rw [← hne]; exact HR.out
        have i1 : ¬ (n : Int) < ((R.seen.length / 8 : Nat) : Int) := by omega
        clear hne HR hseen
        go_wp2_with fail
        refine (mark_any HR2.out.2).mono ?_
        rintro e w4 ⟨rfl, p4, hto4, hm4⟩
        have HY : Hid (_ ∧ _) := ⟨hto4, hm4⟩
        clear hto4 hm4
        go_wp2
        go_ret
        exact ⟨rfl, p4, HR2.out.1.trans HY.out.1, by rw [HF.out]; exact HY.out.2⟩

end Go.Proofs.Ytghcommbflfbnaa
