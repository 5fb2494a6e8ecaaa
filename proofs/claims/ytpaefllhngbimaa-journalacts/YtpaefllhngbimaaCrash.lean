/-
  saveKept; Crash.
-/
import Derived.Test.YtpaefllhngbimaaFence
import Derived.Test.YtpaefllhngbimaaEqual
namespace Go.Proofs.Ytpaefllhngbimaa
set_option maxRecDepth 10000
open Go.RowKit

/-- Bit j of keep. -/
def kbit (keep : Int) (j : Nat) : Bool := bits .and .i64 (keep / 2 ^ j) 1 == 1

/-- What lasts behind a crash, the lines ahead of l looked at; how many of them were unlike. -/
def saveTo (ws ls : List Int) (keep : Int) : Nat → List Int × Nat
  | 0 => (ls, 0)
  | l + 1 =>
    if sameB (lineList ws l) (lineList (saveTo ws ls keep l).1 l) then saveTo ws ls keep l
    else (if kbit keep ((saveTo ws ls keep l).2 % 60) then setLine (saveTo ws ls keep l).1 l (lineList ws l) else (saveTo ws ls keep l).1, (saveTo ws ls keep l).2 + 1)

theorem saveTo_length {ws ls : List Int} {n : Nat} (hw : ws.length = n) (hl : ls.length = n) (keep : Int) : ∀ l, 8 * l ≤ n → (saveTo ws ls keep l).1.length = n
  | 0, _ => hl
  | l + 1, h => by
    have ih := saveTo_length hw hl keep l (by omega)
    simp only [saveTo]
    split
    · exact ih
    · simp only []
      split
      · rw [setLine_length (lineList_length (by omega)) (by omega)]; exact ih
      · exact ih

theorem saveTo_le (ws ls : List Int) (keep : Int) : ∀ l, (saveTo ws ls keep l).2 ≤ l
  | 0 => Nat.le_refl _
  | l + 1 => by
    have ih := saveTo_le ws ls keep l
    simp only [saveTo]
    split
    · omega
    · simp only []; omega

set_option maxHeartbeats 1000000 in
theorem saveKept_any {w : World} {p : Pl} {M : Pm} (h : MemIs w p M) (f cf : Nat) (ws : List Int) (zs : List Value) (hw : w.heap[f]? = some (.cells (row ws zs) 29 (0, 0))) (hlen : ws.length = M.seen.length) (hcf : M.seen.length ≤ cf)
    (hf : f ≠ p.bl) (keep : Int) (_hk : 0 ≤ keep) (_hk2 : keep ≤ 9223372036854775807) :
    Calls Try.prog 41 #[.pointer (some ⟨p.b, 0, none⟩), .slice (some ⟨f, 0, none⟩) M.seen.length cf, .int .i64 keep] w fun e w' => e = .returned (.tuple #[]) ∧ Kept [p.bl] w w' ∧ MemIs w' p { M with lasts := (saveTo ws M.lasts keep (M.seen.length / 8)).1 } := by
  have hi := h.ok.hi
  go_enter Try.func41, Try.ntmps41
  go_wp2_with fail
  refine (lines_any h).mono ?_
  rintro e w' ⟨rfl, hw'⟩
  have hw' := hw'.symm
  subst hw'
  go_wp2_with fail
  go_loopw [6, 12] (fun u i wr => ∃ k : Nat, k ≤ M.seen.length / 8 ∧ i = .int .i64 (k : Int) ∧ u = .int .i64 ((saveTo ws M.lasts keep k).2 : Int) ∧ Hid (Kept [p.bl] w wr ∧ MemIs wr p { M with lasts := (saveTo ws M.lasts keep k).1 })) (fun _ i _ => M.seen.length / 8 - (intOf i).toNat)
  case atStart => exact ⟨0, Nat.zero_le _, rfl, rfl, Kept.refl _ _, h⟩
  case round =>
    obtain ⟨k, hk8, rfl, rfl, HR⟩ := hrel
    by_cases hlt : k < M.seen.length / 8
    · have hu := saveTo_le ws M.lasts keep k
      have hd : (k : Int) < ((M.seen.length / 8 : Nat) : Int) := by omega
      have c1 : wr.cell? ⟨p.b, 1, none⟩ = some (.slice (some ⟨p.bl, 0, none⟩) M.seen.length (M.seen.length + p.zl.length)) := by simpa using HR.out.2.cell 1
      have hwr : wr.heap[f]? = some (.cells (row ws zs) 29 (0, 0)) := by rw [HR.out.1.block f (lt_of_heap hw) (by simp [hf])]; exact hw
      have hcl := saveTo_length hlen h.ok.len keep k (by omega)
      generalize hsv : saveTo ws M.lasts keep k = sv at *
      obtain ⟨cur, u⟩ := sv
      simp only [] at hu HR hcl
      have HW : Hid (_ ∧ _ ∧ _ ∧ _) := ⟨hw, hwr, hsv, h⟩
      clear hw hwr hsv h
      go_wp2_with fail
      go_quiet ((go_at_call 48; exact Calls.quiet_of_same (lineOf_any _ _ _ _ _ (by omega) (by omega) (by omega) (by omega))))
      go_wp2_with fail
      have hcl' : 8 * k + 8 ≤ cur.length := by omega
      refine (equal_any (wr.drewN nq) f (8 * k) _ p.bl (8 * k) _ 8 (lineList ws k) (lineList cur k) (lineList_length (by omega)) (lineList_length hcl') (by omega) (fun j hj => ?_) (fun j hj => ?_)).mono ?_
      · rw [wordAt_lineList hj]; exact row_word (w := wr) HW.out.2.1 (by omega)
      · rw [wordAt_lineList hj]; exact row_word (w := wr) HR.out.2.lasts (by simp only []; omega)
      rintro e w2 ⟨rfl, m, hw2⟩
      subst hw2
      rw [World.drewN_drewN]
      have hK : Kept [] wr (wr.drewN (nq + m)) := (Kept.refl _ _).drewN _
      have hK1 : Kept [p.bl] w (wr.drewN (nq + m)) := HR.out.1.drewN _
      have hm2 := HR.out.2.kept0 hK
      have HZ : Hid (_ ∧ _) := ⟨hK1, hm2⟩
      clear hK hK1 hm2
      cases hsame : sameB (lineList ws k) (lineList cur k) with
      | true =>
        have hnx : saveTo ws M.lasts keep (k + 1) = (cur, u) := by simp only [saveTo, HW.out.2.2.1, hsame, if_true]
        have HN : Hid (_ = _) := hnx
        clear hnx hsame
        go_wp2
        go_roundw
        case rel => exact ⟨k + 1, by omega, by go_num, by rw [HN.out], by rw [HN.out]; exact HZ.out⟩
        case measure => simp [intOf]; omega
      | false =>
        cases hb : kbit keep (u % 60) with
        | true =>
          have hnx : saveTo ws M.lasts keep (k + 1) = (setLine cur k (lineList ws k), u + 1) := by simp [saveTo, HW.out.2.2.1, hsame, hb]
          have hb' : (bits .and .i64 (keep / 2 ^ (u % 60)) 1 == 1) = true := hb
          have hcp := run_copy_line (W := wr.drewN (nq + m)) HZ.out.2.lasts k hcl' (lineList ws k) (lineList_length (by omega)) f (8 * k) (M.seen.length + p.zl.length - 8 * k) (cf - 8 * k) 3 (fun j hj => by
            rw [wordAt_lineList hj]; exact row_word (w := wr) HW.out.2.1 (by omega))
          have HN : Hid (_ = _) := hnx
          clear hnx hsame hb
          go_wp2
          go_roundw
          case rel => exact ⟨k + 1, by omega, by go_num, by rw [HN.out]; go_num, by
            rw [HN.out]
            exact ⟨HZ.out.1.setRow (by simp) _, HZ.out.2.setLasts _ (by rw [setLine_length (lineList_length (by omega)) hcl']; exact hcl)⟩⟩
          case measure => simp [intOf]; omega
        | false =>
          have hnx : saveTo ws M.lasts keep (k + 1) = (cur, u + 1) := by simp [saveTo, HW.out.2.2.1, hsame, hb]
          have hb' : (bits .and .i64 (keep / 2 ^ (u % 60)) 1 == 1) = false := hb
          have HN : Hid (_ = _) := hnx
          clear hnx hsame hb
          go_wp2
          go_roundw
          case rel => exact ⟨k + 1, by omega, by go_num, by rw [HN.out]; go_num, by rw [HN.out]; exact HZ.out⟩
          case measure => simp [intOf]; omega
    · have hke : k = M.seen.length / 8 := by omega
      have hd : ¬ (k : Int) < ((M.seen.length / 8 : Nat) : Int) := by omega
      have HR2 : Hid (Kept [p.bl] w wr ∧ MemIs wr p { M with lasts := (saveTo ws M.lasts keep (M.seen.length / 8)).1 }) := by rw [← hke]; exact HR.out
      clear hke
      go_wp2
      go_end0
      exact ⟨rfl, HR2.out.1, HR2.out.2⟩

/-- 'copy' of a whole row. -/
theorem run_copy_all {W : World} {g b n : Nat} {ys xs : List Int} {zs us : List Value} (hg : W.heap[g]? = some (.cells (row ys zs) 29 (0, 0))) (hb : W.heap[b]? = some (.cells (row xs us) 29 (0, 0))) (hy : ys.length = n) (hx : xs.length = n) (c1 c2 : Nat) (ty : TypeId) :
    (Builtin.copy_ #[52, 52] ty #[.slice (some ⟨g, 0, none⟩) n c1, .slice (some ⟨b, 0, none⟩) n c2]).run Try.prog W = .ok (.int .i64 (n : Int)) (W.setRow g (row xs zs)) := by
  have h := run_copy_row Try.prog W 52 52 ty 29 g 0 n c1 ⟨b, 0, none⟩ n c2 (row ys zs) 29 (xs.map (Value.int .u64)) Try.underlying52 size44 hg (by simp [hx]) (row_news hb) (by simp [size_row, hx, hy]) (row_oneCell xs)
  rw [h]
  have e1 : goInt (xs.map (Value.int .u64)).length = .int .i64 (n : Int) := by simp [hx]; rfl
  have e2 : ((row ys zs).toList.take 0 ++ xs.map (Value.int .u64) ++ (row ys zs).toList.drop (0 + (xs.map (Value.int .u64)).length)).toArray = row xs zs := by
    unfold row
    congr 1
    simp [hx, hy]
  rw [e1, e2]

/-- What lasts behind a Crash. -/
def Pm.saved (M : Pm) (keep : Int) : List Int := (saveTo M.withPower M.lasts (max keep 0) (M.seen.length / 8)).1

def Pm.crash (M : Pm) (keep : Int) : Pm := { M with seen := M.saved keep, lasts := M.saved keep, way := [], fuse := none }

set_option maxHeartbeats 1000000 in
theorem crash_any {w : World} {p : Pl} {M : Pm} (h : MemIs w p M) (keep : Int) (hk : keep ≤ 9223372036854775807) :
    Calls Try.prog 21 #[.pointer (some ⟨p.b, 0, none⟩), .int .i64 keep] w fun e w' => e = .returned (.int .i64 0) ∧ ∃ p', To w p w' p' ∧ MemIs w' p' (M.crash keep) := by
  by_cases hn : keep < 0
  · have hcr : M.crash keep = { M with seen := (saveTo M.withPower M.lasts 0 (M.seen.length / 8)).1, lasts := (saveTo M.withPower M.lasts 0 (M.seen.length / 8)).1, way := [], fuse := none } := by
      simp [Pm.crash, Pm.saved, show max keep 0 = 0 from by omega]
    go_enter Try.func21, Try.ntmps21
    go_wp2_with fail
    refine (seenWithPower_any h).mono ?_
    rintro e w1 ⟨hK1, f, zf, rfl, ⟨ys, hys, hrow⟩, hwl, hfb, hfl, hfm⟩
    have h1 := h.kept0 hK1
    have hrow1 : w1.heap[f]? = some (.cells (row M.withPower ys) 29 (0, 0)) := by rw [hK1.block f (lt_of_heap hrow) (by simp)]; exact hrow
    have HX : Hid (_ ∧ _ ∧ _ ∧ _ ∧ _ ∧ _) := ⟨h, hK1, hrow1, hwl, hfl, hcr⟩
    clear h hK1 hys hrow hrow1 hwl hfb hfl hfm hcr
    go_wp2_with fail
    refine (saveKept_any h1 f _ M.withPower ys HX.out.2.2.1 HX.out.2.2.2.1 (by omega) HX.out.2.2.2.2.1 0 (by omega) (by omega)).mono ?_
    rintro e w2 ⟨rfl, hK2, hm2⟩
    have h8 := h1.ok.mul
    have hln : (saveTo M.withPower M.lasts 0 (M.seen.length / 8)).1.length = M.seen.length := saveTo_length HX.out.2.2.2.1 h1.ok.len 0 _ (by omega)
    generalize (saveTo M.withPower M.lasts 0 (M.seen.length / 8)).1 = ls at *
    have c0 : w2.cell? ⟨p.b, 0, none⟩ = some (.slice (some ⟨p.bs, 0, none⟩) M.seen.length (M.seen.length + p.zs.length)) := by simpa using hm2.cell 0
    have c1 : w2.cell? ⟨p.b, 1, none⟩ = some (.slice (some ⟨p.bl, 0, none⟩) M.seen.length (M.seen.length + p.zl.length)) := by simpa using hm2.cell 1
    have hcp := run_copy_all (W := w2.drew) (n := M.seen.length) hm2.seen hm2.lasts rfl hln (M.seen.length + p.zs.length) (M.seen.length + p.zl.length) 3
    simp only [] at hcp
    have hm3 := (hm2.kept0 (Kept.refl _ _).drew).setSeenRow ls hln
    have hK3 : Kept [p.bl, p.bs] w1 (w2.drew.setRow p.bs (row ls p.zs)) := ((hK2.mono (by simp)).drew).setRow (by simp) _
    generalize hw3 : w2.drew.setRow p.bs (row ls p.zs) = w3 at *
    have d2 : w3.cell? ⟨p.b, 2, none⟩ = some p.mv := by simpa using hm3.cell 2
    have d3 : w3.cell? ⟨p.b, 3, none⟩ = some p.fv := by simpa using hm3.cell 3
    have g2 := hm3.frozen 2
    have g3 := hm3.frozen 3
    have HY : Hid (_ ∧ _ ∧ _ ∧ _) := ⟨hK2, hm3, hK3, hw3⟩
    clear hK2 hm2 hm3 hK3 hln hw3 h1
    go_wp2
    go_region
    go_wp2
    go_ret
    obtain ⟨hK2, hm3, hK3, hw3⟩ := HY.out
    obtain ⟨h, hK1, hrow1, hwl, hfl, hcr⟩ := HX.out
    have hm4 := hm3.setWay (.map none) [] (Or.inl ⟨rfl, rfl⟩) (WayOk.nil _) (nodup_less hm3.apart)
    have hm5 := hm4.setFuse .nilIface none rfl (nodup_lessF rfl hm4.apart)
    refine ⟨rfl, _, ⟨?_, ?_, ?_⟩, by rw [hcr]; exact hm5⟩
    · rfl
    · have hK5 : Kept p.blocks w w3 := (hK1.mono (by simp)).trans hK3 (by simp [Pl.blocks])
      exact (hK5.setCell (by simp [Pl.blocks]) _).setCell (by simp [Pl.blocks]) _
    · intro k hk
      exact Or.inl (by rw [mem_blocks] at hk ⊢; simp [vb] at hk; rcases hk with hk | hk | hk <;> simp [hk])
  · have hn0 : 0 ≤ keep := by omega
    have hcr : M.crash keep = { M with seen := (saveTo M.withPower M.lasts keep (M.seen.length / 8)).1, lasts := (saveTo M.withPower M.lasts keep (M.seen.length / 8)).1, way := [], fuse := none } := by
      simp [Pm.crash, Pm.saved, show max keep 0 = keep from by omega]
    go_enter Try.func21, Try.ntmps21
    go_wp2_with fail
    refine (seenWithPower_any h).mono ?_
    rintro e w1 ⟨hK1, f, zf, rfl, ⟨ys, hys, hrow⟩, hwl, hfb, hfl, hfm⟩
    have h1 := h.kept0 hK1
    have hrow1 : w1.heap[f]? = some (.cells (row M.withPower ys) 29 (0, 0)) := by rw [hK1.block f (lt_of_heap hrow) (by simp)]; exact hrow
    have HX : Hid (_ ∧ _ ∧ _ ∧ _ ∧ _ ∧ _) := ⟨h, hK1, hrow1, hwl, hfl, hcr⟩
    clear h hK1 hys hrow hrow1 hwl hfb hfl hfm hcr
    go_wp2_with fail
    refine (saveKept_any h1 f _ M.withPower ys HX.out.2.2.1 HX.out.2.2.2.1 (by omega) HX.out.2.2.2.2.1 keep (by omega) (by omega)).mono ?_
    rintro e w2 ⟨rfl, hK2, hm2⟩
    have h8 := h1.ok.mul
    have hln : (saveTo M.withPower M.lasts keep (M.seen.length / 8)).1.length = M.seen.length := saveTo_length HX.out.2.2.2.1 h1.ok.len keep _ (by omega)
    generalize (saveTo M.withPower M.lasts keep (M.seen.length / 8)).1 = ls at *
    have c0 : w2.cell? ⟨p.b, 0, none⟩ = some (.slice (some ⟨p.bs, 0, none⟩) M.seen.length (M.seen.length + p.zs.length)) := by simpa using hm2.cell 0
    have c1 : w2.cell? ⟨p.b, 1, none⟩ = some (.slice (some ⟨p.bl, 0, none⟩) M.seen.length (M.seen.length + p.zl.length)) := by simpa using hm2.cell 1
    have hcp := run_copy_all (W := w2.drew) (n := M.seen.length) hm2.seen hm2.lasts rfl hln (M.seen.length + p.zs.length) (M.seen.length + p.zl.length) 3
    simp only [] at hcp
    have hm3 := (hm2.kept0 (Kept.refl _ _).drew).setSeenRow ls hln
    have hK3 : Kept [p.bl, p.bs] w1 (w2.drew.setRow p.bs (row ls p.zs)) := ((hK2.mono (by simp)).drew).setRow (by simp) _
    generalize hw3 : w2.drew.setRow p.bs (row ls p.zs) = w3 at *
    have d2 : w3.cell? ⟨p.b, 2, none⟩ = some p.mv := by simpa using hm3.cell 2
    have d3 : w3.cell? ⟨p.b, 3, none⟩ = some p.fv := by simpa using hm3.cell 3
    have g2 := hm3.frozen 2
    have g3 := hm3.frozen 3
    have HY : Hid (_ ∧ _ ∧ _ ∧ _) := ⟨hK2, hm3, hK3, hw3⟩
    clear hK2 hm2 hm3 hK3 hln hw3 h1
    go_wp2
    go_region
    go_wp2
    go_ret
    obtain ⟨hK2, hm3, hK3, hw3⟩ := HY.out
    obtain ⟨h, hK1, hrow1, hwl, hfl, hcr⟩ := HX.out
    have hm4 := hm3.setWay (.map none) [] (Or.inl ⟨rfl, rfl⟩) (WayOk.nil _) (nodup_less hm3.apart)
    have hm5 := hm4.setFuse .nilIface none rfl (nodup_lessF rfl hm4.apart)
    refine ⟨rfl, _, ⟨?_, ?_, ?_⟩, by rw [hcr]; exact hm5⟩
    · rfl
    · have hK5 : Kept p.blocks w w3 := (hK1.mono (by simp)).trans hK3 (by simp [Pl.blocks])
      exact (hK5.setCell (by simp [Pl.blocks]) _).setCell (by simp [Pl.blocks]) _
    · intro k hk
      exact Or.inl (by rw [mem_blocks] at hk ⊢; simp [vb] at hk; rcases hk with hk | hk | hk <;> simp [hk])

end Go.Proofs.Ytpaefllhngbimaa
