/-
  The reference memory: Crash, walked.
-/
import Derived.Test.YtghcommbflfbnaaRef4
import Derived.Test.YtghcommbflfbnaaSaved
namespace Go.Proofs.Ytghcommbflfbnaa
open Go.RowKit

theorem saveTo_succ {ws ls : List Int} {keep : Int} {l : Nat} {cur : List Int} {u : Nat} (h : saveTo ws ls keep l = (cur, u)) :
    saveTo ws ls keep (l + 1) = if sameB (lineList ws l) (lineList cur l) then (cur, u) else (if kbit keep (u % 60) then setLine cur l (lineList ws l) else cur, u + 1) := by
  simp only [saveTo, h]

theorem rcrash_fin {w4 w5 : World} {p : Rp} {R : Rf} {ls : List Int} {g : Nat} {ys : List Value} (hm4 : RefIs w4 p { R with last := ls }) (hm : RefIs w5 p { R with last := ls }) (hg : w4.heap.size ≤ g) (hcl : ls.length = R.seen.length) (hrow : w5.heap[g]? = some (.cells (row ls ys) 44 (0, 0))) :
    ∃ p' : Rp, p'.b = p.b ∧ (∀ k ∈ p'.blocks, k ∈ p.blocks ∨ w4.heap.size ≤ k) ∧ RefIs (((((w5.setCell ⟨p.b, 0, none⟩ (.slice (some ⟨g, 0, none⟩) R.seen.length (R.seen.length + ys.length))).setCell ⟨p.b, 3, none⟩ (.slice (some ⟨w5.heap.size, 0, none⟩) (R.seen.length / 8) (R.seen.length / 8))).setCell ⟨p.b, 4, none⟩ (.bool false)).setCell ⟨p.b, 6, none⟩ (.slice none 0 0)).alloc (.cells (brow (List.replicate (R.seen.length / 8) false) []) 4)) p'
      { R with seen := ls, last := ls, going := List.replicate (R.seen.length / 8) false, fuse := false, thn := none } := by
  have hlt := lt_of_heap hm.main
  have hglt := lt_of_heap hrow
  have hA := hm.newSeen ls hcl g ys hrow (rnodup_seen hm4 hg)
  have hB := (hA.kept0 ((Kept.refl _ _).alloc (.cells (brow (List.replicate (R.seen.length / 8) false) []) 4))).newGoing (List.replicate (R.seen.length / 8) false) (by simp [hcl]) w5.heap.size (by
    have := Go.heap_alloc_new (w5.setCell ⟨p.b, 0, none⟩ (.slice (some ⟨g, 0, none⟩) R.seen.length (R.seen.length + ys.length))) (.cells (brow (List.replicate (R.seen.length / 8) false) []) 4)
    rw [World.size_setCell] at this
    exact this) (rnodup_going hA (by rw [World.size_setCell]; exact Nat.le_refl _))
  have hC := hB.setField (R' := { R with seen := ls, last := ls, going := List.replicate (R.seen.length / 8) false, fuse := false }) 4 (.bool false) (by simp [Rp.cells]) ⟨hB.ok.llen, hB.ok.wlen, hB.ok.glen, hB.ok.mul, hB.ok.lo, hB.ok.hi, hB.ok.left⟩ rfl rfl rfl rfl rfl
  have hD := hC.setThen (.slice none 0 0) none rfl (rnodup_nil hC)
  have e0 : ∀ v, p.b < (w5.setCell ⟨p.b, 0, none⟩ v).heap.size := fun v => by rw [World.size_setCell]; exact hlt
  rw [show ls.length / 8 = R.seen.length / 8 from by rw [hcl]] at hD
  dsimp only at hD
  rw [World.setCell_alloc_past _ _ _ _ (by simpa using hlt), World.setCell_alloc_past _ _ _ _ (by simpa using hlt), World.setCell_alloc_past _ _ _ _ (by simpa using hlt)] at hD
  refine ⟨_, ?_, ?_, hD⟩
  · rfl
  · intro k hk
    rw [mem_rblocks] at hk ⊢
    have s4 := hm4.blocks_lt p.b (by simp [Rp.blocks])
    simp only [sb, List.not_mem_nil, or_false] at hk
    have hsz : w4.heap.size ≤ w5.heap.size := by omega
    omega

set_option maxRecDepth 100000 in
set_option maxHeartbeats 8000000 in
theorem rcrash_none {w : World} {p : Rp} {R : Rf} (h : RefIs w p R) (keep : Int) (hkm : -9223372036854775808 ≤ keep ∧ keep ≤ 9223372036854775807) (hT : R.thn = none) :
    Calls Try.prog 20 #[.pointer (some ⟨p.b, 0, none⟩), .int .i64 keep] w fun e w' => e = .returned (.int .i64 0) ∧ ∃ p', RTo w p w' p' ∧ RefIs w' p' (R.crash keep) := by
  have c0 : w.cell? ⟨p.b, 0, none⟩ = some (.slice (some ⟨p.bs, 0, none⟩) R.seen.length (R.seen.length + p.zs.length)) := by simpa [Rp.cells] using h.cell 0
  have hi := h.ok.hi
  have hne := fun (w : World) => run_neq_slice_nil_any (P := Try.prog) w
  have ht := h.thn
  rw [hT] at ht
  simp only [ThenIs] at ht
  have c6 : w.cell? ⟨p.b, 6, none⟩ = some (.slice none 0 0) := by rw [← ht]; simpa [Rp.cells] using h.cell 6
  have hwt : R.withThen = R.seen := by simp [Rf.withThen, hT]
  have hrow : w.heap[p.bs]? = some (.cells (row R.withThen p.zs) 44 (0, 0)) := by rw [hwt]; exact h.seen
  have hwl : R.withThen.length = R.seen.length := by rw [hwt]
  have hfl : p.bs ≠ p.bl := h.ne.2.1.1.symm
  have hcr : R.crash keep = { R with seen := (saveTo R.withThen R.last (max keep 0) (R.seen.length / 8)).1, last := (saveTo R.withThen R.last (max keep 0) (R.seen.length / 8)).1, going := List.replicate (R.seen.length / 8) false, fuse := false, thn := none } := rfl
  go_enter Try.func20, Try.ntmps20
  have HX : Hid (_ ∧ _ ∧ _ ∧ _ ∧ _) := ⟨h, hrow, hwl, hfl, hcr⟩
  clear h hrow hwl hfl hcr hT ht hwt
  go_wp2_with fail
  go_loopw [6, 7] (fun u i wr => ∃ n : Nat, n ≤ R.seen.length / 8 ∧ i = .int .i64 (n : Int) ∧ u = .int .i64 ((saveTo R.withThen R.last (max keep 0) n).2 : Int) ∧ Hid (RTo w p wr p ∧ Kept [p.bl] w wr ∧ RefIs wr p { R with last := (saveTo R.withThen R.last (max keep 0) n).1 })) (fun _ i _ => R.seen.length / 8 - (intOf i).toNat)
  case atStart => exact ⟨0, Nat.zero_le _, rfl, rfl, RTo.refl _ _, Kept.refl _ _, HX.out.1⟩
  case round =>
    obtain ⟨n, hn, rfl, rfl, HR⟩ := hrel
    have c3 : wr.cell? ⟨p.b, 3, none⟩ = some (.slice (some ⟨p.bg, 0, none⟩) (R.seen.length / 8) (R.seen.length / 8 + p.zg.length)) := by simpa [Rp.cells] using HR.out.2.2.cell 3
    have hu := saveTo_le R.withThen R.last (max keep 0) n
    by_cases hlt : n < R.seen.length / 8
    · have hcl := saveTo_length HX.out.2.2.1 HX.out.1.ok.llen (max keep 0) n (by omega)
      have i1 : (n : Int) < ((R.seen.length / 8 : Nat) : Int) := by omega
      have hwr : wr.heap[p.bs]? = some (.cells (row R.withThen p.zs) 44 (0, 0)) := by rw [HR.out.2.1.block p.bs (lt_of_heap HX.out.2.1) (by simp [HX.out.2.2.2.1])]; exact HX.out.2.1
      generalize hsv : saveTo R.withThen R.last (max keep 0) n = sv at *
      obtain ⟨cur, u⟩ := sv
      simp only [] at hu HR hcl
      have hwl := HX.out.2.2.1
      have c1 : wr.cell? ⟨p.b, 1, none⟩ = some (.slice (some ⟨p.bl, 0, none⟩) R.seen.length (R.seen.length + p.zl.length)) := by simpa [Rp.cells] using HR.out.2.2.cell 1
      have HG : Hid ((∀ j, j < 8 → wr.cell? ⟨p.bs, 8 * n + j, none⟩ = some (.int .u64 (wordAt R.withThen (8 * n + j)))) ∧ (∀ j, j < 8 → wr.cell? ⟨p.bl, 8 * n + j, none⟩ = some (.int .u64 (wordAt cur (8 * n + j))))) :=
        ⟨fun j hj => row_word hwr (by omega), fun j hj => row_word (xs := cur) HR.out.2.2.last (by omega)⟩
      have HW : Hid (_ ∧ _) := ⟨hwr, hsv⟩
      clear hwr hsv
      go_wp2_with fail
      go_loopw [8, 9] (fun s i wq => ∃ j : Nat, j ≤ 8 ∧ i = .int .i64 ((8 * n + j : Nat) : Int) ∧ s = .bool (smB R.withThen cur n j) ∧ ∃ q, wq = wr.drewN q) (fun _ i _ => 8 * n + 8 - (intOf i).toNat)
      case atStart => exact ⟨0, by omega, by go_num, by rw [smB_zero], 0, rfl⟩
      case round =>
        obtain ⟨j, hj, rfl, rfl, q, hq⟩ := hrel
        subst hq
        by_cases hlt2 : j < 8
        · have g1 := HG.out.1 j hlt2
          have g2 := HG.out.2 j hlt2
          have i2 : (0 : Int) ≤ ((8 * n + j : Nat) : Int) := by omega
          have i3 : ((8 * n + j : Nat) : Int) < (R.seen.length : Int) := by omega
          have i4 : ((8 * n + j : Nat) : Int) < ((n : Int) + 1) * 8 := by omega
          have hsc := smB_succ (ws := R.withThen) (ls := cur) (i := n) (j := j) (by omega) (by omega) hlt2
          cases hsm : smB R.withThen cur n j with
          | true =>
            rw [hsm, Bool.true_and] at hsc
            have HSC : Hid (_ = _) := hsc
            clear hsc hsm
            go_wp2
            go_quiet (fail)
            go_wp2
            go_roundw
            case rel => exact ⟨j + 1, by omega, by go_num, by rw [HSC.out], _, by first | rfl | exact World.drewN_drewN _ _ _⟩
            case measure => simp [intOf]; omega
          | false =>
            rw [hsm, Bool.false_and] at hsc
            have HSC : Hid (_ = _) := hsc
            clear hsc hsm
            go_wp2
            go_quiet (fail)
            go_wp2
            go_roundw
            case rel => exact ⟨j + 1, by omega, by go_num, by rw [HSC.out], _, by first | rfl | exact World.drewN_drewN _ _ _⟩
            case measure => simp [intOf]; omega
        · have hj8 : j = 8 := by omega
          subst hj8
          have hall := smB_all (ws := R.withThen) (ls := cur) (i := n) (by omega) (by omega)
          have i4 : ¬ ((8 * n + 8 : Nat) : Int) < ((n : Int) + 1) * 8 := by omega
          have hZ : Hid (RTo w p (wr.drewN q) p ∧ Kept [p.bl] w (wr.drewN q) ∧ RefIs (wr.drewN q) p { R with last := cur }) := ⟨HR.out.1.trans (RTo.still ((Kept.refl _ _).drewN _)), HR.out.2.1.drewN _, HR.out.2.2.kept0 ((Kept.refl _ _).drewN _)⟩
          cases hsm : smB R.withThen cur n 8 with
          | true =>
            have hnx : saveTo R.withThen R.last (max keep 0) (n + 1) = (cur, u) := by rw [saveTo_succ HW.out.2, ← hall, hsm]; rfl
            have HN : Hid (_ = _) := hnx
            clear hnx hsm hall
            go_wp2
            go_roundw
            case rel => exact ⟨n + 1, by omega, by go_num, by rw [HN.out], by rw [HN.out]; exact hZ.out⟩
            case measure => simp [intOf]; omega
          | false =>
            have hsame : sameB (lineList R.withThen n) (lineList cur n) = false := by rw [← hall]; exact hsm
            by_cases hk0 : 0 ≤ keep
            · cases hb : kbit keep (u % 60) with
              | true =>
                have hnx : saveTo R.withThen R.last (max keep 0) (n + 1) = (setLine cur n (lineList R.withThen n), u + 1) := by rw [saveTo_succ HW.out.2, hsame, show max keep 0 = keep from by omega, hb]; rfl
                have hb' : (bits .and .i64 (keep / 2 ^ (u % 60)) 1 == 1) = true := hb
                have hcp := run_copy_rest (W := wr.drewN (q + 1)) (g := p.bl) (ys := cur) (zs := p.zl) HR.out.2.2.last n R.seen.length (by omega) p.bs R.withThen p.zs HW.out.1 hwl (by omega) (R.seen.length + p.zl.length - n * 8) ((R.seen.length + p.zs.length) - n * 8) 3
                have HN : Hid (_ = _) := hnx
                clear hnx hsm hall hsame hb
                go_wp2
                go_region
                go_wp2
                go_roundw
                case rel => exact ⟨n + 1, by omega, by go_num, by rw [HN.out]; go_num, by
                  rw [HN.out]
                  have hm5 := (HR.out.2.2.kept0 ((Kept.refl _ _).drewN (q + 1))).setLast (setLine cur n (lineList R.withThen n)) (by rw [setLine_length (lineList_length (by omega)) (by omega)]; exact hcl)
                  exact ⟨HR.out.1.trans ⟨rfl, ((Kept.refl _ _).drewN _).setRow (by simp [Rp.blocks]) _, fun _ h => Or.inl h⟩, (HR.out.2.1.drewN _).setRow (by simp) _, hm5⟩⟩
                case measure => simp [intOf]; omega
              | false =>
                have hnx : saveTo R.withThen R.last (max keep 0) (n + 1) = (cur, u + 1) := by rw [saveTo_succ HW.out.2, hsame, show max keep 0 = keep from by omega, hb]; rfl
                have hb' : (bits .and .i64 (keep / 2 ^ (u % 60)) 1 == 1) = false := hb
                have HN : Hid (_ = _) := hnx
                clear hnx hsm hall hsame hb
                go_wp2
                go_roundw
                case rel => exact ⟨n + 1, by omega, by go_num, by rw [HN.out]; go_num, by rw [HN.out]; exact hZ.out⟩
                case measure => simp [intOf]; omega
            · have hnx : saveTo R.withThen R.last (max keep 0) (n + 1) = (cur, u + 1) := by rw [saveTo_succ HW.out.2, hsame, show max keep 0 = 0 from by omega, kbit_zero]; rfl
              have HN : Hid (_ = _) := hnx
              clear hnx hsm hall hsame
              go_wp2
              go_roundw
              case rel => exact ⟨n + 1, by omega, by go_num, by rw [HN.out]; go_num, by rw [HN.out]; exact hZ.out⟩
              case measure => simp [intOf]; omega
    · have hne2 : n = R.seen.length / 8 := by omega
      have h8 := HX.out.1.ok.mul
      have hcl := saveTo_length HX.out.2.2.1 HX.out.1.ok.llen (max keep 0) (R.seen.length / 8) (by omega)
      rw [hne2] at HR
      have i1 : ¬ (n : Int) < ((R.seen.length / 8 : Nat) : Int) := by omega
      have hcr := HX.out.2.2.2.2
      generalize (saveTo R.withThen R.last (max keep 0) (R.seen.length / 8)).1 = ls at HR hcl hcr
      have HC : Hid (_ = _) := hcr
      clear hne2 hcr
      have hlt1 := lt_of_heap HR.out.2.2.main
      have c1 : wr.cell? ⟨p.b, 1, none⟩ = some (.slice (some ⟨p.bl, 0, none⟩) R.seen.length (R.seen.length + p.zl.length)) := by simpa [Rp.cells] using HR.out.2.2.cell 1
      have hbl := lt_of_heap HR.out.2.2.last
      have hk : (wr.alloc (.cells #[] 44)).heap[p.bl]? = some (.cells (row ls p.zl) 44 (0, 0)) := by rw [Below.heap_alloc _ _ _ hbl]; exact HR.out.2.2.last
      have hnews := row_news hk
      have hone := row_oneCell ls
      have hb0 := build0
      have hlen : (ls.map (Value.int .u64)).length = R.seen.length * 1 := by simp [hcl]
      obtain ⟨i0, hi0, hz0, hz1, hz2⟩ := info_parts info44
      have hown : (wr.alloc (.cells #[] 44)).ownsRow wr.heap.size 44 1 (.slice (some ⟨wr.heap.size, 0, none⟩) 0 0) 0 [] := World.ownsRow_made wr #[] 0 (Nat.le_refl _) (by unfold maxLen; omega) (by simp)
      have hlo := HX.out.1.ok.lo
      have HCL : Hid (_ = _) := hcl
      clear hk hcl
      go_wp2_with (first
        | (at_builtin; refine wpList_append_lies _ rfl _ _ 38 rfl wr.heap.size 44 i0 (.int .u64 0) 1 8 Try.underlying38 hi0 hz0 hz1 hz2 rfl (by omega) _ 0 [] rfl hown ⟨p.bl, 0, none⟩ R.seen.length (R.seen.length + p.zl.length) (ls.map (Value.int .u64)) rfl hlen hnews hone ?hpos ?h63 ?hby (by simp) (wr.heap.size + 1) (by simp) ?_))
      case hpos => omega
      case h63 => unfold maxLen; omega
      case hby => omega
      intro g cap w5 hown1 hgrow hat hltg
      obtain ⟨hg, hK, ys, hcap, hrow⟩ := appended_row (Nat.le_succ _) hown1 hgrow hat
      have hm := HR.out.2.2.kept0 hK
      have d0 : w5.cell? ⟨p.b, 0, none⟩ = some (.slice (some ⟨p.bs, 0, none⟩) R.seen.length (R.seen.length + p.zs.length)) := by simpa [Rp.cells] using hm.cell 0
      have d3 : w5.cell? ⟨p.b, 3, none⟩ = some (.slice (some ⟨p.bg, 0, none⟩) (R.seen.length / 8) (R.seen.length / 8 + p.zg.length)) := by simpa [Rp.cells] using hm.cell 3
      have d4 : w5.cell? ⟨p.b, 4, none⟩ = some (.bool R.fuse) := by simpa [Rp.cells] using hm.cell 4
      have d6 : w5.cell? ⟨p.b, 6, none⟩ = some p.tv := by simpa [Rp.cells] using hm.cell 6
      have f0 := hm.frozen 0
      have f3 := hm.frozen 3
      have f4 := hm.frozen 4
      have f6 := hm.frozen 6
      have hlt5 := lt_of_heap hm.main
      have hmb : ∀ w, (Instr.makeSlice 39 (.int .i64 ((R.seen.length : Int) / 8)) (.int .i64 ((R.seen.length : Int) / 8))).run Try.prog w = .ok (.slice (some ⟨w.heap.size, 0, none⟩) (R.seen.length / 8) (R.seen.length / 8)) (w.alloc (.cells (brow (List.replicate (R.seen.length / 8) false) []) 4)) := fun w => by
        have := make_brow (R.seen.length / 8) (by omega) w
        rw [show ((R.seen.length / 8 : Nat) : Int) = (R.seen.length : Int) / 8 from by omega] at this
        exact this
      have HY : Hid (_ ∧ _ ∧ _ ∧ _ ∧ _) := ⟨hg, hK, hcap, hrow, hm⟩
      clear hg hK hcap hrow hm hown1 hgrow hat hltg hown hnews hone c1 c3
      go_wp2
      go_ret
      obtain ⟨hg, hK, hcap, hrow, hm⟩ := HY.out
      subst hcap
      obtain ⟨p', h1, h2, h3⟩ := rcrash_fin HR.out.2.2 hm hg HCL.out hrow
      refine ⟨rfl, p', HR.out.1.trans ⟨h1, ?_, h2⟩, by rw [HC.out]; exact h3⟩
      exact (((((hK.mono (by simp)).setCell (by simp [Rp.blocks]) _).setCell (by simp [Rp.blocks]) _).setCell (by simp [Rp.blocks]) _).setCell (by simp [Rp.blocks]) _).alloc _

set_option maxRecDepth 100000 in
set_option maxHeartbeats 8000000 in
theorem rcrash_some {w : World} {p : Rp} {R : Rf} (h : RefIs w p R) (keep : Int) (hkm : -9223372036854775808 ≤ keep ∧ keep ≤ 9223372036854775807) (xs : List Int) (hT : R.thn = some xs) :
    Calls Try.prog 20 #[.pointer (some ⟨p.b, 0, none⟩), .int .i64 keep] w fun e w' => e = .returned (.int .i64 0) ∧ ∃ p', RTo w p w' p' ∧ RefIs w' p' (R.crash keep) := by
  have c0 : w.cell? ⟨p.b, 0, none⟩ = some (.slice (some ⟨p.bs, 0, none⟩) R.seen.length (R.seen.length + p.zs.length)) := by simpa [Rp.cells] using h.cell 0
  have hi := h.ok.hi
  have hne := fun (w : World) => run_neq_slice_nil_any (P := Try.prog) w
  have ht := h.thn
  rw [hT] at ht
  obtain ⟨f, zf, htv, hrow0, hxl⟩ := ht
  have c6 : w.cell? ⟨p.b, 6, none⟩ = some (.slice (some ⟨f, 0, none⟩) R.seen.length (R.seen.length + zf.length)) := by rw [← hxl, ← htv]; simpa [Rp.cells] using h.cell 6
  have hwt : R.withThen = xs := by simp [Rf.withThen, hT]
  have hrow : w.heap[f]? = some (.cells (row R.withThen zf) 44 (0, 0)) := by rw [hwt]; exact hrow0
  have hwl : R.withThen.length = R.seen.length := by rw [hwt]; exact hxl
  have hfl : f ≠ p.bl := fun e => h.ne.2.2.1.2.2 (by rw [htv, e]; simp [sb])
  have hcr : R.crash keep = { R with seen := (saveTo R.withThen R.last (max keep 0) (R.seen.length / 8)).1, last := (saveTo R.withThen R.last (max keep 0) (R.seen.length / 8)).1, going := List.replicate (R.seen.length / 8) false, fuse := false, thn := none } := rfl
  clear htv hrow0 hxl
  go_enter Try.func20, Try.ntmps20
  have HX : Hid (_ ∧ _ ∧ _ ∧ _ ∧ _) := ⟨h, hrow, hwl, hfl, hcr⟩
  clear h hrow hwl hfl hcr hT hwt
  go_wp2_with fail
  go_loopw [6, 7] (fun u i wr => ∃ n : Nat, n ≤ R.seen.length / 8 ∧ i = .int .i64 (n : Int) ∧ u = .int .i64 ((saveTo R.withThen R.last (max keep 0) n).2 : Int) ∧ Hid (RTo w p wr p ∧ Kept [p.bl] w wr ∧ RefIs wr p { R with last := (saveTo R.withThen R.last (max keep 0) n).1 })) (fun _ i _ => R.seen.length / 8 - (intOf i).toNat)
  case atStart => exact ⟨0, Nat.zero_le _, rfl, rfl, RTo.refl _ _, Kept.refl _ _, HX.out.1⟩
  case round =>
    obtain ⟨n, hn, rfl, rfl, HR⟩ := hrel
    have c3 : wr.cell? ⟨p.b, 3, none⟩ = some (.slice (some ⟨p.bg, 0, none⟩) (R.seen.length / 8) (R.seen.length / 8 + p.zg.length)) := by simpa [Rp.cells] using HR.out.2.2.cell 3
    have hu := saveTo_le R.withThen R.last (max keep 0) n
    by_cases hlt : n < R.seen.length / 8
    · have hcl := saveTo_length HX.out.2.2.1 HX.out.1.ok.llen (max keep 0) n (by omega)
      have i1 : (n : Int) < ((R.seen.length / 8 : Nat) : Int) := by omega
      have hwr : wr.heap[f]? = some (.cells (row R.withThen zf) 44 (0, 0)) := by rw [HR.out.2.1.block f (lt_of_heap HX.out.2.1) (by simp [HX.out.2.2.2.1])]; exact HX.out.2.1
      generalize hsv : saveTo R.withThen R.last (max keep 0) n = sv at *
      obtain ⟨cur, u⟩ := sv
      simp only [] at hu HR hcl
      have hwl := HX.out.2.2.1
      have c1 : wr.cell? ⟨p.b, 1, none⟩ = some (.slice (some ⟨p.bl, 0, none⟩) R.seen.length (R.seen.length + p.zl.length)) := by simpa [Rp.cells] using HR.out.2.2.cell 1
      have HG : Hid ((∀ j, j < 8 → wr.cell? ⟨f, 8 * n + j, none⟩ = some (.int .u64 (wordAt R.withThen (8 * n + j)))) ∧ (∀ j, j < 8 → wr.cell? ⟨p.bl, 8 * n + j, none⟩ = some (.int .u64 (wordAt cur (8 * n + j))))) :=
        ⟨fun j hj => row_word hwr (by omega), fun j hj => row_word (xs := cur) HR.out.2.2.last (by omega)⟩
      have HW : Hid (_ ∧ _) := ⟨hwr, hsv⟩
      clear hwr hsv
      go_wp2_with fail
      go_loopw [8, 9] (fun s i wq => ∃ j : Nat, j ≤ 8 ∧ i = .int .i64 ((8 * n + j : Nat) : Int) ∧ s = .bool (smB R.withThen cur n j) ∧ ∃ q, wq = wr.drewN q) (fun _ i _ => 8 * n + 8 - (intOf i).toNat)
      case atStart => exact ⟨0, by omega, by go_num, by rw [smB_zero], 0, rfl⟩
      case round =>
        obtain ⟨j, hj, rfl, rfl, q, hq⟩ := hrel
        subst hq
        by_cases hlt2 : j < 8
        · have g1 := HG.out.1 j hlt2
          have g2 := HG.out.2 j hlt2
          have i2 : (0 : Int) ≤ ((8 * n + j : Nat) : Int) := by omega
          have i3 : ((8 * n + j : Nat) : Int) < (R.seen.length : Int) := by omega
          have i4 : ((8 * n + j : Nat) : Int) < ((n : Int) + 1) * 8 := by omega
          have hsc := smB_succ (ws := R.withThen) (ls := cur) (i := n) (j := j) (by omega) (by omega) hlt2
          cases hsm : smB R.withThen cur n j with
          | true =>
            rw [hsm, Bool.true_and] at hsc
            have HSC : Hid (_ = _) := hsc
            clear hsc hsm
            go_wp2
            go_quiet (fail)
            go_wp2
            go_roundw
            case rel => exact ⟨j + 1, by omega, by go_num, by rw [HSC.out], _, by first | rfl | exact World.drewN_drewN _ _ _⟩
            case measure => simp [intOf]; omega
          | false =>
            rw [hsm, Bool.false_and] at hsc
            have HSC : Hid (_ = _) := hsc
            clear hsc hsm
            go_wp2
            go_quiet (fail)
            go_wp2
            go_roundw
            case rel => exact ⟨j + 1, by omega, by go_num, by rw [HSC.out], _, by first | rfl | exact World.drewN_drewN _ _ _⟩
            case measure => simp [intOf]; omega
        · have hj8 : j = 8 := by omega
          subst hj8
          have hall := smB_all (ws := R.withThen) (ls := cur) (i := n) (by omega) (by omega)
          have i4 : ¬ ((8 * n + 8 : Nat) : Int) < ((n : Int) + 1) * 8 := by omega
          have hZ : Hid (RTo w p (wr.drewN q) p ∧ Kept [p.bl] w (wr.drewN q) ∧ RefIs (wr.drewN q) p { R with last := cur }) := ⟨HR.out.1.trans (RTo.still ((Kept.refl _ _).drewN _)), HR.out.2.1.drewN _, HR.out.2.2.kept0 ((Kept.refl _ _).drewN _)⟩
          cases hsm : smB R.withThen cur n 8 with
          | true =>
            have hnx : saveTo R.withThen R.last (max keep 0) (n + 1) = (cur, u) := by rw [saveTo_succ HW.out.2, ← hall, hsm]; rfl
            have HN : Hid (_ = _) := hnx
            clear hnx hsm hall
            go_wp2
            go_roundw
            case rel => exact ⟨n + 1, by omega, by go_num, by rw [HN.out], by rw [HN.out]; exact hZ.out⟩
            case measure => simp [intOf]; omega
          | false =>
            have hsame : sameB (lineList R.withThen n) (lineList cur n) = false := by rw [← hall]; exact hsm
            by_cases hk0 : 0 ≤ keep
            · cases hb : kbit keep (u % 60) with
              | true =>
                have hnx : saveTo R.withThen R.last (max keep 0) (n + 1) = (setLine cur n (lineList R.withThen n), u + 1) := by rw [saveTo_succ HW.out.2, hsame, show max keep 0 = keep from by omega, hb]; rfl
                have hb' : (bits .and .i64 (keep / 2 ^ (u % 60)) 1 == 1) = true := hb
                have hcp := run_copy_rest (W := wr.drewN (q + 1)) (g := p.bl) (ys := cur) (zs := p.zl) HR.out.2.2.last n R.seen.length (by omega) f R.withThen zf HW.out.1 hwl (by omega) (R.seen.length + p.zl.length - n * 8) ((R.seen.length + zf.length) - n * 8) 3
                have HN : Hid (_ = _) := hnx
                clear hnx hsm hall hsame hb
                go_wp2
                go_region
                go_wp2
                go_roundw
                case rel => exact ⟨n + 1, by omega, by go_num, by rw [HN.out]; go_num, by
                  rw [HN.out]
                  have hm5 := (HR.out.2.2.kept0 ((Kept.refl _ _).drewN (q + 1))).setLast (setLine cur n (lineList R.withThen n)) (by rw [setLine_length (lineList_length (by omega)) (by omega)]; exact hcl)
                  exact ⟨HR.out.1.trans ⟨rfl, ((Kept.refl _ _).drewN _).setRow (by simp [Rp.blocks]) _, fun _ h => Or.inl h⟩, (HR.out.2.1.drewN _).setRow (by simp) _, hm5⟩⟩
                case measure => simp [intOf]; omega
              | false =>
                have hnx : saveTo R.withThen R.last (max keep 0) (n + 1) = (cur, u + 1) := by rw [saveTo_succ HW.out.2, hsame, show max keep 0 = keep from by omega, hb]; rfl
                have hb' : (bits .and .i64 (keep / 2 ^ (u % 60)) 1 == 1) = false := hb
                have HN : Hid (_ = _) := hnx
                clear hnx hsm hall hsame hb
                go_wp2
                go_roundw
                case rel => exact ⟨n + 1, by omega, by go_num, by rw [HN.out]; go_num, by rw [HN.out]; exact hZ.out⟩
                case measure => simp [intOf]; omega
            · have hnx : saveTo R.withThen R.last (max keep 0) (n + 1) = (cur, u + 1) := by rw [saveTo_succ HW.out.2, hsame, show max keep 0 = 0 from by omega, kbit_zero]; rfl
              have HN : Hid (_ = _) := hnx
              clear hnx hsm hall hsame
              go_wp2
              go_roundw
              case rel => exact ⟨n + 1, by omega, by go_num, by rw [HN.out]; go_num, by rw [HN.out]; exact hZ.out⟩
              case measure => simp [intOf]; omega
    · have hne2 : n = R.seen.length / 8 := by omega
      have h8 := HX.out.1.ok.mul
      have hcl := saveTo_length HX.out.2.2.1 HX.out.1.ok.llen (max keep 0) (R.seen.length / 8) (by omega)
      rw [hne2] at HR
      have i1 : ¬ (n : Int) < ((R.seen.length / 8 : Nat) : Int) := by omega
      have hcr := HX.out.2.2.2.2
      generalize (saveTo R.withThen R.last (max keep 0) (R.seen.length / 8)).1 = ls at HR hcl hcr
      have HC : Hid (_ = _) := hcr
      clear hne2 hcr
      have hlt1 := lt_of_heap HR.out.2.2.main
      have c1 : wr.cell? ⟨p.b, 1, none⟩ = some (.slice (some ⟨p.bl, 0, none⟩) R.seen.length (R.seen.length + p.zl.length)) := by simpa [Rp.cells] using HR.out.2.2.cell 1
      have hbl := lt_of_heap HR.out.2.2.last
      have hk : (wr.alloc (.cells #[] 44)).heap[p.bl]? = some (.cells (row ls p.zl) 44 (0, 0)) := by rw [Below.heap_alloc _ _ _ hbl]; exact HR.out.2.2.last
      have hnews := row_news hk
      have hone := row_oneCell ls
      have hb0 := build0
      have hlen : (ls.map (Value.int .u64)).length = R.seen.length * 1 := by simp [hcl]
      obtain ⟨i0, hi0, hz0, hz1, hz2⟩ := info_parts info44
      have hown : (wr.alloc (.cells #[] 44)).ownsRow wr.heap.size 44 1 (.slice (some ⟨wr.heap.size, 0, none⟩) 0 0) 0 [] := World.ownsRow_made wr #[] 0 (Nat.le_refl _) (by unfold maxLen; omega) (by simp)
      have hlo := HX.out.1.ok.lo
      have HCL : Hid (_ = _) := hcl
      clear hk hcl
      go_wp2_with (first
        | (at_builtin; refine wpList_append_lies _ rfl _ _ 38 rfl wr.heap.size 44 i0 (.int .u64 0) 1 8 Try.underlying38 hi0 hz0 hz1 hz2 rfl (by omega) _ 0 [] rfl hown ⟨p.bl, 0, none⟩ R.seen.length (R.seen.length + p.zl.length) (ls.map (Value.int .u64)) rfl hlen hnews hone ?hpos ?h63 ?hby (by simp) (wr.heap.size + 1) (by simp) ?_))
      case hpos => omega
      case h63 => unfold maxLen; omega
      case hby => omega
      intro g cap w5 hown1 hgrow hat hltg
      obtain ⟨hg, hK, ys, hcap, hrow⟩ := appended_row (Nat.le_succ _) hown1 hgrow hat
      have hm := HR.out.2.2.kept0 hK
      have d0 : w5.cell? ⟨p.b, 0, none⟩ = some (.slice (some ⟨p.bs, 0, none⟩) R.seen.length (R.seen.length + p.zs.length)) := by simpa [Rp.cells] using hm.cell 0
      have d3 : w5.cell? ⟨p.b, 3, none⟩ = some (.slice (some ⟨p.bg, 0, none⟩) (R.seen.length / 8) (R.seen.length / 8 + p.zg.length)) := by simpa [Rp.cells] using hm.cell 3
      have d4 : w5.cell? ⟨p.b, 4, none⟩ = some (.bool R.fuse) := by simpa [Rp.cells] using hm.cell 4
      have d6 : w5.cell? ⟨p.b, 6, none⟩ = some p.tv := by simpa [Rp.cells] using hm.cell 6
      have f0 := hm.frozen 0
      have f3 := hm.frozen 3
      have f4 := hm.frozen 4
      have f6 := hm.frozen 6
      have hlt5 := lt_of_heap hm.main
      have hmb : ∀ w, (Instr.makeSlice 39 (.int .i64 ((R.seen.length : Int) / 8)) (.int .i64 ((R.seen.length : Int) / 8))).run Try.prog w = .ok (.slice (some ⟨w.heap.size, 0, none⟩) (R.seen.length / 8) (R.seen.length / 8)) (w.alloc (.cells (brow (List.replicate (R.seen.length / 8) false) []) 4)) := fun w => by
        have := make_brow (R.seen.length / 8) (by omega) w
        rw [show ((R.seen.length / 8 : Nat) : Int) = (R.seen.length : Int) / 8 from by omega] at this
        exact this
      have HY : Hid (_ ∧ _ ∧ _ ∧ _ ∧ _) := ⟨hg, hK, hcap, hrow, hm⟩
      clear hg hK hcap hrow hm hown1 hgrow hat hltg hown hnews hone c1 c3
      go_wp2
      go_ret
      obtain ⟨hg, hK, hcap, hrow, hm⟩ := HY.out
      subst hcap
      obtain ⟨p', h1, h2, h3⟩ := rcrash_fin HR.out.2.2 hm hg HCL.out hrow
      refine ⟨rfl, p', HR.out.1.trans ⟨h1, ?_, h2⟩, by rw [HC.out]; exact h3⟩
      exact (((((hK.mono (by simp)).setCell (by simp [Rp.blocks]) _).setCell (by simp [Rp.blocks]) _).setCell (by simp [Rp.blocks]) _).setCell (by simp [Rp.blocks]) _).alloc _

theorem rcrash_any {w : World} {p : Rp} {R : Rf} (h : RefIs w p R) (keep : Int) (hkm : -9223372036854775808 ≤ keep ∧ keep ≤ 9223372036854775807) :
    Calls Try.prog 20 #[.pointer (some ⟨p.b, 0, none⟩), .int .i64 keep] w fun e w' => e = .returned (.int .i64 0) ∧ ∃ p', RTo w p w' p' ∧ RefIs w' p' (R.crash keep) := by
  cases hT : R.thn with
  | none => exact rcrash_none h keep hkm hT
  | some xs => exact rcrash_some h keep hkm xs hT

end Go.Proofs.Ytghcommbflfbnaa
