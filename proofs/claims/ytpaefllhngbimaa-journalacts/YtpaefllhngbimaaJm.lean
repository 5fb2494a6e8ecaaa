/-
  As light, step and Store; and the map of what is on its way is the one that it was, or gone.
-/
import Derived.Test.YtpaefllhngbimaaJf
import Derived.Deep.QuietTactic
import Derived.BigQuiet
import Derived.Deep.RegionHeld3
import Derived.Deep.MidRow
import Derived.Deep.DrawnRows
namespace Go.Proofs.Ytpaefllhngbimaa
open Go.RowKit
open Go.ChangeMaps (setBlock)
set_option maxRecDepth 10000

set_option maxHeartbeats 400000 in
theorem light_mv {w : World} {p : Pl} {M : Pm} (h : MemIs w p M) (left : Int) (hl : left ≤ 9223372036854775807) :
    Calls Try.prog 47 #[.pointer (some ⟨p.b, 0, none⟩), .int .i64 left] w fun e w' => e = .returned (.tuple #[]) ∧ ∃ p', To w p w' p' ∧ MemIs w' p' (M.light left) ∧ (p'.mv = p.mv ∨ p'.mv = .map none) := by
  have c0 : w.cell? ⟨p.b, 0, none⟩ = some (.slice (some ⟨p.bs, 0, none⟩) M.seen.length (M.seen.length + p.zs.length)) := by simpa using h.cell 0
  have c2 : w.cell? ⟨p.b, 2, none⟩ = some p.mv := by simpa using h.cell 2
  have c3 : w.cell? ⟨p.b, 3, none⟩ = some p.fv := by simpa using h.cell 3
  have f2 := h.frozen 2
  have f3 := h.frozen 3
  by_cases hp : 0 < left
  · have hM : M.light left = { M with fuse := some (.inl left) } := by simp [Pm.light, hp]
    have hF : FuseIs w (.iface 80 (.agg #[.int .i64 left])) M.seen.length (some (.inl left)) := ⟨rfl, hp, hl⟩
    have hfin := h.setFuse (.iface 80 (.agg #[.int .i64 left])) _ hF (nodup_lessF rfl h.apart)
    have HM : Hid (_ = _) := hM
    clear hM hF
    go_enter Try.func47, Try.ntmps47
    go_wp2
    refine bodyPost_ret (results_none rfl _ _ _) rfl ⟨rfl, { p with fv := .iface 80 (.agg #[.int .i64 left]) }, ⟨?_, ?_, ?_⟩, (by rw [HM.out]; exact hfin), Or.inl rfl⟩
    · rfl
    · exact (Kept.refl _ _).setCell (by simp [Pl.blocks]) _
    · exact fresh_fv (by simp [vb])
  · have hM : M.light left = { M with fuse := some (.inr M.seen), way := [] } := by simp [Pm.light, hp]
    have HM : Hid (_ = _) := hM
    clear hM
    go_enter Try.func47, Try.ntmps47
    go_wp2_with fail
    refine (clone_any _ p.bs _ M.seen p.zs _ rfl ?hpos h.ok.hi h.seen).mono ?_
    case hpos => have := h.ok.lo; omega
    rintro e w1 ⟨g, zf, rfl, hg, ⟨ys, hys, hrow⟩, hK⟩
    have h1 := h.kept0 hK
    have d2 : w1.cell? ⟨p.b, 2, none⟩ = some p.mv := by simpa using h1.cell 2
    have d3 : w1.cell? ⟨p.b, 3, none⟩ = some p.fv := by simpa using h1.cell 3
    have g2 := h1.frozen 2
    have g3 := h1.frozen 3
    have HR : Hid (_ ∧ _ ∧ _) := ⟨hys, hrow, hK⟩
    clear c0 c2 c3 f2 f3 hys hrow hK
    go_wp2
    obtain ⟨hys, hrow, hK⟩ := HR.out
    have hF : FuseIs w1 (.iface 104 (.agg #[.slice (some ⟨g, 0, none⟩) M.seen.length (M.seen.length + zf)])) M.seen.length (some (.inr M.seen)) := ⟨g, ys, by rw [hys], hrow, rfl⟩
    have hnd : ({ p with fv := .iface 104 (.agg #[.slice (some ⟨g, 0, none⟩) M.seen.length (M.seen.length + zf)]) } : Pl).blocks.Nodup := nodup_moreF h rfl hg
    have hm := h1.setFuse _ _ hF hnd
    have hm2 := hm.setWay (.map none) [] (Or.inl ⟨rfl, rfl⟩) (WayOk.nil _) (nodup_less hm.apart)
    go_end0
    refine ⟨rfl, _, ⟨?_, ?_, ?_⟩, (by rw [HM.out]; exact hm2), Or.inr rfl⟩
    · rfl
    · exact ((hK.mono (by simp)).setCell (by simp [Pl.blocks]) _).setCell (by simp [Pl.blocks]) _
    · intro k hk
      simp [Pl.blocks, vb] at hk
      simp [Pl.blocks]
      omega

set_option maxHeartbeats 400000 in
theorem step_mv {w : World} {p : Pl} {M M1 : Pm} (h : MemIs w p M) (F : FuncId) (caps : Array Value) (hs0 : -1000000000 < M.steps) (hs : M.steps < 1000000000)
    (hcall : ∀ args w, (callFunc F args).run Try.prog w = .ok (.enter F args) w)
    (hwork : ∀ w1, To w p w1 p → MemIs w1 p { M with steps := M.steps + 1 } → Calls Try.prog F (#[.bool M.power] ++ caps) w1 fun e w2 => e = .returned (.tuple #[]) ∧ ∃ p2, To w1 p w2 p2 ∧ MemIs w2 p2 M1 ∧ (p2.mv = p.mv ∨ p2.mv = .map none)) :
    Calls Try.prog 26 #[.pointer (some ⟨p.b, 0, none⟩), .func (.func F) #[] caps] w fun e w' => e = .returned (.tuple #[]) ∧ ∃ p', To w p w' p' ∧ MemIs w' p' M1.burn ∧ (p'.mv = p.mv ∨ p'.mv = .map none) := by
  have c4 : w.cell? ⟨p.b, 4, none⟩ = some (.int .i64 M.steps) := by simpa using h.cell 4
  have f4 := h.frozen 4
  have HW : Hid (∀ w1, To w p w1 p → MemIs w1 p { M with steps := M.steps + 1 } → Calls Try.prog F (#[.bool M.power] ++ caps) w1 fun e w2 => e = .returned (.tuple #[]) ∧ ∃ p2, To w1 p w2 p2 ∧ MemIs w2 p2 M1 ∧ (p2.mv = p.mv ∨ p2.mv = .map none)) := hwork
  clear hwork
  go_enter Try.func26, Try.ntmps26
  go_wp2_with fail
  have hm := h.setSteps (M.steps + 1)
  refine (power_any hm).mono ?_
  rintro e w1 ⟨rfl, hK⟩
  have hm1 := hm.kept0 hK
  have hto : To w p w1 p := ⟨rfl, ((Kept.refl _ _).setCell (by simp [Pl.blocks]) _).trans hK (by simp), fun k hk => Or.inl hk⟩
  have hpw : ({ M with steps := M.steps + 1 } : Pm).power = M.power := rfl
  go_wp2_with fail
  refine (HW.out w1 hto hm1).mono ?_
  rintro e w2 ⟨rfl, p2, hto2, hm2, hmv2⟩
  have HV : Hid (_) := hmv2
  clear hmv2
  have hto3 := hto.trans hto2
  have hb : p2.b = p.b := hto3.b
  have c3 : w2.cell? ⟨p2.b, 3, none⟩ = some p2.fv := by simpa using hm2.cell 3
  have hf := hm2.fuse
  have HX : Hid (_ ∧ _ ∧ _) := ⟨hto3, hm2, hb⟩
  rw [hb] at c3
  clear c4 f4 hm hK hm1 hto hpw hto2 hto3 hb
  rcases hM : M1.fuse with _ | k | xs
  · rw [hM] at hf
    simp only [FuseIs] at hf
    rw [hf] at c3
    have hB : M1.burn = M1 := by simp [Pm.burn, hM]
    have HB : Hid (_ = _) := hB
    clear hf hM hB hm2
    have ha := assert76_nil
    go_wp2_with fail
    go_end0
    obtain ⟨hto3, hm2, hb⟩ := HX.out
    exact ⟨rfl, p2, hto3.trans (To.still ((Kept.refl _ _).alloc _)), (by rw [HB.out]; exact hm2.kept0 ((Kept.refl _ _).alloc _)), HV.out⟩
  · rw [hM] at hf
    obtain ⟨hf, hk0, hk1⟩ := hf
    rw [hf] at c3
    have hB : M1.burn = M1.light (k - 1) := by simp [Pm.burn, hM]
    have HB : Hid (_ = _) := hB
    clear hf hM hB hm2
    have ha := assert76_burning
    go_wp2_with fail
    obtain ⟨hto3, hm2, hb⟩ := HX.out
    have hm3 := hm2.kept0 ((Kept.refl _ _).alloc (.cells #[.int .i64 k] 80))
    have hl := light_mv hm3 (k - 1) (by omega)
    rw [hb] at hl
    refine hl.mono ?_
    rintro e w4 ⟨rfl, p4, hto4, hm4, hmv4⟩
    have HV4 : Hid (_) := hmv4
    clear hmv4
    have HY : Hid (_ ∧ _) := ⟨hto3.trans ((To.still ((Kept.refl _ _).alloc _)).trans hto4), hm4⟩
    clear hto3 hm2 hb hm3 hto4 hm4 hl
    go_wp2_with fail
    go_end0
    exact ⟨rfl, p4, HY.out.1, (by rw [HB.out]; exact HY.out.2), by
      rcases HV4.out with h1 | h1
      · rw [h1]; exact HV.out
      · exact Or.inr h1⟩
  · rw [hM] at hf
    obtain ⟨f, zf, hf, -⟩ := hf
    rw [hf] at c3
    have hB : M1.burn = M1 := by simp [Pm.burn, hM]
    have HB : Hid (_ = _) := hB
    clear hf hM hB hm2
    have ha := assert76_burnt
    go_wp2_with fail
    go_end0
    obtain ⟨hto3, hm2, hb⟩ := HX.out
    exact ⟨rfl, p2, hto3.trans (To.still ((Kept.refl _ _).alloc _)), (by rw [HB.out]; exact hm2.kept0 ((Kept.refl _ _).alloc _)), HV.out⟩

set_option maxHeartbeats 1000000 in
theorem hold_mv {w : World} {p : Pl} {M : Pm} (h : MemIs w p M) (l : Nat) (hl : 8 * l + 8 ≤ M.seen.length) (hx : wget M.way l = some none) :
    Calls Try.prog 28 #[.pointer (some ⟨p.b, 0, none⟩), .int .i64 (l : Int)] w fun e w' => e = .returned (.tuple #[]) ∧ ∃ p', To w p w' p' ∧ MemIs w' p' (M.hold l) ∧ p' = p := by
  have c2 : w.cell? ⟨p.b, 2, none⟩ = some p.mv := by simpa using h.cell 2
  have c0 : w.cell? ⟨p.b, 0, none⟩ = some (.slice (some ⟨p.bs, 0, none⟩) M.seen.length (M.seen.length + p.zs.length)) := by simpa using h.cell 0
  have hlook := run_lookup_way h.way l
  have a1 := assert79_unch
  unfold wfound at hlook
  simp only [hx, wv] at hlook
  have hlt := lt_of_heap h.main
  have h1 : MemIs (w.alloc (.cells #[] 83)).drew p M := h.kept0 ((Kept.refl _ _).alloc _).drew
  have hok : WayOk M.seen.length (wput M.way l (some (lineList M.seen l))) := h.ok.way.put hl (fun ws e => by cases e; exact lineList_length hl)
  have hfin : ∃ w', (Instr.mapUpdate 53 p.mv (.int .i64 (l : Int)) (.iface 88 (.agg (u64s (lineList M.seen l))))).run Try.prog (w.alloc (.cells #[] 83)).drew = .ok () w' ∧ To (w.alloc (.cells #[] 83)).drew p w' p ∧ MemIs w' p { M with way := wput M.way l (some (lineList M.seen l)) } := by
    rcases h1.way with ⟨e1, e2⟩ | ⟨r, es, c, e1, hr, hes, hn, hc⟩
    · rw [e2] at hx; simp [wget] at hx
    · obtain ⟨es', c', hrun, he', hn', hc'⟩ := run_update_way hr hes hn hc l (some (lineList M.seen l))
      rw [e1]
      refine ⟨_, hrun, ⟨rfl, ?_, fun k hk => Or.inl hk⟩, h1.setMap e1 es' c' _ he' hn' hc' hok⟩
      exact (Kept.refl _ _).setBlock (Or.inl (by rw [mem_blocks, e1]; simp [vb])) _
  obtain ⟨w2, hupd, hto, hm2⟩ := hfin
  rw [u64s8 (lineList_length hl)] at hupd
  have HF : Hid (_ ∧ _ ∧ _) := ⟨h, hto, hm2⟩
  have hAt := arrayAt8
  have HS : Hid (_) := hold_cells (M := { M with way := wput M.way l (some (lineList M.seen l)) }) hm2 l hl
  clear hto hm2 hok
  have hM : M.hold l = { M with way := wput M.way l (some (lineList M.seen l)) } := by simp [Pm.hold, hx]
  have hi := h.ok.hi
  obtain ⟨-, -, r0, r1, r2, r3, r4, r5, r6, r7⟩ := hold_cells h l hl
  have HM : Hid (_ = _) := hM
  clear hx hM
  go_enter Try.func28, Try.ntmps28
  go_wp2
  go_region_held3 (fun w => w.cell? ⟨p.b, 2, none⟩ = some p.mv ∧ w.cell? ⟨p.b, 0, none⟩ = some (.slice (some ⟨p.bs, 0, none⟩) M.seen.length (M.seen.length + p.zs.length)) ∧ w.cell? ⟨p.bs, 8 * l, none⟩ = some (.int .u64 (wordAt (lineList M.seen l) 0))
     ∧ w.cell? ⟨p.bs, 8 * l + 1, none⟩ = some (.int .u64 (wordAt (lineList M.seen l) 1)) ∧ w.cell? ⟨p.bs, 8 * l + 2, none⟩ = some (.int .u64 (wordAt (lineList M.seen l) 2)) ∧ w.cell? ⟨p.bs, 8 * l + 3, none⟩ = some (.int .u64 (wordAt (lineList M.seen l) 3))
     ∧ w.cell? ⟨p.bs, 8 * l + 4, none⟩ = some (.int .u64 (wordAt (lineList M.seen l) 4)) ∧ w.cell? ⟨p.bs, 8 * l + 5, none⟩ = some (.int .u64 (wordAt (lineList M.seen l) 5)) ∧ w.cell? ⟨p.bs, 8 * l + 6, none⟩ = some (.int .u64 (wordAt (lineList M.seen l) 6)) ∧ w.cell? ⟨p.bs, 8 * l + 7, none⟩ = some (.int .u64 (wordAt (lineList M.seen l) 7))) (first | exact HS.out | go_keep)
    ((go_at_call 48; refine (lineOf_any _ _ _ _ _ (by omega) (by omega) (by omega) (by omega)).mono ?_; rintro e w' ⟨rfl, rfl⟩))
  go_end0
  obtain ⟨h, hto, hm2⟩ := HF.out
  exact ⟨rfl, p, (To.still ((Kept.refl _ _).alloc _).drew).trans hto, (by rw [HM.out]; exact hm2), rfl⟩

theorem hold_any_mv {w : World} {p : Pl} {M : Pm} (h : MemIs w p M) (l : Nat) (hl : 8 * l + 8 ≤ M.seen.length) :
    Calls Try.prog 28 #[.pointer (some ⟨p.b, 0, none⟩), .int .i64 (l : Int)] w fun e w' => e = .returned (.tuple #[]) ∧ ∃ p', To w p w' p' ∧ MemIs w' p' (M.hold l) ∧ p' = p := by
  by_cases hx : wget M.way l = some none
  · exact hold_mv h l hl hx
  · have hM : M.hold l = M := by
      unfold Pm.hold
      split
      · rename_i h2; exact absurd h2 hx
      · rfl
    rw [hM]
    refine (hold_no h l hx).mono ?_
    rintro e w1 ⟨rfl, hK⟩
    exact ⟨rfl, p, To.still hK, h.kept0 hK, rfl⟩

set_option maxHeartbeats 1000000 in
theorem put_tail_mv {w : World} {p : Pl} {M : Pm} (h : MemIs w p M) (am aa av : Nat) (k : Nat) (v : Int) (hk : k < M.seen.length)
    (h1 : w.cell? ⟨am, 0, none⟩ = some (.pointer (some ⟨p.b, 0, none⟩))) (h2 : w.cell? ⟨aa, 0, none⟩ = some (.int .i64 (k : Int))) (h3 : w.cell? ⟨av, 0, none⟩ = some (.int .u64 v)) :
    Calls Try.prog 27 #[.bool false, .pointer (some ⟨am, 0, none⟩), .pointer (some ⟨aa, 0, none⟩), .pointer (some ⟨av, 0, none⟩)] w fun e w' => e = .returned (.tuple #[]) ∧ ∃ p', To w p w' p' ∧ MemIs w' p' { M with seen := M.seen.set k v } ∧ p' = p := by
  have c0 : w.cell? ⟨p.b, 0, none⟩ = some (.slice (some ⟨p.bs, 0, none⟩) M.seen.length (M.seen.length + p.zs.length)) := by simpa using h.cell 0
  have ck : w.cell? ⟨p.bs, k, none⟩ = some (.int .u64 (wordAt M.seen k)) := row_word h.seen hk
  have fk : w.frozen? ⟨p.bs, k, none⟩ = false := row_frozen h.seen k
  have hi := h.ok.hi
  have i0 : (0 : Int) ≤ (k : Int) := by omega
  have i1 : (k : Int) < (M.seen.length : Int) := by omega
  go_enter Try.func27, Try.ntmps27
  go_wp2
  go_region
  all_goals (go_end0)
  all_goals exact ⟨rfl, p, ⟨rfl, (((Kept.refl _ _).setCell (by simp [Pl.blocks]) _).drew), fun k hk => Or.inl hk⟩, (h.setSeen k hk v).kept0 (Kept.refl _ _).drew, rfl⟩

set_option maxHeartbeats 1000000 in
theorem put_hold_mv {w : World} {p : Pl} {M : Pm} (h : MemIs w p M) (am aa av : Nat) (k : Nat) (v : Int) (hk : k < M.seen.length)
    (h1 : w.cell? ⟨am, 0, none⟩ = some (.pointer (some ⟨p.b, 0, none⟩))) (h2 : w.cell? ⟨aa, 0, none⟩ = some (.int .i64 (k : Int))) (h3 : w.cell? ⟨av, 0, none⟩ = some (.int .u64 v))
    (n1 : am ∉ p.blocks) (n2 : aa ∉ p.blocks) (n3 : av ∉ p.blocks) :
    Calls Try.prog 27 #[.bool true, .pointer (some ⟨am, 0, none⟩), .pointer (some ⟨aa, 0, none⟩), .pointer (some ⟨av, 0, none⟩)] w fun e w' => e = .returned (.tuple #[]) ∧ ∃ p', To w p w' p' ∧ MemIs w' p' { M.hold (k / 8) with seen := M.seen.set k v } ∧ p' = p := by
  have hi := h.ok.hi
  have hmul := h.ok.mul
  go_enter Try.func27, Try.ntmps27
  go_wp2_with fail
  rw [show ((k : Int) / 8) = ((k / 8 : Nat) : Int) from by omega]
  refine (hold_any_mv h (k / 8) (by omega)).mono ?_
  rintro e w1 ⟨rfl, p1, hto, hm, hpp⟩
  have HP : Hid (_) := hpp
  clear hpp
  have hb := hto.b
  have hs := hold_seen M (k / 8)
  have g1 := hto.kept.cell h1 n1
  have g2 := hto.kept.cell h2 n2
  have g3 := hto.kept.cell h3 n3
  have c0 : w1.cell? ⟨p1.b, 0, none⟩ = some (.slice (some ⟨p1.bs, 0, none⟩) M.seen.length (M.seen.length + p1.zs.length)) := by have := hm.cell 0; rw [hs] at this; simpa using this
  have ck : w1.cell? ⟨p1.bs, k, none⟩ = some (.int .u64 (wordAt (M.hold (k / 8)).seen k)) := row_word hm.seen (by rw [hs]; exact hk)
  have fk : w1.frozen? ⟨p1.bs, k, none⟩ = false := row_frozen hm.seen k
  have i0 : (0 : Int) ≤ (k : Int) := by omega
  have i1 : (k : Int) < (M.seen.length : Int) := by omega
  rw [hb] at c0
  have HX : Hid (_ ∧ _) := ⟨hto, hs⟩
  clear h1 h2 h3 hto hb hs n1 n2 n3
  go_wp2
  go_region
  all_goals (go_end0)
  all_goals
    obtain ⟨hto, hs⟩ := HX.out
    refine ⟨rfl, p1, hto.trans ⟨rfl, (((Kept.refl _ _).setCell (by simp [Pl.blocks]) _).drew), fun k hk => Or.inl hk⟩, ?_, HP.out⟩
    have := (hm.setSeen k (by rw [hs]; exact hk) v).kept0 (Kept.refl _ _).drew
    rw [hs] at this
    exact this

theorem put_any_mv {w : World} {p : Pl} {M : Pm} (h : MemIs w p M) (am aa av : Nat) (pw : Bool) (k : Nat) (v : Int) (hk : k < M.seen.length)
    (h1 : w.cell? ⟨am, 0, none⟩ = some (.pointer (some ⟨p.b, 0, none⟩))) (h2 : w.cell? ⟨aa, 0, none⟩ = some (.int .i64 (k : Int))) (h3 : w.cell? ⟨av, 0, none⟩ = some (.int .u64 v))
    (n1 : am ∉ p.blocks) (n2 : aa ∉ p.blocks) (n3 : av ∉ p.blocks) :
    Calls Try.prog 27 #[.bool pw, .pointer (some ⟨am, 0, none⟩), .pointer (some ⟨aa, 0, none⟩), .pointer (some ⟨av, 0, none⟩)] w fun e w' => e = .returned (.tuple #[]) ∧ ∃ p', To w p w' p' ∧ MemIs w' p' (M.put pw k v) ∧ p' = p := by
  cases pw with
  | false => exact put_tail_mv h am aa av k v hk h1 h2 h3
  | true =>
    have := put_hold_mv h am aa av k v hk h1 h2 h3 n1 n2 n3
    have e : M.put true k v = { M.hold (k / 8) with seen := M.seen.set k v } := by simp [Pm.put, hold_seen]
    rw [e]
    exact this

set_option maxHeartbeats 1000000 in
theorem store_mv {w : World} {p : Pl} {M : Pm} (h : MemIs w p M) (k : Nat) (v : Int) (hk : k < M.seen.length) (hs0 : -1000000000 < M.steps) (hs : M.steps < 1000000000) (ht0 : -1000000000 < M.stores) (ht : M.stores < 1000000000) :
    Calls Try.prog 11 #[.pointer (some ⟨p.b, 0, none⟩), .int .i64 (k : Int), .int .u64 v] w fun e w' => e = .returned (.int .i64 0) ∧ ∃ p', To w p w' p' ∧ MemIs w' p' (M.store k v) ∧ (p'.mv = p.mv ∨ p'.mv = .map none) := by
  have hi := h.ok.hi
  have hlt := lt_of_heap h.main
  have c0 : w.cell? ⟨p.b, 0, none⟩ = some (.slice (some ⟨p.bs, 0, none⟩) M.seen.length (M.seen.length + p.zs.length)) := by simpa using h.cell 0
  have c5 : w.cell? ⟨p.b, 5, none⟩ = some (.int .i64 M.stores) := by simpa using h.cell 5
  have f5 := h.frozen 5
  have d1 : decide ((k : Int) < 0) = false := by simp
  have i1 : (k : Int) < (M.seen.length : Int) := by omega
  obtain ⟨W, hW⟩ : ∃ W, W = ((w.alloc (.cells #[.pointer (some ⟨p.b, 0, none⟩)] 23)).alloc (.cells #[.int .i64 (k : Int)] 3)).alloc (.cells #[.int .u64 v] 29) := ⟨_, rfl⟩
  have hK : Kept [] w W := by rw [hW]; exact (((Kept.refl _ _).alloc _).alloc _).alloc _
  have g1 : W.cell? ⟨w.heap.size, 0, none⟩ = some (.pointer (some ⟨p.b, 0, none⟩)) := by rw [hW]; go_simp
  have g2 : W.cell? ⟨w.heap.size + 1, 0, none⟩ = some (.int .i64 (k : Int)) := by rw [hW]; go_simp
  have g3 : W.cell? ⟨w.heap.size + 1 + 1, 0, none⟩ = some (.int .u64 v) := by rw [hW]; go_simp
  go_enter Try.func11, Try.ntmps11
  go_wp2
  rw [← hW]
  have h1 := h.kept0 hK
  have c0' : W.cell? ⟨p.b, 0, none⟩ = some (.slice (some ⟨p.bs, 0, none⟩) M.seen.length (M.seen.length + p.zs.length)) := by simpa using h1.cell 0
  have c5' : W.cell? ⟨p.b, 5, none⟩ = some (.int .i64 M.stores) := by simpa using h1.cell 5
  have f5' := h1.frozen 5
  clear c0 c5 f5 hW
  go_quiet (fail)
  go_wp2_with fail
  have hn : ∀ x, w.heap.size ≤ x → x ∉ p.blocks := fun x hx hm => by have := h.blocks_lt x hm; omega
  have hm5 : MemIs ((W.drewN nq).setCell ⟨p.b, 5, none⟩ (.int .i64 (M.stores + 1))) p { M with stores := M.stores + 1 } := (h1.kept0 ((Kept.refl _ _).drewN nq)).setStores _
  have hto5 : To w p ((W.drewN nq).setCell ⟨p.b, 5, none⟩ (.int .i64 (M.stores + 1))) p := ⟨rfl, ((hK.mono (by simp)).drewN nq).setCell (by simp [Pl.blocks]) _, fun k hk => Or.inl hk⟩
  have hout : ∀ x v, w.heap.size ≤ x → W.cell? ⟨x, 0, none⟩ = some v → ((W.drewN nq).setCell ⟨p.b, 5, none⟩ (.int .i64 (M.stores + 1))).cell? ⟨x, 0, none⟩ = some v := fun x v hx hc => cell_put_other hc (by omega)
  refine (step_mv (M1 := ({ M with stores := M.stores + 1, steps := M.steps + 1 } : Pm).put M.power k v) hm5 27 _ hs0 hs callFunc36 ?_).mono ?_
  · intro w1 hto hm
    refine (put_any_mv hm _ _ _ _ k v hk (hto.kept.cell (hout _ _ (by omega) g1) (hn _ (by omega))) (hto.kept.cell (hout _ _ (by omega) g2) (hn _ (by omega))) (hto.kept.cell (hout _ _ (by omega) g3) (hn _ (by omega))) (hn _ (by omega)) (hn _ (by omega)) (hn _ (by omega))).mono ?_
    rintro e w2 ⟨rfl, p2, q1, q2, q3⟩
    exact ⟨rfl, p2, q1, q2, Or.inl (by rw [q3])⟩
  · rintro e w2 ⟨rfl, p2, hto2, hm2, hmv⟩
    have HX : Hid (_ ∧ _ ∧ _) := ⟨hto5.trans hto2, hm2, hmv⟩
    clear c0' c5' f5' hout hm5 hto5 hto2 hm2 hmv hn h1 g1 g2 g3
    go_wp2
    go_ret
    exact ⟨rfl, p2, HX.out.1, HX.out.2.1, HX.out.2.2⟩

end Go.Proofs.Ytpaefllhngbimaa
