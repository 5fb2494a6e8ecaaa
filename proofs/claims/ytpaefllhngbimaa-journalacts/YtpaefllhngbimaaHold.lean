/-
  holdFlushed: what is on its way of a line is held ahead of a store.
-/
import Derived.Test.YtpaefllhngbimaaSend
import Derived.Deep.RegionHeld3
import Derived.Deep.MidRow
import Derived.Deep.DrawnRows
namespace Go.Proofs.Ytpaefllhngbimaa
open Go.RowKit
open Go.ChangeMaps (setBlock)

/-- The words of a line. -/
def lineList (xs : List Int) (l : Nat) : List Int := (xs.drop (8 * l)).take 8

theorem lineList_length {xs : List Int} {l : Nat} (h : 8 * l + 8 ≤ xs.length) : (lineList xs l).length = 8 := by simp [lineList]; omega

/-- What is on its way of a line that is about to be stored to. -/
def Pm.hold (M : Pm) (l : Nat) : Pm := match wget M.way l with
  | some none => { M with way := wput M.way l (some (lineList M.seen l)) }
  | _ => M

theorem assert79_nil (w : World) : (Instr.typeAssert .nilIface 77 83 true).run Try.prog w = .ok (.tuple #[.agg #[], .bool false]) w := by kernel_rfl
theorem assert79_held (v : Value) (w : World) : (Instr.typeAssert (.iface 88 v) 77 83 true).run Try.prog w = .ok (.tuple #[.agg #[], .bool false]) w := by kernel_rfl
theorem assert79_unch (v : Value) (w : World) : (Instr.typeAssert (.iface 83 v) 77 83 true).run Try.prog w = .ok (.tuple #[v, .bool true]) w := by kernel_rfl

theorem hold_same {M : Pm} {l : Nat} (h : wfound M.way l ≠ .iface 83 (.agg #[])) : M.hold l = M := by
  unfold wfound at h
  unfold Pm.hold
  split at h
  · rename_i x hx
    cases x with
    | none => exact absurd rfl h
    | some ws => rw [hx]
  · rename_i hx; rw [hx]

set_option maxHeartbeats 400000 in
theorem hold_no {w : World} {p : Pl} {M : Pm} (h : MemIs w p M) (l : Nat) (hx : wget M.way l ≠ some none) :
    Calls Try.prog 28 #[.pointer (some ⟨p.b, 0, none⟩), .int .i64 (l : Int)] w fun e w' => e = .returned (.tuple #[]) ∧ Kept [] w w' := by
  have c2 : w.cell? ⟨p.b, 2, none⟩ = some p.mv := by simpa using h.cell 2
  have hlook := run_lookup_way h.way l
  have a1 := assert79_nil
  have a2 := assert79_held
  unfold wfound at hlook
  rcases hg : wget M.way l with _ | _ | ws
  · simp only [hg] at hlook
    clear hx hg
    go_enter Try.func28, Try.ntmps28
    go_wp2
    go_end0
    exact ⟨rfl, (Kept.refl _ _).alloc _⟩
  · exact absurd hg hx
  · simp only [hg, wv] at hlook
    clear hx hg
    go_enter Try.func28, Try.ntmps28
    go_wp2
    go_end0
    exact ⟨rfl, (Kept.refl _ _).alloc _⟩

theorem arrayAt8 (b o c : Nat) (w : World) : (Instr.arrayAt 85 (.slice (some ⟨b, o, none⟩) 8 c)).run Try.prog w = .ok (.pointer (some ⟨b, o, none⟩)) w := by kernel_rfl

theorem u64s8 {xs : List Int} (h : xs.length = 8) : u64s xs = #[.int .u64 (wordAt xs 0), .int .u64 (wordAt xs 1), .int .u64 (wordAt xs 2), .int .u64 (wordAt xs 3), .int .u64 (wordAt xs 4), .int .u64 (wordAt xs 5), .int .u64 (wordAt xs 6), .int .u64 (wordAt xs 7)] := by
  match xs, h with
  | [a, b, c, d, e, f, g, i], _ => simp [u64s, wordAt]

theorem hold_cells {w : World} {p : Pl} {M : Pm} (h : MemIs w p M) (l : Nat) (hl : 8 * l + 8 ≤ M.seen.length) :
    w.cell? ⟨p.b, 2, none⟩ = some p.mv ∧ w.cell? ⟨p.b, 0, none⟩ = some (.slice (some ⟨p.bs, 0, none⟩) M.seen.length (M.seen.length + p.zs.length)) ∧ w.cell? ⟨p.bs, 8 * l, none⟩ = some (.int .u64 (wordAt (lineList M.seen l) 0))
     ∧ w.cell? ⟨p.bs, 8 * l + 1, none⟩ = some (.int .u64 (wordAt (lineList M.seen l) 1)) ∧ w.cell? ⟨p.bs, 8 * l + 2, none⟩ = some (.int .u64 (wordAt (lineList M.seen l) 2)) ∧ w.cell? ⟨p.bs, 8 * l + 3, none⟩ = some (.int .u64 (wordAt (lineList M.seen l) 3))
     ∧ w.cell? ⟨p.bs, 8 * l + 4, none⟩ = some (.int .u64 (wordAt (lineList M.seen l) 4)) ∧ w.cell? ⟨p.bs, 8 * l + 5, none⟩ = some (.int .u64 (wordAt (lineList M.seen l) 5)) ∧ w.cell? ⟨p.bs, 8 * l + 6, none⟩ = some (.int .u64 (wordAt (lineList M.seen l) 6)) ∧ w.cell? ⟨p.bs, 8 * l + 7, none⟩ = some (.int .u64 (wordAt (lineList M.seen l) 7)) := by
  have hrow : ∀ j, j < 8 → w.cell? ⟨p.bs, 8 * l + j, none⟩ = some (.int .u64 (wordAt (lineList M.seen l) j)) := fun j hj => by
    rw [row_word h.seen (by omega)]
    simp [wordAt, lineList, hj]
  exact ⟨by simpa using h.cell 2, by simpa using h.cell 0, hrow 0 (by omega), hrow 1 (by omega), hrow 2 (by omega), hrow 3 (by omega), hrow 4 (by omega), hrow 5 (by omega), hrow 6 (by omega), hrow 7 (by omega)⟩

set_option maxHeartbeats 1000000 in
theorem hold_yes {w : World} {p : Pl} {M : Pm} (h : MemIs w p M) (l : Nat) (hl : 8 * l + 8 ≤ M.seen.length) (hx : wget M.way l = some none) :
    Calls Try.prog 28 #[.pointer (some ⟨p.b, 0, none⟩), .int .i64 (l : Int)] w fun e w' => e = .returned (.tuple #[]) ∧ ∃ p', To w p w' p' ∧ MemIs w' p' (M.hold l) := by
  have c2 : w.cell? ⟨p.b, 2, none⟩ = some p.mv := by simpa using h.cell 2
  have c0 : w.cell? ⟨p.b, 0, none⟩ = some (.slice (some ⟨p.bs, 0, none⟩) M.seen.length (M.seen.length + p.zs.length)) := by simpa using h.cell 0
  have hlook := run_lookup_way h.way l
  have a1 := assert79_unch
  unfold wfound at hlook
  simp only [hx, wv] at hlook
  have hlt := lt_of_heap h.main
  have h1 : MemIs (w.alloc (.cells #[] 83)).drew p M := h.kept0 ((Kept.refl _ _).alloc _).drew
  have hok : WayOk M.seen.length (wput M.way l (some (lineList M.seen l))) := h.ok.way.put hl (fun ws e => by cases e; exact lineList_length hl)
  have hfin : ∃ w', (Instr.mapUpdate 53 p.mv (.int .i64 (l : Int)) (.iface 88 (.agg (u64s (lineList M.seen l))))).run Try.prog (w.alloc (.cells #[] 83)).drew = .ok () w' ∧ To (w.alloc (.cells #[] 83)).drew p w' p ∧ MemIs w' p { M with way := wput M.way l (some (lineList M.seen l)) } := by
    rcases h1.way with ⟨e1, e2⟩ | ⟨r, es, c, e1, hr, hes, hn, hc⟩
    · rw [e2] at hx; simp [wget] at hx
    · obtain ⟨es', c', hrun, he', hn', hc'⟩ := run_update_way hr hes hn hc l (some (lineList M.seen l))
      rw [e1]
      refine ⟨_, hrun, ⟨rfl, ?_, fun k hk => Or.inl hk⟩, h1.setMap e1 es' c' _ he' hn' hc' hok⟩
      exact (Kept.refl _ _).setBlock (Or.inl (by rw [mem_blocks, e1]; simp [vb])) _
  obtain ⟨w2, hupd, hto, hm2⟩ := hfin
  rw [u64s8 (lineList_length hl)] at hupd
  have HF : Hid (_ ∧ _ ∧ _) := ⟨h, hto, hm2⟩
  have hAt := arrayAt8
  have HS : Hid (_) := hold_cells (M := { M with way := wput M.way l (some (lineList M.seen l)) }) hm2 l hl
  clear hto hm2 hok
  have hM : M.hold l = { M with way := wput M.way l (some (lineList M.seen l)) } := by simp [Pm.hold, hx]
  have hi := h.ok.hi
  obtain ⟨-, -, r0, r1, r2, r3, r4, r5, r6, r7⟩ := hold_cells h l hl
  have HM : Hid (_ = _) := hM
  clear hx hM
  go_enter Try.func28, Try.ntmps28
  go_wp2
  go_region_held3 (fun w => w.cell? ⟨p.b, 2, none⟩ = some p.mv ∧ w.cell? ⟨p.b, 0, none⟩ = some (.slice (some ⟨p.bs, 0, none⟩) M.seen.length (M.seen.length + p.zs.length)) ∧ w.cell? ⟨p.bs, 8 * l, none⟩ = some (.int .u64 (wordAt (lineList M.seen l) 0))
     ∧ w.cell? ⟨p.bs, 8 * l + 1, none⟩ = some (.int .u64 (wordAt (lineList M.seen l) 1)) ∧ w.cell? ⟨p.bs, 8 * l + 2, none⟩ = some (.int .u64 (wordAt (lineList M.seen l) 2)) ∧ w.cell? ⟨p.bs, 8 * l + 3, none⟩ = some (.int .u64 (wordAt (lineList M.seen l) 3))
     ∧ w.cell? ⟨p.bs, 8 * l + 4, none⟩ = some (.int .u64 (wordAt (lineList M.seen l) 4)) ∧ w.cell? ⟨p.bs, 8 * l + 5, none⟩ = some (.int .u64 (wordAt (lineList M.seen l) 5)) ∧ w.cell? ⟨p.bs, 8 * l + 6, none⟩ = some (.int .u64 (wordAt (lineList M.seen l) 6)) ∧ w.cell? ⟨p.bs, 8 * l + 7, none⟩ = some (.int .u64 (wordAt (lineList M.seen l) 7))) (first | exact HS.out | go_keep)
    ((go_at_call 48; refine (lineOf_any _ _ _ _ _ (by omega) (by omega) (by omega) (by omega)).mono ?_; rintro e w' ⟨rfl, rfl⟩))
  go_end0
  obtain ⟨h, hto, hm2⟩ := HF.out
  exact ⟨rfl, p, (To.still ((Kept.refl _ _).alloc _).drew).trans hto, by rw [HM.out]; exact hm2⟩

end Go.Proofs.Ytpaefllhngbimaa
