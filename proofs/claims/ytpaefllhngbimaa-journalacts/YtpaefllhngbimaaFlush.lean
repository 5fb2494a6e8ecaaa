/-
  Store at no place; Flush.
-/
import Derived.Test.YtpaefllhngbimaaStore
namespace Go.Proofs.Ytpaefllhngbimaa
open Go.RowKit

set_option maxHeartbeats 1000000 in
theorem store_no {w : World} {p : Pl} {M : Pm} (h : MemIs w p M) (a v : Int) (ha : a < 0 ∨ (M.seen.length : Int) ≤ a) :
    Calls Try.prog 11 #[.pointer (some ⟨p.b, 0, none⟩), .int .i64 a, .int .u64 v] w fun e w' => e = .returned (.int .i64 101) ∧ Kept [] w w' := by
  have hi := h.ok.hi
  obtain ⟨W, hW⟩ : ∃ W, W = ((w.alloc (.cells #[.pointer (some ⟨p.b, 0, none⟩)] 23)).alloc (.cells #[.int .i64 a] 3)).alloc (.cells #[.int .u64 v] 29) := ⟨_, rfl⟩
  have hK : Kept [] w W := by rw [hW]; exact (((Kept.refl _ _).alloc _).alloc _).alloc _
  have g1 : W.cell? ⟨w.heap.size, 0, none⟩ = some (.pointer (some ⟨p.b, 0, none⟩)) := by rw [hW]; go_simp
  have g2 : W.cell? ⟨w.heap.size + 1, 0, none⟩ = some (.int .i64 a) := by rw [hW]; go_simp
  have h1 := h.kept0 hK
  have c0' : W.cell? ⟨p.b, 0, none⟩ = some (.slice (some ⟨p.bs, 0, none⟩) M.seen.length (M.seen.length + p.zs.length)) := by simpa using h1.cell 0
  by_cases hn : a < 0
  · have d1 : decide (a < 0) = true := by simpa using hn
    go_enter Try.func11, Try.ntmps11
    go_wp2
    rw [← hW]
    clear hW
    go_quiet (fail)
    go_wp2
    go_ret
    exact ⟨rfl, hK.drewN _⟩
  · have d1 : decide (a < 0) = false := by simpa using hn
    have d2 : (M.seen.length : Int) ≤ a := by omega
    go_enter Try.func11, Try.ntmps11
    go_wp2
    rw [← hW]
    clear hW
    go_quiet (fail)
    go_wp2
    go_ret
    exact ⟨rfl, hK.drewN _⟩

/-- The work of a Flush. -/
def Pm.send (M : Pm) (pw : Bool) (l : Nat) : Pm := if pw then { M with way := wput M.way l none } else M

set_option maxHeartbeats 400000 in
theorem send_any {w : World} {p : Pl} {M : Pm} (h : MemIs w p M) (am aa : Nat) (pw : Bool) (l : Nat) (hl : 8 * l + 8 ≤ M.seen.length)
    (h1 : w.cell? ⟨am, 0, none⟩ = some (.pointer (some ⟨p.b, 0, none⟩))) (h2 : w.cell? ⟨aa, 0, none⟩ = some (.int .i64 (l : Int))) :
    Calls Try.prog 30 #[.bool pw, .pointer (some ⟨am, 0, none⟩), .pointer (some ⟨aa, 0, none⟩)] w fun e w' => e = .returned (.tuple #[]) ∧ ∃ p', To w p w' p' ∧ MemIs w' p' (M.send pw l) := by
  cases pw with
  | false =>
    go_enter Try.func30, Try.ntmps30
    go_wp2
    go_end0
    exact ⟨rfl, p, To.refl _ _, h⟩
  | true =>
    go_enter Try.func30, Try.ntmps30
    go_wp2_with fail
    refine (sendOff_any h l hl).mono ?_
    rintro e w1 ⟨rfl, p1, hto, hm⟩
    have HX : Hid (_ ∧ _) := ⟨hto, hm⟩
    clear hto hm
    go_wp2
    go_end0
    exact ⟨rfl, p1, HX.out.1, HX.out.2⟩

/-- A Flush that is OK. -/
def Pm.flush (M : Pm) (l : Nat) : Pm := (({ M with steps := M.steps + 1 } : Pm).send M.power l).burn

theorem callFunc39 (args : Array Value) (w : World) : (callFunc 30 args).run Try.prog w = .ok (.enter 30 args) w := by kernel_rfl

set_option maxHeartbeats 1000000 in
theorem flush_yes {w : World} {p : Pl} {M : Pm} (h : MemIs w p M) (l : Nat) (hl : 8 * l + 8 ≤ M.seen.length) (hs0 : -1000000000 < M.steps) (hs : M.steps < 1000000000) :
    Calls Try.prog 12 #[.pointer (some ⟨p.b, 0, none⟩), .int .i64 (l : Int)] w fun e w' => e = .returned (.int .i64 0) ∧ ∃ p', To w p w' p' ∧ MemIs w' p' (M.flush l) := by
  have hi := h.ok.hi
  have hlt := lt_of_heap h.main
  obtain ⟨W, hW⟩ : ∃ W, W = (w.alloc (.cells #[.pointer (some ⟨p.b, 0, none⟩)] 23)).alloc (.cells #[.int .i64 (l : Int)] 3) := ⟨_, rfl⟩
  have hK : Kept [] w W := by rw [hW]; exact ((Kept.refl _ _).alloc _).alloc _
  have g1 : W.cell? ⟨w.heap.size, 0, none⟩ = some (.pointer (some ⟨p.b, 0, none⟩)) := by rw [hW]; go_simp
  have g2 : W.cell? ⟨w.heap.size + 1, 0, none⟩ = some (.int .i64 (l : Int)) := by rw [hW]; go_simp
  have h1 := h.kept0 hK
  have d1 : decide ((l : Int) < 0) = false := by simp
  have d2 : (l : Int) < ((M.seen.length / 8 : Nat) : Int) := by omega
  go_enter Try.func12, Try.ntmps12
  go_wp2
  rw [← hW]
  clear hW
  go_quiet ((go_at_call 29; exact Calls.quiet_of_same (lines_any (h1.kept0 ((Kept.refl _ _).drewN _)))))
  go_wp2_with fail
  have hn : ∀ x, w.heap.size ≤ x → x ∉ p.blocks := fun x hx hm => by have := h.blocks_lt x hm; omega
  refine (step_any (M1 := ({ M with steps := M.steps + 1 } : Pm).send M.power l) (h1.kept0 ((Kept.refl _ _).drewN _)) 30 _ hs0 hs callFunc39 ?_).mono ?_
  · intro w1 hto hm
    exact send_any hm _ _ _ l hl (hto.kept.cell g1 (hn _ (by omega))) (hto.kept.cell g2 (hn _ (by omega)))
  · rintro e w2 ⟨rfl, p2, hto2, hm2⟩
    have HX : Hid (_ ∧ _) := ⟨(To.still (hK.drewN _)).trans hto2, hm2⟩
    clear hto2 hm2 hn h1 g1 g2
    go_wp2
    go_ret
    exact ⟨rfl, p2, HX.out.1, HX.out.2⟩

set_option maxHeartbeats 1000000 in
theorem flush_no {w : World} {p : Pl} {M : Pm} (h : MemIs w p M) (a : Int) (ha : a < 0 ∨ (M.seen.length : Int) < 8 * a + 8) :
    Calls Try.prog 12 #[.pointer (some ⟨p.b, 0, none⟩), .int .i64 a] w fun e w' => e = .returned (.int .i64 101) ∧ Kept [] w w' := by
  have hi := h.ok.hi
  obtain ⟨W, hW⟩ : ∃ W, W = (w.alloc (.cells #[.pointer (some ⟨p.b, 0, none⟩)] 23)).alloc (.cells #[.int .i64 a] 3) := ⟨_, rfl⟩
  have hK : Kept [] w W := by rw [hW]; exact ((Kept.refl _ _).alloc _).alloc _
  have g1 : W.cell? ⟨w.heap.size, 0, none⟩ = some (.pointer (some ⟨p.b, 0, none⟩)) := by rw [hW]; go_simp
  have g2 : W.cell? ⟨w.heap.size + 1, 0, none⟩ = some (.int .i64 a) := by rw [hW]; go_simp
  have h1 := h.kept0 hK
  by_cases hn : a < 0
  · have d1 : decide (a < 0) = true := by simpa using hn
    go_enter Try.func12, Try.ntmps12
    go_wp2
    rw [← hW]
    clear hW
    go_quiet (fail)
    go_wp2
    go_ret
    exact ⟨rfl, hK.drewN _⟩
  · have d1 : decide (a < 0) = false := by simpa using hn
    have d2 : ((M.seen.length / 8 : Nat) : Int) ≤ a := by have := h.ok.mul; omega
    go_enter Try.func12, Try.ntmps12
    go_wp2
    rw [← hW]
    clear hW
    go_quiet ((go_at_call 29; exact Calls.quiet_of_same (lines_any (h1.kept0 ((Kept.refl _ _).drewN _)))))
    go_wp2
    go_ret
    exact ⟨rfl, hK.drewN _⟩

end Go.Proofs.Ytpaefllhngbimaa
