/-
  Fence; Fuse.
-/
import Derived.Test.YtpaefllhngbimaaArrive
namespace Go.Proofs.Ytpaefllhngbimaa
set_option maxRecDepth 10000
open Go.RowKit

theorem arrive_any {w : World} {p : Pl} {M : Pm} (h : MemIs w p M) :
    Calls Try.prog 33 #[.pointer (some ⟨p.b, 0, none⟩)] w fun e w' => e = .returned (.tuple #[]) ∧ ∃ p', To w p w' p' ∧ MemIs w' p' M.fenced := by
  rcases h.way with ⟨h1, h2⟩ | ⟨r, es, c, h1, hr, hes, hn, hc⟩
  · exact arrive_nil h h1 h2
  · exact arrive_some h r es c h1 hr hes hn hc

/-- The work of a Fence. -/
def Pm.fenceIf (M : Pm) (pw : Bool) : Pm := if pw then M.fenced else M

set_option maxHeartbeats 400000 in
theorem fence1_any {w : World} {p : Pl} {M : Pm} (h : MemIs w p M) (am : Nat) (pw : Bool)
    (h1 : w.cell? ⟨am, 0, none⟩ = some (.pointer (some ⟨p.b, 0, none⟩))) :
    Calls Try.prog 32 #[.bool pw, .pointer (some ⟨am, 0, none⟩)] w fun e w' => e = .returned (.tuple #[]) ∧ ∃ p', To w p w' p' ∧ MemIs w' p' (M.fenceIf pw) := by
  cases pw with
  | false =>
    go_enter Try.func32, Try.ntmps32
    go_wp2
    go_end0
    exact ⟨rfl, p, To.refl _ _, h⟩
  | true =>
    go_enter Try.func32, Try.ntmps32
    go_wp2_with fail
    refine (arrive_any h).mono ?_
    rintro e w1 ⟨rfl, p1, hto, hm⟩
    have HX : Hid (_ ∧ _) := ⟨hto, hm⟩
    clear hto hm
    go_wp2
    go_end0
    exact ⟨rfl, p1, HX.out.1, HX.out.2⟩

/-- A Fence. -/
def Pm.fence (M : Pm) : Pm := (({ M with steps := M.steps + 1 } : Pm).fenceIf M.power).burn

theorem callFunc41 (args : Array Value) (w : World) : (callFunc 32 args).run Try.prog w = .ok (.enter 32 args) w := by kernel_rfl

set_option maxHeartbeats 1000000 in
theorem fence_any {w : World} {p : Pl} {M : Pm} (h : MemIs w p M) (hs0 : -1000000000 < M.steps) (hs : M.steps < 1000000000) :
    Calls Try.prog 13 #[.pointer (some ⟨p.b, 0, none⟩)] w fun e w' => e = .returned (.int .i64 0) ∧ ∃ p', To w p w' p' ∧ MemIs w' p' M.fence := by
  have hlt := lt_of_heap h.main
  obtain ⟨W, hW⟩ : ∃ W, W = w.alloc (.cells #[.pointer (some ⟨p.b, 0, none⟩)] 23) := ⟨_, rfl⟩
  have hK : Kept [] w W := by rw [hW]; exact (Kept.refl _ _).alloc _
  have g1 : W.cell? ⟨w.heap.size, 0, none⟩ = some (.pointer (some ⟨p.b, 0, none⟩)) := by rw [hW]; go_simp
  have h1 := h.kept0 hK
  go_enter Try.func13, Try.ntmps13
  go_wp2_with fail
  rw [← hW]
  clear hW
  have hn : ∀ x, w.heap.size ≤ x → x ∉ p.blocks := fun x hx hm => by have := h.blocks_lt x hm; omega
  refine (step_any (M1 := ({ M with steps := M.steps + 1 } : Pm).fenceIf M.power) h1 32 _ hs0 hs callFunc41 ?_).mono ?_
  · intro w1 hto hm
    exact fence1_any hm _ _ (hto.kept.cell g1 (hn _ (by omega)))
  · rintro e w2 ⟨rfl, p2, hto2, hm2⟩
    have HX : Hid (_ ∧ _) := ⟨(To.still hK).trans hto2, hm2⟩
    clear hto2 hm2 hn h1 g1
    go_wp2
    go_ret
    exact ⟨rfl, p2, HX.out.1, HX.out.2⟩

/-- A Fuse that is OK. -/
def Pm.setFuse (M : Pm) (k : Int) : Pm := if M.power then M.light k else M

set_option maxHeartbeats 1000000 in
theorem fuse_yes {w : World} {p : Pl} {M : Pm} (h : MemIs w p M) (k : Int) (hk0 : 0 ≤ k) (hk : k ≤ 9223372036854775807) :
    Calls Try.prog 24 #[.pointer (some ⟨p.b, 0, none⟩), .int .i64 k] w fun e w' => e = .returned (.int .i64 0) ∧ ∃ p', To w p w' p' ∧ MemIs w' p' (M.setFuse k) := by
  go_enter Try.func24, Try.ntmps24
  go_wp2_with fail
  refine (power_any h).mono ?_
  rintro e w1 ⟨rfl, hK⟩
  have h1 := h.kept0 hK
  cases hp : M.power with
  | true =>
    have hF : M.setFuse k = M.light k := by simp [Pm.setFuse, hp]
    have HX : Hid (_ ∧ _) := ⟨hF, hK⟩
    clear hF hK hp
    go_wp2_with fail
    refine (light_any h1 k hk).mono ?_
    rintro e w2 ⟨rfl, p2, hto2, hm2⟩
    have HY : Hid (_ ∧ _) := ⟨hto2, hm2⟩
    clear hto2 hm2 h1
    go_wp2
    go_ret
    exact ⟨rfl, p2, (To.still HX.out.2).trans HY.out.1, by rw [HX.out.1]; exact HY.out.2⟩
  | false =>
    have hF : M.setFuse k = M := by simp [Pm.setFuse, hp]
    have HX : Hid (_ ∧ _ ∧ _) := ⟨hF, hK, h1⟩
    clear hF hK hp h1
    go_wp2
    go_ret
    exact ⟨rfl, p, To.still HX.out.2.1, by rw [HX.out.1]; exact HX.out.2.2⟩

set_option maxHeartbeats 400000 in
theorem fuse_no {w : World} {p : Pl} (k : Int) (hk0 : k < 0) :
    Calls Try.prog 24 #[.pointer (some ⟨p.b, 0, none⟩), .int .i64 k] w fun e w' => e = .returned (.int .i64 102) ∧ w' = w := by
  go_enter Try.func24, Try.ntmps24
  go_wp2
  go_ret
  exact ⟨rfl, rfl⟩

end Go.Proofs.Ytpaefllhngbimaa
