/-
  step: a step is counted, its work is done, a burning fuse burns on.
-/
import Derived.Test.YtpaefllhngbimaaHold
namespace Go.Proofs.Ytpaefllhngbimaa
open Go.RowKit

theorem assert76_nil (w : World) : (Instr.typeAssert .nilIface 54 80 true).run Try.prog w = .ok (.tuple #[.agg #[.int .i64 0], .bool false]) w := by kernel_rfl
theorem assert76_burning (v : Value) (w : World) : (Instr.typeAssert (.iface 80 v) 54 80 true).run Try.prog w = .ok (.tuple #[v, .bool true]) w := by kernel_rfl
theorem assert76_burnt (v : Value) (w : World) : (Instr.typeAssert (.iface 104 v) 54 80 true).run Try.prog w = .ok (.tuple #[.agg #[.int .i64 0], .bool false]) w := by kernel_rfl

/-- A burning fuse burns on. -/
def Pm.burn (M : Pm) : Pm := match M.fuse with
  | some (.inl k) => M.light (k - 1)
  | _ => M

theorem hold_any {w : World} {p : Pl} {M : Pm} (h : MemIs w p M) (l : Nat) (hl : 8 * l + 8 ≤ M.seen.length) :
    Calls Try.prog 28 #[.pointer (some ⟨p.b, 0, none⟩), .int .i64 (l : Int)] w fun e w' => e = .returned (.tuple #[]) ∧ ∃ p', To w p w' p' ∧ MemIs w' p' (M.hold l) := by
  by_cases hx : wget M.way l = some none
  · exact hold_yes h l hl hx
  · have hM : M.hold l = M := by
      unfold Pm.hold
      split
      · rename_i h2; exact absurd h2 hx
      · rfl
    rw [hM]
    refine (hold_no h l hx).mono ?_
    rintro e w1 ⟨rfl, hK⟩
    exact ⟨rfl, p, To.still hK, h.kept0 hK⟩

set_option maxHeartbeats 400000 in
theorem step_any {w : World} {p : Pl} {M M1 : Pm} (h : MemIs w p M) (F : FuncId) (caps : Array Value) (hs0 : -1000000000 < M.steps) (hs : M.steps < 1000000000)
    (hcall : ∀ args w, (callFunc F args).run Try.prog w = .ok (.enter F args) w)
    (hwork : ∀ w1, To w p w1 p → MemIs w1 p { M with steps := M.steps + 1 } → Calls Try.prog F (#[.bool M.power] ++ caps) w1 fun e w2 => e = .returned (.tuple #[]) ∧ ∃ p2, To w1 p w2 p2 ∧ MemIs w2 p2 M1) :
    Calls Try.prog 26 #[.pointer (some ⟨p.b, 0, none⟩), .func (.func F) #[] caps] w fun e w' => e = .returned (.tuple #[]) ∧ ∃ p', To w p w' p' ∧ MemIs w' p' M1.burn := by
  have c4 : w.cell? ⟨p.b, 4, none⟩ = some (.int .i64 M.steps) := by simpa using h.cell 4
  have f4 := h.frozen 4
  have HW : Hid (∀ w1, To w p w1 p → MemIs w1 p { M with steps := M.steps + 1 } → Calls Try.prog F (#[.bool M.power] ++ caps) w1 fun e w2 => e = .returned (.tuple #[]) ∧ ∃ p2, To w1 p w2 p2 ∧ MemIs w2 p2 M1) := hwork
  clear hwork
  go_enter Try.func26, Try.ntmps26
  go_wp2_with fail
  have hm := h.setSteps (M.steps + 1)
  refine (power_any hm).mono ?_
  rintro e w1 ⟨rfl, hK⟩
  have hm1 := hm.kept0 hK
  have hto : To w p w1 p := ⟨rfl, ((Kept.refl _ _).setCell (by simp [Pl.blocks]) _).trans hK (by simp), fun k hk => Or.inl hk⟩
  have hpw : ({ M with steps := M.steps + 1 } : Pm).power = M.power := rfl
  go_wp2_with fail
  refine (HW.out w1 hto hm1).mono ?_
  rintro e w2 ⟨rfl, p2, hto2, hm2⟩
  have hto3 := hto.trans hto2
  have hb : p2.b = p.b := hto3.b
  have c3 : w2.cell? ⟨p2.b, 3, none⟩ = some p2.fv := by simpa using hm2.cell 3
  have hf := hm2.fuse
  have HX : Hid (_ ∧ _ ∧ _) := ⟨hto3, hm2, hb⟩
  rw [hb] at c3
  clear c4 f4 hm hK hm1 hto hpw hto2 hto3 hb
  rcases hM : M1.fuse with _ | k | xs
  · rw [hM] at hf
    simp only [FuseIs] at hf
    rw [hf] at c3
    have hB : M1.burn = M1 := by simp [Pm.burn, hM]
    have HB : Hid (_ = _) := hB
    clear hf hM hB hm2
    have ha := assert76_nil
    go_wp2_with fail
    go_end0
    obtain ⟨hto3, hm2, hb⟩ := HX.out
    exact ⟨rfl, p2, hto3.trans (To.still ((Kept.refl _ _).alloc _)), by rw [HB.out]; exact hm2.kept0 ((Kept.refl _ _).alloc _)⟩
  · rw [hM] at hf
    obtain ⟨hf, hk0, hk1⟩ := hf
    rw [hf] at c3
    have hB : M1.burn = M1.light (k - 1) := by simp [Pm.burn, hM]
    have HB : Hid (_ = _) := hB
    clear hf hM hB hm2
    have ha := assert76_burning
    go_wp2_with fail
    obtain ⟨hto3, hm2, hb⟩ := HX.out
    have hm3 := hm2.kept0 ((Kept.refl _ _).alloc (.cells #[.int .i64 k] 80))
    have hl := light_any hm3 (k - 1) (by omega)
    rw [hb] at hl
    refine hl.mono ?_
    rintro e w4 ⟨rfl, p4, hto4, hm4⟩
    have HY : Hid (_ ∧ _) := ⟨hto3.trans ((To.still ((Kept.refl _ _).alloc _)).trans hto4), hm4⟩
    clear hto3 hm2 hb hm3 hto4 hm4 hl
    go_wp2_with fail
    go_end0
    exact ⟨rfl, p4, HY.out.1, by rw [HB.out]; exact HY.out.2⟩
  · rw [hM] at hf
    obtain ⟨f, zf, hf, -⟩ := hf
    rw [hf] at c3
    have hB : M1.burn = M1 := by simp [Pm.burn, hM]
    have HB : Hid (_ = _) := hB
    clear hf hM hB hm2
    have ha := assert76_burnt
    go_wp2_with fail
    go_end0
    obtain ⟨hto3, hm2, hb⟩ := HX.out
    exact ⟨rfl, p2, hto3.trans (To.still ((Kept.refl _ _).alloc _)), by rw [HB.out]; exact hm2.kept0 ((Kept.refl _ _).alloc _)⟩

end Go.Proofs.Ytpaefllhngbimaa
