/-
  What the small functions of package pmem do: lineOf, lines, Words, Steps, Stores, Load, power.
-/
import Derived.Test.YtpaefllhngbimaaBase
namespace Go.Proofs.Ytpaefllhngbimaa
open Go.RowKit

set_option maxHeartbeats 400000 in
theorem lines_any {w : World} {p : Pl} {M : Pm} (h : MemIs w p M) :
    Calls Try.prog 29 #[.pointer (some ⟨p.b, 0, none⟩)] w fun e w' => e = .returned (.int .i64 ((M.seen.length / 8 : Nat) : Int)) ∧ w' = w := by
  have c0 : w.cell? ⟨p.b, 0, none⟩ = some (.slice (some ⟨p.bs, 0, none⟩) M.seen.length (M.seen.length + p.zs.length)) := by simpa using h.cell 0
  have hi := h.ok.hi
  go_enter Try.func29, Try.ntmps29
  go_wp2
  go_ret
  exact ⟨rfl, rfl⟩

set_option maxHeartbeats 400000 in
theorem words_any {w : World} {p : Pl} {M : Pm} (h : MemIs w p M) :
    Calls Try.prog 49 #[.pointer (some ⟨p.b, 0, none⟩)] w fun e w' => e = .returned (.int .i64 (M.seen.length : Int)) ∧ w' = w := by
  have c0 : w.cell? ⟨p.b, 0, none⟩ = some (.slice (some ⟨p.bs, 0, none⟩) M.seen.length (M.seen.length + p.zs.length)) := by simpa using h.cell 0
  go_enter Try.func49, Try.ntmps49
  go_wp2
  go_ret
  exact ⟨rfl, rfl⟩

set_option maxHeartbeats 400000 in
set_option maxHeartbeats 400000 in
theorem stores_any {w : World} {p : Pl} {M : Pm} (h : MemIs w p M) :
    Calls Try.prog 18 #[.pointer (some ⟨p.b, 0, none⟩)] w fun e w' => e = .returned (.int .i64 M.stores) ∧ w' = w := by
  have c5 : w.cell? ⟨p.b, 5, none⟩ = some (.int .i64 M.stores) := by simpa using h.cell 5
  go_enter Try.func18, Try.ntmps18
  go_wp2
  go_ret
  exact ⟨rfl, rfl⟩

set_option maxHeartbeats 400000 in
theorem load_yes {w : World} {p : Pl} {M : Pm} (h : MemIs w p M) (a : Int) (h0 : 0 ≤ a) (h1 : a < M.seen.length) :
    Calls Try.prog 38 #[.pointer (some ⟨p.b, 0, none⟩), .int .i64 a] w fun e w' => e = .returned (.tuple #[.int .u64 (wordAt M.seen a.toNat), .int .i64 0]) ∧ w' = w := by
  have c0 : w.cell? ⟨p.b, 0, none⟩ = some (.slice (some ⟨p.bs, 0, none⟩) M.seen.length (M.seen.length + p.zs.length)) := by simpa using h.cell 0
  have hi := h.ok.hi
  have hc : w.cell? ⟨p.bs, a.toNat, none⟩ = some (.int .u64 (wordAt M.seen a.toNat)) := row_word h.seen (by omega)
  go_enter Try.func38, Try.ntmps38
  go_wp2
  go_ret2
  exact ⟨rfl, rfl⟩

set_option maxHeartbeats 400000 in
theorem load_no {w : World} {p : Pl} {M : Pm} (h : MemIs w p M) (a : Int) (h0 : a < 0 ∨ (M.seen.length : Int) ≤ a) :
    Calls Try.prog 38 #[.pointer (some ⟨p.b, 0, none⟩), .int .i64 a] w fun e w' => e = .returned (.tuple #[.int .u64 0, .int .i64 101]) ∧ w' = w := by
  have c0 : w.cell? ⟨p.b, 0, none⟩ = some (.slice (some ⟨p.bs, 0, none⟩) M.seen.length (M.seen.length + p.zs.length)) := by simpa using h.cell 0
  by_cases hn : a < 0
  · go_enter Try.func38, Try.ntmps38
    go_wp2
    go_ret2
    exact ⟨rfl, rfl⟩
  · have hn' : (M.seen.length : Int) ≤ a := by omega
    go_enter Try.func38, Try.ntmps38
    go_wp2
    go_ret2
    exact ⟨rfl, rfl⟩

set_option maxHeartbeats 400000 in
theorem lineOf_any (w : World) (b n c : Nat) (l : Int) (h0 : 0 ≤ l) (h1 : 8 * l + 8 ≤ n) (hn : n ≤ 65536) (hc : n ≤ c) :
    Calls Try.prog 48 #[.slice (some ⟨b, 0, none⟩) n c, .int .i64 l] w fun e w' => e = .returned (.slice (some ⟨b, 8 * l.toNat, none⟩) 8 (c - 8 * l.toNat)) ∧ w' = w := by
  have e1 : (l * 8).toNat = 8 * l.toNat := by omega
  have e2 : ((l + 1) * 8).toNat - 8 * l.toNat = 8 := by omega
  have H1 : Hid (_ ∧ _) := ⟨e1, e2⟩
  clear e1 e2
  go_enter Try.func48, Try.ntmps48
  go_wp2
  go_ret
  refine ⟨congrArg Ending.returned ?_, rfl⟩
  show Value.slice (some ⟨b, (l * 8).toNat, none⟩) (((l + 1) * 8).toNat - (l * 8).toNat) (c - (l * 8).toNat) = _
  rw [H1.out.1, H1.out.2]

/-- Whether the power is there. -/
def Pm.power (M : Pm) : Bool := match M.fuse with
  | some (.inr _) => false
  | _ => true

theorem assert71_nil (w : World) : (Instr.typeAssert .nilIface 54 104 true).run Try.prog w = .ok (.tuple #[.agg #[.slice none 0 0], .bool false]) w := by kernel_rfl
theorem assert71_burning (k : Int) (w : World) : (Instr.typeAssert (.iface 80 (.agg #[.int .i64 k])) 54 104 true).run Try.prog w = .ok (.tuple #[.agg #[.slice none 0 0], .bool false]) w := by kernel_rfl
theorem assert71_burnt (v : Value) (w : World) : (Instr.typeAssert (.iface 104 v) 54 104 true).run Try.prog w = .ok (.tuple #[v, .bool true]) w := by kernel_rfl

set_option maxHeartbeats 400000 in
theorem power_any {w : World} {p : Pl} {M : Pm} (h : MemIs w p M) :
    Calls Try.prog 46 #[.pointer (some ⟨p.b, 0, none⟩)] w fun e w' => e = .returned (.bool M.power) ∧ Kept [] w w' := by
  have c3 : w.cell? ⟨p.b, 3, none⟩ = some p.fv := by simpa using h.cell 3
  have hf := h.fuse
  rcases hM : M.fuse with _ | k | xs
  · rw [hM] at hf
    simp only [FuseIs] at hf
    rw [hf] at c3
    have hp : M.power = true := by simp [Pm.power, hM]
    clear hf hM
    have ha := assert71_nil
    go_enter Try.func46, Try.ntmps46
    go_wp2
    go_ret
    exact ⟨by rw [hp]; rfl, (Kept.refl _ _).alloc _⟩
  · rw [hM] at hf
    obtain ⟨hf, -⟩ := hf
    rw [hf] at c3
    have hp : M.power = true := by simp [Pm.power, hM]
    clear hf hM
    have ha := assert71_burning
    go_enter Try.func46, Try.ntmps46
    go_wp2
    go_ret
    exact ⟨by rw [hp]; rfl, (Kept.refl _ _).alloc _⟩
  · rw [hM] at hf
    obtain ⟨f, zf, hf, -⟩ := hf
    rw [hf] at c3
    have hp : M.power = false := by simp [Pm.power, hM]
    clear hf hM
    have ha := assert71_burnt
    go_enter Try.func46, Try.ntmps46
    go_wp2
    go_ret
    exact ⟨by rw [hp]; rfl, (Kept.refl _ _).alloc _⟩

/-- The words as they are seen, or as they were at the fuse's end. -/
def Pm.withPower (M : Pm) : List Int := match M.fuse with
  | some (.inr xs) => xs
  | _ => M.seen

/-- What seenWithPower hands back. -/
def Pm.handsOut (M : Pm) (w : World) (p : Pl) (e : Ending) : Prop := ∃ f zf, e = .returned (.slice (some ⟨f, 0, none⟩) M.seen.length (M.seen.length + zf)) ∧
      (∃ ys : List Value, ys.length = zf ∧ w.heap[f]? = some (.cells (row M.withPower ys) 29 (0, 0))) ∧ M.withPower.length = M.seen.length ∧ f ≠ p.b ∧ f ≠ p.bl ∧ f ∉ vb p.mv

set_option maxHeartbeats 400000 in
theorem seenWithPower_any {w : World} {p : Pl} {M : Pm} (h : MemIs w p M) :
    Calls Try.prog 42 #[.pointer (some ⟨p.b, 0, none⟩)] w fun e w' => Kept [] w w' ∧ M.handsOut w p e := by
  have c3 : w.cell? ⟨p.b, 3, none⟩ = some p.fv := by simpa using h.cell 3
  have c0 : w.cell? ⟨p.b, 0, none⟩ = some (.slice (some ⟨p.bs, 0, none⟩) M.seen.length (M.seen.length + p.zs.length)) := by simpa using h.cell 0
  have hb := lt_of_heap h.main
  have hf := h.fuse
  have hap := h.apart
  simp only [Pl.blocks, List.nodup_cons, List.mem_cons, List.mem_append, not_or] at hap
  have hno : M.withPower = M.seen → M.handsOut w p (.returned (.slice (some ⟨p.bs, 0, none⟩) M.seen.length (M.seen.length + p.zs.length))) := fun hp =>
    ⟨p.bs, p.zs.length, rfl, ⟨p.zs, rfl, by rw [hp]; exact h.seen⟩, by rw [hp], fun e => hap.1.1 e.symm, hap.2.1.1, hap.2.1.2.1⟩
  rcases hM : M.fuse with _ | k | xs
  · rw [hM] at hf
    simp only [FuseIs] at hf
    rw [hf] at c3
    have hfin := hno (by simp [Pm.withPower, hM])
    clear hf hM hno hap
    have ha := assert71_nil
    go_enter Try.func42, Try.ntmps42
    go_wp2
    go_ret
    exact ⟨(Kept.refl _ _).alloc _, hfin⟩
  · rw [hM] at hf
    obtain ⟨hf, -⟩ := hf
    rw [hf] at c3
    have hfin := hno (by simp [Pm.withPower, hM])
    clear hf hM hno hap
    have ha := assert71_burning
    go_enter Try.func42, Try.ntmps42
    go_wp2
    go_ret
    exact ⟨(Kept.refl _ _).alloc _, hfin⟩
  · rw [hM] at hf
    obtain ⟨f, zf, hfv, hrow, hl⟩ := hf
    rw [hfv] at c3
    rw [hfv] at hap
    have hfin : M.handsOut w p (.returned (.slice (some ⟨f, 0, none⟩) M.seen.length (M.seen.length + zf.length))) := by
      have hp : M.withPower = xs := by simp [Pm.withPower, hM]
      simp only [vb] at hap
      refine ⟨f, zf.length, rfl, ⟨zf, rfl, by rw [hp]; exact hrow⟩, by rw [hp]; exact hl, ?_⟩
      have h3 := hap.2.2.2
      rw [List.nodup_append] at h3
      simp at hap h3
      refine ⟨fun e => hap.1.2.2.2 e.symm, fun e => hap.2.2.1.2 e.symm, fun e => ?_⟩
      exact h3.2 _ e rfl
    rw [hl] at c3
    clear hfv hM hno hap hrow
    have ha := assert71_burnt
    go_enter Try.func42, Try.ntmps42
    go_wp2
    go_ret
    exact ⟨(Kept.refl _ _).alloc _, hfin⟩

end Go.Proofs.Ytpaefllhngbimaa
