/-
  Fuses and quiet memories.
-/
import Derived.Test.YtpaefllhngbimaaJb
namespace Go.Proofs.Ytpaefllhngbimaa
open Go.RowKit
set_option linter.unusedVariables false

theorem fuse_quiet {M : Pm} (hc : Clean M M.seen) (hf : FuseOk M) (k : Int) (hk : 0 ≤ k) : Clean (M.setFuse k) (M.setFuse k).seen ∧ FuseOk (M.setFuse k) ∧ (M.setFuse k).seen = M.seen := by
  have hs := setFuse_seen M k
  have hpw : M.power = true → M.setFuse k = M.light k := fun h => by simp [Pm.setFuse, h]
  have key : Clean (M.light k) (M.light k).seen ∧ FuseOk (M.light k) := by
    unfold Pm.light
    by_cases h0 : 0 < k
    · rw [if_pos h0]
      exact ⟨⟨rfl, hc.lasts, hc.way⟩, Or.inr (Or.inl ⟨k, h0, rfl⟩)⟩
    · rw [if_neg h0]
      exact ⟨⟨rfl, hc.lasts, rfl⟩, Or.inr (Or.inr rfl)⟩
  rcases hf with h | ⟨q, hq, h⟩ | h
  · rw [hpw (by simp [Pm.power, h])]
    exact ⟨key.1, key.2, light_seen M k⟩
  · rw [hpw (by simp [Pm.power, h])]
    exact ⟨key.1, key.2, light_seen M k⟩
  · have : M.setFuse k = M := by simp [Pm.setFuse, Pm.power, h]
    rw [this]
    exact ⟨hc, Or.inr (Or.inr h), rfl⟩

/-- A Write (or New) under a fuse, and a crash: what lies there is quiet, with the one text or the other. -/
theorem cut_quiet {M : Pm} {f n : Nat} {t : ByteArray} (h : Quiet M f n t) (hf : FuseOk M) {s : ByteArray} (hs : s.size ≤ roomOf n) (keep : Int) :
    (Quiet ((M.run (replOps M.seen f n s)).crash keep) f n t ∨ Quiet ((M.run (replOps M.seen f n s)).crash keep) f n s) ∧ ((M.run (replOps M.seen f n s)).crash keep).fuse = none := by
  obtain ⟨hl, -⟩ := crash_repl h.clean hf h.rng h.fits hs keep
  have hx := hl.fits h.fits
  refine ⟨?_, rfl⟩
  rcases hl.look h.fits hs with e | e
  · exact Or.inl ⟨crash_clean _ _, hl.rng, hx, e.trans h.look⟩
  · exact Or.inr ⟨crash_clean _ _, hl.rng, hx, e⟩

theorem top_i64 {n : Int} (h : (Lit.int .i64 n).wf = true) : n ≤ 9223372036854775807 := by
  simp [Lit.wf, IntKind.min, IntKind.max, IntKind.signed, IntKind.bits] at h
  omega

theorem empty_list : (ByteArray.mk #[]).toList.isEmpty = true := by rw [ByteArray.toList_eq]; rfl

end Go.Proofs.Ytpaefllhngbimaa
