/-
  SpoilAccesss, traces.
-/
import Derived.Test.YtkaijfpenokmbaaRef
namespace Go.Proofs.Ytkaijfpenokmbaa
open Go.RowKit

theorem spoil_nil (w : World) : Calls Try.prog 31 #[.slice none 0 0] w fun e w' => e = .returned (.tuple #[]) ∧ Kept [] w w' := by
  go_enter Try.func31, Try.ntmps31
  go_wp2_with fail
  go_loopw [2] (fun i wr => i = .int .i64 0 ∧ wr = w) (fun _ _ => 0)
  case atStart => exact ⟨rfl, rfl⟩
  case round =>
    obtain ⟨rfl, rfl⟩ := hrel
    go_wp2
    go_end0
    exact ⟨rfl, Kept.refl _ _⟩

set_option maxHeartbeats 1000000 in
theorem spoil_some {w : World} {g c1 : Nat} {cs : Array Value} {t : List (Int × Bool)} (hn : t.length < 1000000) (hg : w.heap[g]? = some (.cells cs 54 (0, 0))) (h1 : ∀ j u, (acc t)[j]? = some u → w.cell? ⟨g, j, none⟩ = some u) :
    Calls Try.prog 31 #[.slice (some ⟨g, 0, none⟩) t.length c1] w fun e w' => e = .returned (.tuple #[]) ∧ Kept [g] w w' := by
  have HH : Hid (_) := h1
  have HG : Hid (∃ cs, w.heap[g]? = some (.cells cs 54 (0, 0))) := ⟨cs, hg⟩
  clear h1 hg
  go_enter Try.func31, Try.ntmps31
  go_wp2_with fail
  go_loopw [2] (fun i wr => ∃ k : Nat, k ≤ t.length ∧ i = .int .i64 (k : Int) ∧ Hid (Kept [g] w wr ∧ (∃ cs, wr.heap[g]? = some (.cells cs 54 (0, 0))) ∧ ∀ j, k * 2 ≤ j → wr.cell? ⟨g, j, none⟩ = w.cell? ⟨g, j, none⟩)) (fun i _ => (t.length - intOf i).toNat)
  case atStart => exact ⟨0, by omega, rfl, Kept.refl _ _, HG.out, fun _ _ => rfl⟩
  case round =>
    obtain ⟨k, hk, rfl, HK⟩ := hrel
    by_cases hlt : k < t.length
    · have k0 : (0 : Int) ≤ (k : Int) := by omega
      have k1 : (k : Int) < (t.length : Int) := by omega
      obtain ⟨a0, -⟩ := acc_get t k t[k] (List.getElem?_eq_getElem hlt)
      have x0 := (HK.out.2.2 (k * 2) (Nat.le_refl _)).trans (HH.out _ _ a0)
      obtain ⟨cs2, hc2⟩ := HK.out.2.1
      have f0 := block_frozen hc2 (k * 2)
      have HC : Hid (_) := hc2
      clear a0 hc2
      generalize (t[k]).1 = z at *
      go_wp2_with fail
      go_roundw
      case rel =>
        refine ⟨k + 1, by omega, by go_num, HK.out.1.setCell (by simp) _, ⟨_, block_set HC.out _⟩, fun j hj => ?_⟩
        rw [World.cell?_setCell_other _ _ _ _ (by simp <;> omega)]
        exact HK.out.2.2 j (by omega)
      case measure => simp [intOf]; omega
    · have k1 : ¬ (k : Int) < (t.length : Int) := by omega
      go_wp2
      go_end0
      exact ⟨rfl, HK.out.1⟩

/-- What is spoilt is the slice's own. -/
theorem spoil_any {w : World} {v : Value} {t : List (Int × Bool)} (hn : t.length < 1000000) (h : Row w v t) :
    Calls Try.prog 31 #[v] w fun e w' => e = .returned (.tuple #[]) ∧ ∃ F : List Nat, (∀ k ∈ F, v.ownBlock = some k) ∧ Kept F w w' := by
  by_cases ht : t = []
  · rw [h.2 ht]
    refine (spoil_nil w).mono ?_
    rintro e w' ⟨rfl, hk⟩
    exact ⟨rfl, [], by simp, hk⟩
  · have hf := h.form ht
    rcases h.1.2 with ⟨h2, h3⟩ | ⟨g, cap, cur, rfl, _, hg, _⟩
    · exact absurd (List.length_eq_zero_iff.1 h3) ht
    · obtain ⟨g2, c2, h4, _, _, h5⟩ := hf
      cases h4
      refine (spoil_some hn hg h5).mono ?_
      rintro e w' ⟨rfl, hk⟩
      exact ⟨rfl, [g], by simp [Value.ownBlock], hk⟩

end Go.Proofs.Ytkaijfpenokmbaa
