/-
  slices.Equal over two rows of words.
-/
import Derived.Test.YtpaefllhngbimaaLeaf
import Derived.Deep.QuietTactic
import Derived.BigQuiet
namespace Go.Proofs.Ytpaefllhngbimaa
set_option maxRecDepth 10000
open Go.RowKit

def sameTo (xs ys : List Int) (k : Nat) : Prop := ∀ i, i < k → wordAt xs i = wordAt ys i

def sameB (xs ys : List Int) : Bool := decide (xs = ys)

theorem sameB_true {xs ys : List Int} (hl : xs.length = ys.length) (h : sameTo xs ys xs.length) : sameB xs ys = true := by
  simp only [sameB, decide_eq_true_eq]
  apply List.ext_getElem hl
  intro i h1 h2
  have := h i h1
  simpa [wordAt, List.getD, h1, h2] using this

theorem sameB_false {xs ys : List Int} {k : Nat} (h : wordAt xs k ≠ wordAt ys k) : sameB xs ys = false := by
  simp only [sameB, decide_eq_false_iff_not]
  rintro rfl
  exact h rfl

set_option maxHeartbeats 400000 in
theorem equal_any (w : World) (b1 o1 c1 b2 o2 c2 n : Nat) (xs ys : List Int) (hx : xs.length = n) (hy : ys.length = n) (hn : n ≤ 65536)
    (h1 : ∀ i, i < n → w.cell? ⟨b1, o1 + i, none⟩ = some (.int .u64 (wordAt xs i))) (h2 : ∀ i, i < n → w.cell? ⟨b2, o2 + i, none⟩ = some (.int .u64 (wordAt ys i))) :
    Calls Try.prog 58 #[.slice (some ⟨b1, o1, none⟩) n c1, .slice (some ⟨b2, o2, none⟩) n c2] w fun e w' => e = .returned (.bool (sameB xs ys)) ∧ ∃ k, w' = w.drewN k := by
  go_enter Try.func58, Try.ntmps58
  go_wp2
  go_loopw [13] (fun i wr => ∃ k : Nat, k ≤ n ∧ i = .int .i64 k ∧ sameTo xs ys k ∧ ∃ q, wr = w.drewN q) (fun i _ => n - (intOf i).toNat)
  case atStart => exact ⟨0, Nat.zero_le _, rfl, fun i hi => by omega, 0, rfl⟩
  case round =>
    obtain ⟨k, hk, rfl, hs, q, hq⟩ := hrel
    have HS : Hid (sameTo xs ys k) := hs
    subst hq
    by_cases hlt : k < n
    · have g1 := h1 k hlt
      have g2 := h2 k hlt
      have i0 : (0 : Int) ≤ (k : Int) := by omega
      have i1 : (k : Int) < (n : Int) := by omega
      have H1 : Hid (∀ i, i < n → w.cell? ⟨b1, o1 + i, none⟩ = some (.int .u64 (wordAt xs i))) := h1
      have H2 : Hid (∀ i, i < n → w.cell? ⟨b2, o2 + i, none⟩ = some (.int .u64 (wordAt ys i))) := h2
      clear h1 h2 hs
      go_wp2
      go_quiet (fail)
      by_cases he : wordAt xs k = wordAt ys k
      · have hb : (wordAt xs k != wordAt ys k) = false := by simp [he]
        have HE : Hid (wordAt xs k = wordAt ys k) := he
        clear he
        go_wp2
        go_roundw
        case rel => exact ⟨k + 1, by omega, by go_num, fun i hi => by
          by_cases hik : i = k
          · subst hik; exact HE.out
          · exact HS.out i (by omega), _, by first | rfl | exact World.drewN_drewN _ _ _⟩
        case measure => simp [intOf]; omega
      · have hb : (wordAt xs k != wordAt ys k) = true := by simp [he]
        have HE : Hid (wordAt xs k ≠ wordAt ys k) := he
        clear he
        go_wp2
        go_ret
        exact ⟨by rw [sameB_false HE.out]; rfl, _, by first | rfl | exact World.drewN_drewN _ _ _⟩
    · go_wp2
      go_ret
      have hfin : sameB xs ys = true := sameB_true (by omega) (fun i hi => HS.out i (by omega))
      exact ⟨by rw [hfin]; rfl, _, rfl⟩

end Go.Proofs.Ytpaefllhngbimaa
