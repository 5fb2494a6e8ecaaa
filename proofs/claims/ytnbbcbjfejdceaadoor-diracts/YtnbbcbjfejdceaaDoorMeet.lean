/-
  Meet of two traces that have no word in common that one of them writes.
-/
import Derived.Test.YtnbbcbjfejdceaaDoorFacts
namespace Go.Proofs.YtnbbcbjfejdceaaDoor
open Go.RowKit

/-- Two traces have no word in common that one of them writes. -/
def Far (t s : List (Int × Bool)) : Prop := ∀ x ∈ t, ∀ y ∈ s, x.1 ≠ y.1 ∨ (x.2 = false ∧ y.2 = false)

set_option maxHeartbeats 4000000 in
theorem meet_some {w : World} {g1 g2 c1 c2 : Nat} {t s : List (Int × Bool)} (hn : t.length ≤ 200000) (hm : s.length ≤ 200000) (h1 : ∀ j u, (acc t)[j]? = some u → w.cell? ⟨g1, j, none⟩ = some u) (h2 : ∀ j u, (acc s)[j]? = some u → w.cell? ⟨g2, j, none⟩ = some u) (hf : Far t s) :
    Calls Tryd.prog 22 #[.slice (some ⟨g1, 0, none⟩) t.length c1, .slice (some ⟨g2, 0, none⟩) s.length c2] w fun e w' => e = .returned (.bool false) ∧ Kept [] w w' := by
  have HH : Hid (_ ∧ _ ∧ _) := ⟨h1, h2, hf⟩
  clear h1 h2 hf
  go_enter Tryd.func22, Tryd.ntmps22
  go_wp2_with fail
  go_loopw [5] (fun i wr => ∃ n : Nat, n ≤ t.length ∧ i = .int .i64 (n : Int) ∧ Hid (Kept [] w wr)) (fun i _ => (t.length - intOf i).toNat)
  case atStart => exact ⟨0, by omega, rfl, Kept.refl _ _⟩
  case round =>
    obtain ⟨n, hnn, rfl, HK⟩ := hrel
    by_cases hlt : n < t.length
    · have i0 : (0 : Int) ≤ (n : Int) := by omega
      have i1 : (n : Int) < (t.length : Int) := by omega
      go_wp2_with fail
      go_loopw [6] (fun i w2 => ∃ k : Nat, k ≤ s.length ∧ i = .int .i64 (k : Int) ∧ Hid (Kept [] w w2)) (fun i _ => (s.length - intOf i).toNat)
      case atStart => exact ⟨0, by omega, rfl, HK.out⟩
      case round =>
        obtain ⟨k, hkk, rfl, HK2⟩ := hrel
        by_cases hlk : k < s.length
        · have j0 : (0 : Int) ≤ (k : Int) := by omega
          have j1 : (k : Int) < (s.length : Int) := by omega
          obtain ⟨a0, a1⟩ := acc_get t n t[n] (List.getElem?_eq_getElem hlt)
          obtain ⟨b0, b1⟩ := acc_get s k s[k] (List.getElem?_eq_getElem hlk)
          have hne := HH.out.2.2 t[n] (List.getElem_mem hlt) s[k] (List.getElem_mem hlk)
          have x0 := HK2.out.cell (HH.out.1 _ _ a0) (by simp)
          have y0 := HK2.out.cell (HH.out.2.1 _ _ b0) (by simp)
          have x1 := HK2.out.cell (HH.out.1 _ _ a1) (by simp)
          have y1 := HK2.out.cell (HH.out.2.1 _ _ b1) (by simp)
          generalize (t[n]).1 = z at *
          generalize (s[k]).1 = y at *
          generalize (t[n]).2 = zw at *
          generalize (s[k]).2 = yw at *
          clear a0 a1 b0 b1
          by_cases he : z = y
          · obtain ⟨rfl, rfl⟩ : zw = false ∧ yw = false := by
              rcases hne with h3 | h3
              · exact absurd he h3
              · exact h3
            subst he
            clear hne
            go_wp2_with fail
            go_quiet (fail)
            go_wp2
            go_roundw
            case rel => exact ⟨k + 1, by omega, by go_num, HK2.out.drewN nq⟩
            case measure => simp [intOf]; omega
          · have hb : (z == y) = false := by simpa using he
            clear hne he
            go_wp2_with fail
            go_quiet (fail)
            go_wp2
            go_roundw
            case rel => exact ⟨k + 1, by omega, by go_num, HK2.out.drewN nq⟩
            case measure => simp [intOf]; omega
        · have j1 : ¬ (k : Int) < (s.length : Int) := by omega
          go_wp2
          go_roundw
          case rel => exact ⟨n + 1, by omega, by go_num, HK2.out⟩
          case measure => simp [intOf]; omega
    · have i1 : ¬ (n : Int) < (t.length : Int) := by omega
      go_wp2
      go_ret
      exact ⟨rfl, HK.out⟩

theorem meet_nil1 (w : World) (v : Value) : Calls Tryd.prog 22 #[.slice none 0 0, v] w fun e w' => e = .returned (.bool false) ∧ Kept [] w w' := by
  go_enter Tryd.func22, Tryd.ntmps22
  go_wp2_with fail
  go_loopw [5] (fun i wr => i = .int .i64 0 ∧ wr = w) (fun _ _ => 0)
  case atStart => exact ⟨rfl, rfl⟩
  case round =>
    obtain ⟨rfl, rfl⟩ := hrel
    go_wp2
    go_ret
    exact ⟨rfl, Kept.refl _ _⟩

theorem meet_nil2 {w : World} {g1 n1 c1 : Nat} (hn : n1 ≤ 200000) : Calls Tryd.prog 22 #[.slice (some ⟨g1, 0, none⟩) n1 c1, .slice none 0 0] w fun e w' => e = .returned (.bool false) ∧ Kept [] w w' := by
  go_enter Tryd.func22, Tryd.ntmps22
  go_wp2_with fail
  go_loopw [5] (fun i wr => ∃ n : Nat, n ≤ n1 ∧ i = .int .i64 (n : Int) ∧ Hid (Kept [] w wr)) (fun i _ => (n1 - intOf i).toNat)
  case atStart => exact ⟨0, by omega, rfl, Kept.refl _ _⟩
  case round =>
    obtain ⟨n, hnn, rfl, HK⟩ := hrel
    by_cases hlt : n < n1
    · have i1 : (n : Int) < (n1 : Int) := by omega
      go_wp2_with fail
      go_loopw [6] (fun i w2 => i = .int .i64 0 ∧ Hid (Kept [] w w2)) (fun _ _ => 0)
      case atStart => exact ⟨rfl, HK.out⟩
      case round =>
        obtain ⟨rfl, HK2⟩ := hrel
        go_wp2
        go_roundw
        case rel => exact ⟨n + 1, by omega, by go_num, HK2.out⟩
        case measure => simp [intOf]; omega
    · have i1 : ¬ (n : Int) < (n1 : Int) := by omega
      go_wp2
      go_ret
      exact ⟨rfl, HK.out⟩

theorem meet_any {w : World} {u v : Value} {t s : List (Int × Bool)} (hu : Row w u t) (hv : Row w v s) (hn : t.length ≤ 200000) (hm : s.length ≤ 200000) (hf : Far t s) :
    Calls Tryd.prog 22 #[u, v] w fun e w' => e = .returned (.bool false) ∧ Kept [] w w' := by
  by_cases ht : t = []
  · rw [hu.2 ht]; exact meet_nil1 w v
  · obtain ⟨g1, c1, rfl, _, _, h1⟩ := hu.form ht
    by_cases hs : s = []
    · rw [hv.2 hs]; exact meet_nil2 hn
    · obtain ⟨g2, c2, rfl, _, _, h2⟩ := hv.form hs
      exact meet_some hn hm h1 h2 hf

end Go.Proofs.YtnbbcbjfejdceaaDoor
