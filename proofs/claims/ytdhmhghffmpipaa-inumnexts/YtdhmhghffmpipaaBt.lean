/-
  The law's 'both' of two traces that have no word in common.
-/
import Derived.Test.YtdhmhghffmpipaaWords
namespace Go.Proofs.Ytdhmhghffmpipaa
open Go.RowKit

/-- What a row of ints of one's own is to a reader. -/
theorem Own.read {w : World} {H : Nat} {v : Value} {xs : List Int} (h : Own w H v xs) : ∃ a cap, v = .slice a xs.length cap ∧ ∀ i, i < xs.length → ∃ g, a = some ⟨g, 0, none⟩ ∧ w.cell? ⟨g, i, none⟩ = some (.int .i64 (wordAt xs i)) := by
  rcases h.form with ⟨hv, hx⟩ | ⟨g, cap, cur, hv, -⟩
  · subst hv; subst hx
    exact ⟨none, 0, rfl, fun i hi => by simp at hi⟩
  · subst hv
    exact ⟨_, cap, rfl, fun i hi => ⟨g, rfl, h.lies.2.2.2 i hi⟩⟩

theorem wordAt_mem (xs : List Int) (i : Nat) (h : i < xs.length) : wordAt xs i ∈ xs := by
  unfold wordAt
  simp [List.getD, h]

/-- Two traces have no word in common. -/
def Far (t s : List (Int × Bool)) : Prop := ∀ x ∈ t, ∀ y ∈ s, x.1 ≠ y.1

set_option maxRecDepth 100000 in
set_option maxHeartbeats 4000000 in
theorem both_any {w : World} {u v : Value} {t s : List (Int × Bool)} (hu : Row w u t) (hv : Row w v s) (hn : t.length ≤ 200000) (hm : s.length ≤ 200000) (hf : Far t s) :
    Calls Try.prog 13 #[u, v] w fun e w' => e = .returned (.slice none 0 0) ∧ Kept [] w w' := by
  have HU : Hid (_ ∧ _ ∧ _) := ⟨hu, hv, hf⟩
  clear hu hv hf
  go_enter Try.func13, Try.ntmps13
  go_wp2_with fail
  refine (wordsOf_any HU.out.1 hn).mono ?_
  rintro e w1 ⟨o1, xs, rfl, h1, h2, h3, h4⟩
  have H1 : Hid (_ ∧ _ ∧ _) := ⟨h1, h2, h4⟩
  clear h1 h2 h4
  go_wp2_with fail
  refine (wordsOf_any (HU.out.2.1.still H1.out.2.2) hm).mono ?_
  rintro e w2 ⟨o2, ys, rfl, k1, k2, k3, k4⟩
  have hx2 : Own w2 w.heap.size o1 xs := H1.out.1.kept k4
  obtain ⟨a1, cap1, rfl, r1⟩ := hx2.read
  obtain ⟨a2, cap2, rfl, r2⟩ := k1.read
  have hne : ∀ x ∈ xs, ∀ y ∈ ys, x ≠ y := fun x hx y hy e => by
    obtain ⟨p, p1, p2⟩ := H1.out.2.1 x hx
    obtain ⟨q, q1, q2⟩ := k2 y hy
    exact HU.out.2.2 p p1 q q1 (by rw [← p2, ← q2]; exact e)
  have H2 : Hid (_ ∧ _ ∧ _ ∧ _) := ⟨r1, r2, hne, H1.out.2.2.trans k4 (by simp)⟩
  clear hx2 k1 k2 k4 r1 r2 hne HU H1
  go_wp2_with fail
  go_loopw [7, 8] (fun o i wr => ∃ n : Nat, n ≤ xs.length ∧ o = .slice none 0 0 ∧ i = .int .i64 (n : Int) ∧ Hid (Kept [] w2 wr)) (fun _ i _ => (xs.length - intOf i).toNat)
  case atStart => exact ⟨0, by omega, rfl, rfl, Kept.refl _ _⟩
  case round =>
    obtain ⟨n, hnn, rfl, rfl, HK⟩ := hrel
    by_cases hlt : n < xs.length
    · have i0 : (0 : Int) ≤ (n : Int) := by omega
      have i1 : (n : Int) < (xs.length : Int) := by omega
      go_wp2_with fail
      go_loopw [7, 9] (fun o i w3 => ∃ k : Nat, k ≤ ys.length ∧ o = .slice none 0 0 ∧ i = .int .i64 (k : Int) ∧ Hid (Kept [] w2 w3)) (fun _ i _ => (ys.length - intOf i).toNat)
      case atStart => exact ⟨0, by omega, rfl, rfl, HK.out⟩
      case round =>
        obtain ⟨k, hkk, rfl, rfl, HK2⟩ := hrel
        by_cases hlk : k < ys.length
        · have j0 : (0 : Int) ≤ (k : Int) := by omega
          have j1 : (k : Int) < (ys.length : Int) := by omega
          obtain ⟨g1, e1, c1⟩ := H2.out.1 n hlt
          obtain ⟨g2, e2, c2⟩ := H2.out.2.1 k hlk
          subst e1
          subst e2
          have hne := H2.out.2.2.1 _ (wordAt_mem xs n hlt) _ (wordAt_mem ys k hlk)
          have x0 := HK2.out.cell c1 (by simp)
          have y0 := HK2.out.cell c2 (by simp)
          generalize wordAt xs n = z at *
          generalize wordAt ys k = y at *
          have hb : (z == y) = false := by simpa using hne
          clear c1 c2 hne
          go_wp2_with fail
          go_quiet (fail)
          go_wp2
          go_roundw
          case rel => exact ⟨k + 1, by omega, rfl, by go_num, HK2.out.drewN nq⟩
          case measure => simp [intOf]; omega
        · have j1 : ¬ (k : Int) < (ys.length : Int) := by omega
          go_wp2
          go_roundw
          case rel => exact ⟨n + 1, by omega, rfl, by go_num, HK2.out⟩
          case measure => simp [intOf]; omega
    · have i1 : ¬ (n : Int) < (xs.length : Int) := by omega
      go_wp2
      go_ret
      exact ⟨rfl, H2.out.2.2.2.trans HK.out (by simp)⟩

end Go.Proofs.Ytdhmhghffmpipaa
