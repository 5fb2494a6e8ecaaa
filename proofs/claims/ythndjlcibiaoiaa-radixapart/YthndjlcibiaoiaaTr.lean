/-
  A tree of package radix: its arena's traces asked for and cleared; Words of a trace in which nothing is written.
-/
import Derived.Test.YthndjlcibiaoiaaAw
namespace Go.Proofs.Ythndjlcibiaoiaa
open Go.RowKit
set_option linter.unusedVariables false

theorem Row.still2 {w w' : World} {v : Value} {t : List (Int × Bool)} (h : Row w v t) (hk : Kept [] w w') : Row w' v t :=
  h.same fun k hx => hk.block k (h.block k hx) (by simp)

/-- A core's trace forgotten. -/
def tclr (t : Trc) (c : Nat) : Trc := fun d => if d = c then [] else t d

section
variable {I : Trc → Prop} {S : List (Nat × Obj)} {w0 w : World} {b g f k L N : Nat} {W V : Nat → Int}

theorem r_clear (h : Rb I S w0 w b g f k L N W) {I' : Trc → Prop} (c : Nat) (hc : c < k) (hI : ∀ t, I t → I' (tclr t c)) :
    Calls Try.prog 15 #[.pointer (some ⟨b, 0, none⟩), .int .i64 (c : Int)] w fun e w' => e = .returned (.int .i64 0) ∧ Rb I' S w0 w' b g f k L N W := by
  obtain ⟨a1, a2, a3, a4, hS, A, hH, h1, h2, h3, h4, h5⟩ := h
  refine (h_clear hH (c : Int) (by omega) (by omega)).mono ?_
  rintro e w' ⟨rfl, h6⟩
  simp only [Int.toNat_natCast] at h6
  refine ⟨rfl, a1, a2, a3, a4, hS, _, h6, h1, by rw [clear_cores]; exact h2, fun d => ?_, ?_, h5⟩
  · rw [clear_trace _ _ _ (by omega)]
    by_cases e : d = c
    · rw [if_pos e]; exact Nat.zero_le _
    · rw [if_neg e]; exact h3 d
  · have e : (fun d => (A.clear c).traces.getD d []) = tclr (fun d => A.traces.getD d []) c := by
      funext d
      rw [clear_trace _ _ _ (by omega)]
      rfl
    rw [e]
    exact hI _ h4

theorem r_trace (h : Rb I S w0 w b g f k L N W) (c : Nat) (hc : c < k) (hN : N < 100000) :
    Calls Try.prog 17 #[.pointer (some ⟨b, 0, none⟩), .int .i64 (c : Int)] w fun e w' => ∃ u t, e = .returned u ∧ I t ∧ Row w' u (t c) ∧ (t c).length ≤ N ∧ Kept [] w w' := by
  obtain ⟨a1, a2, a3, a4, hS, A, hH, h1, h2, h3, h4, h5⟩ := h
  refine (h_trace hH (c : Int) (by omega) (by omega) (by have := h3 c; simp only [Int.toNat_natCast]; omega)).mono ?_
  rintro e w' ⟨u, he, hr, -, hk⟩
  exact ⟨u, _, he, h4, hr, h3 c, hk⟩

end

set_option maxRecDepth 100000 in
set_option maxHeartbeats 1000000 in
theorem words_some {w : World} {g c : Nat} {t : List (Int × Bool)} (hn : t.length ≤ 200000) (h1 : ∀ j u, (acc t)[j]? = some u → w.cell? ⟨g, j, none⟩ = some u) (hf : ∀ x ∈ t, x.2 = false) :
    Calls Try.prog 19 #[.slice (some ⟨g, 0, none⟩) t.length c, .bool true] w fun e w' => e = .returned (.slice none 0 0) ∧ Kept [] w w' := by
  have HH : Hid (_ ∧ _) := ⟨h1, hf⟩
  clear h1 hf
  go_enter Try.func19, Try.ntmps19
  go_wp2_with fail
  go_loopw [6, 5] (fun i o wr => ∃ n : Nat, n ≤ t.length ∧ i = .int .i64 (n : Int) ∧ o = .slice none 0 0 ∧ Hid (Kept [] w wr)) (fun i _ _ => (t.length - intOf i).toNat)
  case atStart => exact ⟨0, by omega, rfl, rfl, Kept.refl _ _⟩
  case round =>
    obtain ⟨n, hnn, rfl, rfl, HK⟩ := hrel
    by_cases hlt : n < t.length
    · have i0 : (0 : Int) ≤ (n : Int) := by omega
      have i1 : (n : Int) < (t.length : Int) := by omega
      obtain ⟨a0, a1⟩ := acc_get t n t[n] (List.getElem?_eq_getElem hlt)
      have hb := HH.out.2 t[n] (List.getElem_mem hlt)
      rw [hb] at a1
      have y0 := HK.out.cell (HH.out.1 _ _ a1) (by simp)
      clear a0 a1 hb
      go_wp2_with fail
      go_roundw
      case rel => exact ⟨n + 1, by omega, by go_num, rfl, HK.out⟩
      case measure => simp [intOf]; omega
    · have i1 : ¬ (n : Int) < (t.length : Int) := by omega
      go_wp2_with fail
      go_ret
      exact ⟨rfl, HK.out⟩

theorem words_nil (w : World) : Calls Try.prog 19 #[.slice none 0 0, .bool true] w fun e w' => e = .returned (.slice none 0 0) ∧ Kept [] w w' := by
  go_enter Try.func19, Try.ntmps19
  go_wp2_with fail
  go_loopw [6, 5] (fun i o wr => i = .int .i64 0 ∧ o = .slice none 0 0 ∧ wr = w) (fun _ _ _ => 0)
  case atStart => exact ⟨rfl, rfl, rfl⟩
  case round =>
    obtain ⟨rfl, rfl, rfl⟩ := hrel
    go_wp2_with fail
    go_ret
    exact ⟨rfl, Kept.refl _ _⟩

/-- Words that are written, of a trace in which none is. -/
theorem words_none {w : World} {u : Value} {t : List (Int × Bool)} (hu : Row w u t) (hn : t.length ≤ 200000) (hf : ∀ x ∈ t, x.2 = false) :
    Calls Try.prog 19 #[u, .bool true] w fun e w' => e = .returned (.slice none 0 0) ∧ Kept [] w w' := by
  by_cases ht : t = []
  · rw [hu.2 ht]; exact words_nil w
  · obtain ⟨g1, c1, rfl, _, _, h1⟩ := hu.form ht
    exact words_some hn h1 hf

end Go.Proofs.Ythndjlcibiaoiaa
