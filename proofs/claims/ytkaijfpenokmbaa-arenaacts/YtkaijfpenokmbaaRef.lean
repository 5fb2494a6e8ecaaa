/-
  The reference: NewArena, at, clear1.
-/
import Derived.Test.YtkaijfpenokmbaaFacts
namespace Go.Proofs.Ytkaijfpenokmbaa
open Go.RowKit

set_option maxHeartbeats 1000000 in
theorem rnew_yes (w : World) (n c : Nat) (h0 : 1 ≤ n) (h1 : n ≤ 65536) (c0 : 1 ≤ c) (c1 : c ≤ 8) :
    Calls Try.prog 9 #[.int .i64 (n : Int), .int .i64 (c : Int)] w fun e w' => ∃ p, e = .returned (.tuple #[.pointer (some ⟨p.b, 0, none⟩), .int .i64 0]) ∧ Kept [] w w' ∧ (∀ k ∈ p.blocks, w.heap.size ≤ k) ∧ ArIs 63 w' p (fresh n c) := by
  have m1 := make_words n h1
  have m2 := make_traces c (by omega)
  have d1 : decide ((n : Int) < 1) = false := by simp; omega
  have d2 : decide (65536 < (n : Int)) = false := by simp; omega
  have d3 : decide ((c : Int) < 1) = false := by simp; omega
  have d4 : decide (8 < (c : Int)) = false := by simp; omega
  go_enter Try.func9, Try.ntmps9
  go_wp2
  go_region
  · go_wp2
    go_ret2
    obtain ⟨e1, e2, e3⟩ := three (w := w) (.cells (i64s (List.replicate n 0)) 3) (.cells (List.replicate c (.slice none 0 0)).toArray 51) (.cells #[.slice (some ⟨w.heap.size, 0, none⟩) n n, .slice (some ⟨w.heap.size + 1, 0, none⟩) c c] 63)
    refine ⟨_, rfl, ((((Kept.refl _ _).alloc _).alloc _).alloc _).drew, ?_, fresh_is h0 h1 c0 c1 (by omega) (by omega) (by omega) e1 e2 e3⟩
    intro k hk
    rw [fresh_blocks] at hk
    simp at hk
    omega
  · go_wp2
    go_ret2
    obtain ⟨e1, e2, e3⟩ := three (w := w) (.cells (List.replicate c (.slice none 0 0)).toArray 51) (.cells (i64s (List.replicate n 0)) 3) (.cells #[.slice (some ⟨w.heap.size + 1, 0, none⟩) n n, .slice (some ⟨w.heap.size, 0, none⟩) c c] 63)
    refine ⟨_, rfl, ((((Kept.refl _ _).alloc _).alloc _).alloc _).drew, ?_, fresh_is h0 h1 c0 c1 (by omega) (by omega) (by omega) e2 e1 e3⟩
    intro k hk
    rw [fresh_blocks] at hk
    simp at hk
    omega

set_option maxHeartbeats 1000000 in
theorem rnew_no (w : World) (n c : Int) (h : n < 1 ∨ 65536 < n ∨ c < 1 ∨ 8 < c) :
    Calls Try.prog 9 #[.int .i64 n, .int .i64 c] w fun e w' => e = .returned (.tuple #[.pointer none, .int .i64 200]) ∧ w' = w := by
  by_cases h1 : n < 1
  · have d1 : decide (n < 1) = true := by simp; omega
    go_enter Try.func9, Try.ntmps9
    go_wp2
    go_ret2
    exact ⟨rfl, rfl⟩
  · have d1 : decide (n < 1) = false := by simp; omega
    by_cases h2 : 65536 < n
    · have d2 : decide (65536 < n) = true := by simp; omega
      go_enter Try.func9, Try.ntmps9
      go_wp2
      go_ret2
      exact ⟨rfl, rfl⟩
    · have d2 : decide (65536 < n) = false := by simp; omega
      by_cases h3 : c < 1
      · have d3 : decide (c < 1) = true := by simp; omega
        go_enter Try.func9, Try.ntmps9
        go_wp2
        go_ret2
        exact ⟨rfl, rfl⟩
      · have d3 : decide (c < 1) = false := by simp; omega
        have h4 : 8 < c := by omega
        have d4 : decide (8 < c) = true := by simp; omega
        clear h
        go_enter Try.func9, Try.ntmps9
        go_wp2
        go_ret2
        exact ⟨rfl, rfl⟩


theorem at_yes {w : World} {p : Ap} {A : Ar} (h : ArIs 63 w p A) (c k : Nat) (hc : c < A.traces.length) (hk : k < A.words.length) :
    Calls Try.prog 26 #[.pointer (some ⟨p.b, 0, none⟩), .int .i64 (c : Int), .int .i64 (k : Int)] w fun e w' => e = .returned (.int .i64 0) ∧ w' = w := by
  obtain ⟨c0, c1⟩ := h.cell
  have d1 : decide ((c : Int) < 0) = false := by simp
  have d2 : decide ((k : Int) < 0) = false := by simp
  have i1 : (c : Int) < (A.traces.length : Int) := by omega
  have i2 : (k : Int) < (A.words.length : Int) := by omega
  have d3 : decide ((A.traces.length : Int) ≤ (c : Int)) = false := by simp; omega
  have d4 : decide ((A.words.length : Int) ≤ (k : Int)) = false := by simp; omega
  go_enter Try.func26, Try.ntmps26
  go_wp2
  go_ret
  exact ⟨rfl, rfl⟩

theorem at_nocore {w : World} {p : Ap} {A : Ar} (h : ArIs 63 w p A) (c k : Int) (hc : c < 0 ∨ (A.traces.length : Int) ≤ c) :
    Calls Try.prog 26 #[.pointer (some ⟨p.b, 0, none⟩), .int .i64 c, .int .i64 k] w fun e w' => e = .returned (.int .i64 202) ∧ w' = w := by
  obtain ⟨c0, c1⟩ := h.cell
  by_cases h0 : c < 0
  · have d1 : decide (c < 0) = true := by simp; omega
    go_enter Try.func26, Try.ntmps26
    go_wp2
    go_ret
    exact ⟨rfl, rfl⟩
  · have d1 : decide (c < 0) = false := by simp; omega
    have d2 : decide ((A.traces.length : Int) ≤ c) = true := by simp; omega
    have i1 : ¬ c < (A.traces.length : Int) := by omega
    go_enter Try.func26, Try.ntmps26
    go_wp2
    go_ret
    exact ⟨rfl, rfl⟩

theorem at_noplace {w : World} {p : Ap} {A : Ar} (h : ArIs 63 w p A) (c : Nat) (k : Int) (hc : c < A.traces.length) (hk : k < 0 ∨ (A.words.length : Int) ≤ k) :
    Calls Try.prog 26 #[.pointer (some ⟨p.b, 0, none⟩), .int .i64 (c : Int), .int .i64 k] w fun e w' => e = .returned (.int .i64 201) ∧ w' = w := by
  obtain ⟨c0, c1⟩ := h.cell
  have d1 : decide ((c : Int) < 0) = false := by simp
  have i1 : (c : Int) < (A.traces.length : Int) := by omega
  have d3 : decide ((A.traces.length : Int) ≤ (c : Int)) = false := by simp; omega
  by_cases h0 : k < 0
  · have d4 : decide (k < 0) = true := by simp; omega
    go_enter Try.func26, Try.ntmps26
    go_wp2
    go_ret
    exact ⟨rfl, rfl⟩
  · have d4 : decide (k < 0) = false := by simp; omega
    have d2 : decide ((A.words.length : Int) ≤ k) = true := by simp; omega
    have i2 : ¬ k < (A.words.length : Int) := by omega
    go_enter Try.func26, Try.ntmps26
    go_wp2
    go_ret
    exact ⟨rfl, rfl⟩

theorem rclear_yes {w : World} {p : Ap} {A : Ar} (h : ArIs 63 w p A) (c : Nat) (hc : c < A.traces.length) :
    Calls Try.prog 20 #[.pointer (some ⟨p.b, 0, none⟩), .int .i64 (c : Int)] w fun e w' => e = .returned (.int .i64 0) ∧ ∃ p', ATo [] w p w' p' ∧ ArIs 63 w' p' (A.clear c) := by
  obtain ⟨c0, c1⟩ := h.cell
  obtain ⟨v, hv, hr⟩ := h.row hc
  have sv := h.slot hv
  have fz := block_frozen h.slots c
  have hfin := h.clearSlot c hc
  have j0 : (0 : Int) ≤ (c : Int) := by omega
  have j1 : (c : Int) < (A.traces.length : Int) := by omega
  have d1 : decide ((c : Int) < 0) = false := by simp
  have d3 : decide ((A.traces.length : Int) ≤ (c : Int)) = false := by simp; omega
  have HX : Hid (_) := hfin
  clear hfin hr hv
  go_enter Try.func20, Try.ntmps20
  go_wp2
  go_ret
  exact ⟨rfl, HX.out⟩

theorem rclear_no {w : World} {p : Ap} {A : Ar} (h : ArIs 63 w p A) (c : Int) (hc : c < 0 ∨ (A.traces.length : Int) ≤ c) :
    Calls Try.prog 20 #[.pointer (some ⟨p.b, 0, none⟩), .int .i64 c] w fun e w' => e = .returned (.int .i64 202) ∧ w' = w := by
  obtain ⟨c0, c1⟩ := h.cell
  by_cases h0 : c < 0
  · have d1 : decide (c < 0) = true := by simp; omega
    go_enter Try.func20, Try.ntmps20
    go_wp2
    go_ret
    exact ⟨rfl, rfl⟩
  · have d1 : decide (c < 0) = false := by simp; omega
    have d2 : decide ((A.traces.length : Int) ≤ c) = true := by simp; omega
    have i1 : ¬ c < (A.traces.length : Int) := by omega
    go_enter Try.func20, Try.ntmps20
    go_wp2
    go_ret
    exact ⟨rfl, rfl⟩

theorem rt_nocore {w : World} {p : Ap} {A : Ar} (h : ArIs 63 w p A) (kd c k o z : Int) (hc : c < 0 ∨ (A.traces.length : Int) ≤ c) :
    Calls Try.prog 15 #[.pointer (some ⟨p.b, 0, none⟩), .int .i64 kd, .int .i64 c, .int .i64 k, .int .i64 o, .int .i64 z] w fun e w' => e = .returned (.tuple #[.int .i64 0, .bool false, .int .i64 202]) ∧ w' = w := by
  go_enter Try.func15, Try.ntmps15
  go_wp2_with fail
  refine (at_nocore h c k hc).mono ?_
  rintro e w' ⟨rfl, rfl⟩
  go_wp2
  go_ret3
  exact ⟨rfl, rfl⟩

theorem rt_noplace {w : World} {p : Ap} {A : Ar} (h : ArIs 63 w p A) (kd : Int) (c : Nat) (k o z : Int) (hc : c < A.traces.length) (hk : k < 0 ∨ (A.words.length : Int) ≤ k) :
    Calls Try.prog 15 #[.pointer (some ⟨p.b, 0, none⟩), .int .i64 kd, .int .i64 (c : Int), .int .i64 k, .int .i64 o, .int .i64 z] w fun e w' => e = .returned (.tuple #[.int .i64 0, .bool false, .int .i64 201]) ∧ w' = w := by
  go_enter Try.func15, Try.ntmps15
  go_wp2_with fail
  refine (at_noplace h c k hc hk).mono ?_
  rintro e w' ⟨rfl, rfl⟩
  go_wp2
  go_ret3
  exact ⟨rfl, rfl⟩

theorem note_end {T : TypeId} {w W w1 : World} {p : Ap} {A : Ar} {c gg cap : Nat} {v : Value} {o : Obj} {t0 : List (Int × Bool)} {x : Int × Bool} (hm : ArIs T W p A) (hKW : Kept p.blocks w W) (hv : p.vs[c]? = some v) (ht : t0 = A.traces.getD c [])
    (hown : w1.ownsRow 0 54 2 (.slice (some ⟨gg, 0, none⟩) (t0.length + 1) cap) (t0.length + 1) (acc t0 ++ [.int .i64 x.1, .bool x.2])) (hgrow : (W.alloc o).drew.grownBy w1 v.ownBlock) (hat : v.ownBlock = some gg ∨ gg = W.heap.size + 1) :
    ∃ p', p'.bw = p.bw ∧ ATo [] w p (w1.setCell ⟨p.bt, c, none⟩ (.slice (some ⟨gg, 0, none⟩) (t0.length + 1) cap)) p' ∧ ArIs T (w1.setCell ⟨p.bt, c, none⟩ (.slice (some ⟨gg, 0, none⟩) (t0.length + 1) cap)) p' (A.note c x) := by
  have hK0 : Kept [] W (W.alloc o).drew := ((Kept.refl _ _).alloc _).drew
  have hm1 := hm.kept0 hK0
  have hat2 : ∀ k, Value.ownBlock (.slice (some ⟨gg, 0, none⟩) (t0.length + 1) cap) = some k → v.ownBlock = some k ∨ (W.alloc o).drew.heap.size ≤ k := by
    intro k e
    simp only [Value.ownBlock, Option.some.injEq] at e
    subst e
    rcases hat with h | h
    · exact Or.inl h
    · exact Or.inr (by simp; omega)
  have hrow : Row w1 (.slice (some ⟨gg, 0, none⟩) (t0.length + 1) cap) (t0 ++ [x]) := by
    refine ⟨?_, fun e => by simp at e⟩
    have e1 : (t0 ++ [x]).length = t0.length + 1 := by simp
    have e2 : acc (t0 ++ [x]) = acc t0 ++ [.int .i64 x.1, .bool x.2] := by rw [acc_append]; simp [acc]
    rw [e1, e2]
    exact hown
  have hfin := hm1.setSlot hv (t0 ++ [x]) hgrow hrow hat2
  have hnew := ArIs.setSlot_new (w := (W.alloc o).drew) (p := p) hv hat2
  have hKg : Kept p.blocks W w1 := (hK0.mono (by simp)).grown hgrow (fun k e => Or.inl (by
    simp only [Ap.blocks, List.mem_cons, List.mem_filterMap]
    exact Or.inr (Or.inr (Or.inr ⟨v, List.mem_of_getElem? hv, e⟩))))
  have hKs := hKg.setCell (p := ⟨p.bt, c, none⟩) (Or.inl (by simp [Ap.blocks])) (.slice (some ⟨gg, 0, none⟩) (t0.length + 1) cap)
  refine ⟨{ p with vs := p.vs.set c (.slice (some ⟨gg, 0, none⟩) (t0.length + 1) cap) }, rfl, ⟨rfl, by simpa using hKW.trans hKs (fun x hx => Or.inl hx), fun k hk => ?_⟩, ?_⟩
  · rcases hnew k hk with h | h
    · exact Or.inl h
    · refine Or.inr ?_
      have := hKW.size
      simp at h
      omega
  · unfold Ar.note
    rw [← ht]
    exact hfin

end Go.Proofs.Ytkaijfpenokmbaa
