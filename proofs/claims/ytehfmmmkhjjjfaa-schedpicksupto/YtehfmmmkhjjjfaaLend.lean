/-
  CopyInts, LendInts, KeptInts.
-/
import Derived.Test.YtehfmmmkhjjjfaaSame
namespace Go.Proofs.Ytehfmmmkhjjjfaa
open Go.RowKit
set_option linter.unusedSimpArgs false
set_option linter.unusedVariables false

/-- The first n as a list. -/
def ilist (Z : Nat → Int) (n : Nat) : List Int := (List.range n).map Z

theorem ilist_length (Z : Nat → Int) (n : Nat) : (ilist Z n).length = n := by simp [ilist]

theorem ilist_get (Z : Nat → Int) {n i : Nat} (h : i < n) : (ilist Z n).getD i 0 = Z i := by simp [ilist, List.getD, h]

theorem build0 (w : World) : (Instr.buildSlice 23 0 #[]).run Try.prog w = .ok (.slice (some ⟨w.heap.size, 0, none⟩) 0 0) (w.alloc (.cells #[] 3)) := by kernel_rfl
theorem build2 (w : World) : (Instr.buildSlice 23 2 #[(0, .int .i64 (-7777)), (1, .int .i64 (-8888))]).run Try.prog w = .ok (.slice (some ⟨w.heap.size, 0, none⟩) 2 2) (w.alloc (.cells #[.int .i64 (-7777), .int .i64 (-8888)] 3)) := by kernel_rfl

theorem ints_oneCell (xs : List Int) : ∀ u ∈ xs.map (Value.int .i64), u.oneCell' = true := by
  intro u hu
  simp only [List.mem_map] at hu
  obtain ⟨a, _, rfl⟩ := hu
  rfl

theorem copy_none {w : World} {a : Option Addr} {c : Nat} : Calls Try.prog 20 #[.slice a 0 c] w fun e w' => ∃ v, e = .returned v ∧ Own w' w.heap.size v [] ∧ Still w w' := by
  have hb0 := build0
  go_enter Try.func20, Try.ntmps20
  go_wp2_with (first
    | (at_builtin; refine wpList_append_run _ rfl _ _ 23 23 rfl _ _ rfl rfl _ _ (run_append_none Try.underlying23 (by kernel_rfl) _ _ _ _ _) ?_))
  go_ret
  exact ⟨_, rfl, World.ownsRow_made w #[] 0 (Nat.le_refl _) (by unfold maxLen; omega) (by simp), (Below.refl _ _).alloc (Nat.le_refl _) _⟩

set_option maxHeartbeats 400000 in
theorem copy_some {w : World} {b off n c : Nat} {Z : Nat → Int} (h : ∀ i, i < n → w.cell? ⟨b, off + i, none⟩ = some (.int .i64 (Z i))) (h0 : 0 < n) (hn : n ≤ 1048576) :
    Calls Try.prog 20 #[.slice (some ⟨b, off, none⟩) n c] w fun e w' => ∃ v, e = .returned v ∧ Own w' w.heap.size v (ilist Z n) ∧ Still w w' := by
  have hb0 := build0
  obtain ⟨i0, hi, hz0, hz1, hz2⟩ := info_parts info3
  have hnews : ∀ j u, ((ilist Z n).map (Value.int .i64))[j]? = some u → (w.alloc (.cells #[] 3)).cell? ((⟨b, off, none⟩ : Addr).add j) = some u := fun j u hu => by
    have hj : j < n := by
      rcases Nat.lt_or_ge j n with h1 | h1
      · exact h1
      · rw [List.getElem?_eq_none (by simpa [ilist] using h1)] at hu; cases hu
    rw [show (⟨b, off, none⟩ : Addr).add j = ⟨b, off + j, none⟩ from by unfold Addr.add; split <;> simp_all]
    refine cell_still ((Below.refl _ _).alloc (Nat.le_refl _) _) ?_
    rw [h j hj, ← hu]
    simp [ilist, hj]
  have hone := ints_oneCell (ilist Z n)
  have hlen : ((ilist Z n).map (Value.int .i64)).length = n * 1 := by simp [ilist]
  have hown : (w.alloc (.cells #[] 3)).ownsRow w.heap.size 3 1 (.slice (some ⟨w.heap.size, 0, none⟩) 0 0) 0 [] := World.ownsRow_made w #[] 0 (Nat.le_refl _) (by unfold maxLen; omega) (by simp)
  clear h
  go_enter Try.func20, Try.ntmps20
  go_wp2_with (first
    | (at_builtin; refine wpList_append_lies _ rfl _ _ 23 rfl w.heap.size 3 i0 (.int .i64 0) 1 8 Try.underlying23 hi hz0 hz1 hz2 rfl (by omega) _ 0 [] rfl hown ⟨b, off, none⟩ n c _ rfl hlen hnews hone h0 ?h63 ?hby (by simp) (w.heap.size + 1) (by simp) ?_))
  case h63 => unfold maxLen; omega
  case hby => omega
  intro g cap w1 hown1 hgrow hat hlt
  have HR : Hid (Own w1 w.heap.size (.slice (some ⟨g, 0, none⟩) (0 + n) cap) (ilist Z n) ∧ Still w w1) := by
    refine ⟨?_, ((Below.refl _ _).alloc (Nat.le_refl _) _).grown hgrow (by simp) (fun x hx => (World.ownsRow.lt hown x hx).1)⟩
    have := hown1
    simpa [Own, ilist_length] using this
  clear hown1 hgrow hat hlt hown hlen hone hnews
  go_wp2
  go_ret
  exact ⟨_, rfl, by simpa using HR.out.1, HR.out.2⟩

theorem copy_any {w : World} {a : Option Addr} {n c : Nat} {Z : Nat → Int} (h : Il w a n Z) (hn : n ≤ 1048576) :
    Calls Try.prog 20 #[.slice a n c] w fun e w' => ∃ v, e = .returned v ∧ Own w' w.heap.size v (ilist Z n) ∧ Still w w' := by
  by_cases h0 : n = 0
  · subst h0
    exact copy_none
  · obtain ⟨b, off, rfl, _⟩ := h 0 (by omega)
    refine copy_some (fun i hi => ?_) (by omega) hn
    obtain ⟨b', off', e, hc⟩ := h i hi
    simp only [Option.some.injEq, Addr.mk.injEq, and_true] at e
    obtain ⟨rfl, rfl⟩ := e
    exact hc

set_option maxHeartbeats 400000 in
theorem lend_any {w : World} {a : Option Addr} {n c : Nat} {Z : Nat → Int} (h : Il w a n Z) (hn : n ≤ 1048576) :
    Calls Try.prog 8 #[.slice a n c] w fun e w' => ∃ g cap, e = .returned (.slice (some ⟨g, 0, none⟩) n cap) ∧ n + 2 ≤ cap ∧ Own w' w.heap.size (.slice (some ⟨g, 0, none⟩) (n + 2) cap) (ilist Z n ++ [-7777, -8888]) ∧ Still w w' := by
  have hb2 := build2
  obtain ⟨i0, hi, hz0, hz1, hz2⟩ := info_parts info3
  go_enter Try.func8, Try.ntmps8
  go_wp2_with fail
  refine (copy_any (c := c) h hn).mono ?_
  rintro e w1 ⟨v, rfl, hO, hS⟩
  have hlen := ilist_length Z n
  have hO' := World.ownsRow.alloc hO (.cells #[.int .i64 (-7777), .int .i64 (-8888)] 3)
  have hB1 : w.heap.size ≤ (w1.alloc (.cells #[.int .i64 (-7777), .int .i64 (-8888)] 3)).heap.size := by have := hS.size; simp; omega
  have hnews : ∀ j u, [Value.int .i64 (-7777), .int .i64 (-8888)][j]? = some u → (w1.alloc (.cells #[.int .i64 (-7777), .int .i64 (-8888)] 3)).cell? ((⟨w1.heap.size, 0, none⟩ : Addr).add j) = some u := fun j u hu => by
    rw [add_lit]
    simp only [World.cell?, heap_alloc_new]
    simpa using hu
  have HS : Hid (Still w (w1.alloc (.cells #[.int .i64 (-7777), .int .i64 (-8888)] 3))) := hS.alloc hS.size _
  have hkl : (ilist Z n).length + 2 ≤ 1048578 := by omega
  clear hO hS h
  go_wp2_with (first
    | (at_builtin; refine wpList_append_lies _ rfl _ _ 23 rfl w.heap.size 3 i0 (.int .i64 0) 1 8 Try.underlying23 hi hz0 hz1 hz2 rfl (by omega) _ _ _ rfl hO' ⟨w1.heap.size, 0, none⟩ 2 2 [.int .i64 (-7777), .int .i64 (-8888)] rfl rfl hnews (by simp [Value.oneCell']) (by omega) ?h63 ?hby hB1 _ rfl ?_))
  case h63 => unfold maxLen; omega
  case hby => omega
  intro g cap w2 hown1 hgrow hat hlt
  have hO2 : Own w2 w.heap.size (.slice (some ⟨g, 0, none⟩) (n + 2) cap) (ilist Z n ++ [-7777, -8888]) := by
    have := hown1
    simpa [Own, hlen] using this
  have hcap : n + 2 ≤ cap := by
    rcases hO2.form with ⟨h1, _⟩ | ⟨g', c', cur, h1, _, _, h4, _, _, _⟩
    · cases h1
    · simp only [Value.slice.injEq] at h1
      obtain ⟨-, -, rfl⟩ := h1
      simpa [hlen] using h4
  have HR : Hid (_ ∧ Still w w2) := ⟨hO2, HS.out.grown hgrow hB1 (fun x hx => (World.ownsRow.lt hO' x hx).1)⟩
  clear hO2 hown1 hgrow hat hlt hO' hnews HS
  have c1 : (n : Int) ≤ (cap : Int) := by omega
  have c0 : (0 : Int) ≤ (n : Int) := by omega
  go_wp2
  go_ret
  exact ⟨_, _, rfl, hcap, HR.out⟩

/-- What was lent can be read. -/
theorem lent_il {w : World} {H g n cap : Nat} {Z : Nat → Int} (h : Own w H (.slice (some ⟨g, 0, none⟩) (n + 2) cap) (ilist Z n ++ [-7777, -8888])) : Il w (some ⟨g, 0, none⟩) n Z := fun i hi => by
  refine ⟨g, 0, rfl, ?_⟩
  have := (h.cell i (by simp [ilist_length]; omega)).1
  rw [show (ilist Z n ++ [(-7777 : Int), -8888]).getD i 0 = Z i from by rw [← ilist_get Z hi]; simp [List.getD, List.getElem?_append, ilist_length, hi]] at this
  simpa using this

set_option maxHeartbeats 400000 in
theorem kept_any {w : World} {H g n cap c : Nat} {a : Option Addr} {Z : Nat → Int} (hO : Own w H (.slice (some ⟨g, 0, none⟩) (n + 2) cap) (ilist Z n ++ [-7777, -8888])) (hcap : n + 2 ≤ cap) (h : Il w a n Z) (hn : n ≤ 1048576) :
    Calls Try.prog 15 #[.slice (some ⟨g, 0, none⟩) n cap, .slice a n c] w fun e w' => e = .returned (.bool true) ∧ Still w w' := by
  have hI := lent_il hO
  have x0 := (hO.cell n (by simp [ilist_length])).1
  have x1 := (hO.cell (n + 1) (by simp [ilist_length])).1
  rw [show (ilist Z n ++ [(-7777 : Int), -8888]).getD n 0 = -7777 from by simp [List.getD, List.getElem?_append, ilist_length]] at x0
  rw [show (ilist Z n ++ [(-7777 : Int), -8888]).getD (n + 1) 0 = -8888 from by simp [List.getD, List.getElem?_append, ilist_length]] at x1
  have HC : Hid (_ ∧ _) := ⟨x0, x1⟩
  have HH : Hid (_ ∧ _) := ⟨hI, h⟩
  clear hO hI h x0 x1
  have c1 : (n : Int) + 2 ≤ (cap : Int) := by omega
  have c0 : (0 : Int) ≤ (n : Int) + 2 := by omega
  go_enter Try.func15, Try.ntmps15
  go_wp2_with fail
  refine (sameInts (c1 := cap) (c2 := c) HH.out.1 HH.out.2 hn).mono ?_
  rintro e w1 ⟨rfl, hS⟩
  have y0 := cell_still hS HC.out.1
  have y1 := cell_still hS HC.out.2
  have HS : Hid (_) := hS
  clear hS
  have i0 : (0 : Int) ≤ (n : Int) := by omega
  have i1 : (n : Int) < (n : Int) + 2 := by omega
  have i2 : (n : Int) + 1 < (n : Int) + 2 := by omega
  go_wp2
  go_ret
  exact ⟨rfl, HS.out⟩

end Go.Proofs.Ytehfmmmkhjjjfaa
