/-
  slices.Clone over accesses, Trace, SameAccesss.
-/
import Derived.Test.YtolbjmckebicfaaNew
import Derived.OwnWalk
namespace Go.Proofs.Ytolbjmckebicfaa
open Go.RowKit

theorem build0 (w : World) : (Instr.buildSlice 44 0 #[]).run Try.prog w = .ok (.slice (some ⟨w.heap.size, 0, none⟩) 0 0) (w.alloc (.cells #[] 63)) := by kernel_rfl

theorem acc_oneCell (t : List (Int × Bool)) : ∀ u ∈ acc t, u.oneCell' = true := by
  intro u hu
  simp only [acc, List.mem_flatMap] at hu
  obtain ⟨a, _, hu⟩ := hu
  simp at hu
  rcases hu with rfl | rfl <;> rfl

/-- What a slice that holds accesses looks like. -/
theorem Row.form {w : World} {v : Value} {t : List (Int × Bool)} (h : Row w v t) (ht : t ≠ []) : ∃ g cap, v = .slice (some ⟨g, 0, none⟩) t.length cap ∧ g < w.heap.size ∧ t.length ≤ cap ∧ ∀ j u, (acc t)[j]? = some u → w.cell? ⟨g, j, none⟩ = some u := by
  obtain ⟨g, cap, rfl, -, hlt⟩ := h.1.form (by have := List.length_pos_iff.2 ht; omega)
  refine ⟨g, cap, rfl, hlt, ?_, fun j u hu => ?_⟩
  · rcases h.1.2 with ⟨h2, _⟩ | ⟨g', cap', cur, h2, _, h3, h4, _, h5, h6⟩
    · cases h2
    · cases h2; exact h4
  · have := h.1.cells (g := g) rfl j u hu
    rwa [show (⟨g, 0, none⟩ : Addr).add j = ⟨g, j, none⟩ from by unfold Addr.add; split <;> simp_all] at this

theorem clone_none (w : World) : Calls Try.prog 27 #[.slice none 0 0] w fun e w' => e = .returned (.slice none 0 0) ∧ w' = w := by
  have hne := fun (w : World) => Lib.run_eql_slice_nil (P := Try.prog) w
  go_enter Try.func27, Try.ntmps27
  go_wp2
  go_ret
  exact ⟨rfl, rfl⟩

set_option maxHeartbeats 400000 in
theorem clone_some {w : World} {v : Value} {t : List (Int × Bool)} (h : Row w v t) (ht : t ≠ []) (hn : t.length < 1000000) :
    Calls Try.prog 27 #[v] w fun e w' => ∃ u, e = .returned u ∧ Row w' u t ∧ (∀ k, u.ownBlock = some k → w.heap.size ≤ k) ∧ Kept [] w w' := by
  obtain ⟨b, c, rfl, hb, hc, hcell⟩ := h.form ht
  have h0 : 0 < t.length := List.length_pos_iff.2 ht
  have hnews : ∀ j u, (acc t)[j]? = some u → (w.alloc (.cells #[] 63)).cell? ((⟨b, 0, none⟩ : Addr).add j) = some u := fun j u hu => by
    rw [show (⟨b, 0, none⟩ : Addr).add j = ⟨b, j, none⟩ from by unfold Addr.add; split <;> simp_all]
    exact ((Kept.refl [] w).alloc _).cell (hcell j u hu) (by simp)
  have hone := acc_oneCell t
  have hb0 := build0
  have hlen := acc_length t
  obtain ⟨i0, hi, hz0, hz1, hz2⟩ := info_parts info63
  have hne := fun (w : World) => Lib.run_eql_slice_nil (P := Try.prog) w
  have hown : (w.alloc (.cells #[] 63)).ownsRow 0 63 2 (.slice (some ⟨w.heap.size, 0, none⟩) 0 0) 0 [] := World.ownsRow_made w #[] 0 (Nat.zero_le _) (by unfold maxLen; omega) (by simp)
  clear hcell
  go_enter Try.func27, Try.ntmps27
  go_wp2_with (first
    | (at_builtin; refine wpList_append_lies _ rfl _ _ 44 rfl 0 63 i0 (.agg #[.int .i64 0, .bool false]) 2 16 Try.underlying44 hi hz0 hz1 hz2 rfl (by omega) _ 0 [] rfl hown ⟨b, 0, none⟩ t.length c (acc t) rfl hlen hnews hone h0 ?h63 ?hby (by simp) (w.heap.size + 1) (by simp) ?_))
  case h63 => unfold maxLen; omega
  case hby => omega
  intro g cap w1 hown1 hgrow hat hlt
  have hg1 : w.heap.size ≤ g := by
    rcases hat with h2 | h2
    · simp [Value.ownBlock] at h2; omega
    · omega
  have hK : Kept [] w w1 := by
    refine ⟨hgrow.os, hgrow.tape, hgrow.output, by have := hgrow.size; simp at this; omega, fun k hk _ => ?_⟩
    rw [hgrow.block k (by simp; omega) (by simp [Value.ownBlock]; omega), Below.heap_alloc _ _ _ hk]
  have HR : Hid (_ ∧ _ ∧ _) := ⟨hown1, hK, hg1⟩
  clear hown1 hK hg1 hgrow hat hown hlen hone hnews hlt h
  go_wp2
  go_ret
  obtain ⟨hrow, hK, hg1⟩ := HR.out
  refine ⟨_, rfl, ⟨?_, fun e => absurd e ht⟩, fun k e => ?_, hK⟩
  · simpa using hrow
  · simp [Value.ownBlock] at e
    omega

theorem clone_any {w : World} {v : Value} {t : List (Int × Bool)} (h : Row w v t) (hn : t.length < 1000000) :
    Calls Try.prog 27 #[v] w fun e w' => ∃ u, e = .returned u ∧ Row w' u t ∧ (∀ k, u.ownBlock = some k → w.heap.size ≤ k) ∧ Kept [] w w' := by
  by_cases ht : t = []
  · have hv := h.2 ht
    subst hv
    refine (clone_none w).mono ?_
    rintro e w' ⟨rfl, rfl⟩
    exact ⟨_, rfl, h, fun k e => by simp [Value.ownBlock] at e, Kept.refl _ _⟩
  · exact clone_some h ht hn

set_option maxHeartbeats 1000000 in
theorem trace_yes {w : World} {p : Ap} {A : Ar} (h : ArIs 52 w p A) (c : Nat) (hc : c < A.traces.length) (hn : (A.traces.getD c []).length < 1000000) :
    Calls Try.prog 16 #[.pointer (some ⟨p.b, 0, none⟩), .int .i64 (c : Int)] w fun e w' => ∃ u, e = .returned u ∧ Row w' u (A.traces.getD c []) ∧ (∀ k, u.ownBlock = some k → w.heap.size ≤ k) ∧ Kept [] w w' := by
  obtain ⟨c0, c1⟩ := h.cell
  obtain ⟨v, hv, hr⟩ := h.row hc
  have sv := h.slot hv
  have j0 : (0 : Int) ≤ (c : Int) := by omega
  have j1 : (c : Int) < (A.traces.length : Int) := by omega
  have HR : Hid (_ ∧ _) := ⟨hr, hn⟩
  clear hr hv hn
  go_enter Try.func16, Try.ntmps16
  go_wp2_with fail
  refine (core_yes h c hc).mono ?_
  rintro e w' ⟨rfl, rfl⟩
  go_wp2_with fail
  refine (clone_any HR.out.1 HR.out.2).mono ?_
  rintro e w2 ⟨u, rfl, hu⟩
  have HU : Hid (_) := hu
  clear hu HR
  go_wp2
  go_ret
  exact ⟨_, rfl, HU.out⟩

theorem trace_no {w : World} {p : Ap} {A : Ar} (h : ArIs 52 w p A) (c : Int) (hc : c < 0 ∨ (A.traces.length : Int) ≤ c) :
    Calls Try.prog 16 #[.pointer (some ⟨p.b, 0, none⟩), .int .i64 c] w fun e w' => e = .returned (.slice none 0 0) ∧ w' = w := by
  go_enter Try.func16, Try.ntmps16
  go_wp2_with fail
  refine (core_no h c hc).mono ?_
  rintro e w' ⟨rfl, rfl⟩
  go_wp2
  go_ret
  exact ⟨rfl, rfl⟩

end Go.Proofs.Ytolbjmckebicfaa
