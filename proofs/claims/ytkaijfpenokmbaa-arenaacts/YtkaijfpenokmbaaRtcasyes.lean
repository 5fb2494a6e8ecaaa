/-
  The reference's Touch: casyes.
-/
import Derived.Test.YtkaijfpenokmbaaRef
namespace Go.Proofs.Ytkaijfpenokmbaa
open Go.RowKit

set_option maxRecDepth 100000 in
set_option maxHeartbeats 16000000 in
theorem rt_casyes {w : World} {p : Ap} {A : Ar} (h : ArIs 63 w p A) (c k : Nat) (o z : Int) (hc : c < A.traces.length) (hk : k < A.words.length) (hn : (A.traces.getD c []).length < 1000000) (hy : wordAt A.words k = o) :
    Calls Try.prog 15 #[.pointer (some ⟨p.b, 0, none⟩), .int .i64 2, .int .i64 (c : Int), .int .i64 (k : Int), .int .i64 o, .int .i64 z] w fun e w' => e = .returned (.tuple #[.int .i64 (z), .bool true, .int .i64 0]) ∧ ∃ p', ATo [] w p w' p' ∧ ArIs 63 w' p' (A.touch c k (some z)) := by
  obtain ⟨c0, c1⟩ := h.cell
  have ck := h.word hk
  have fk := block_frozen h.words k
  have i0 : (0 : Int) ≤ (k : Int) := by omega
  have i1 : (k : Int) < (A.words.length : Int) := by omega
  have j0 : (0 : Int) ≤ (c : Int) := by omega
  have t1 : (wordAt A.words k == o) = true := by simp [hy]
  clear hy
  go_enter Try.func15, Try.ntmps15
  go_wp2_with fail
  refine (at_yes h c k hc hk).mono ?_
  rintro e w' ⟨rfl, rfl⟩
  go_wp2_with fail
  obtain ⟨W, hW⟩ : ∃ W, W = w'.setCell ⟨p.bw, k, none⟩ (.int .i64 z) := ⟨_, rfl⟩
  rw [← hW]
  obtain ⟨A2, hA2⟩ : ∃ A2 : Ar, A2 = A.put k (some z) := ⟨_, rfl⟩
  have HA : Hid (_ = _) := hA2
  have hm : ArIs 63 W p A2 := by rw [hW, hA2]; exact h.setWord k z
  have hKW : Kept p.blocks w' W := by rw [hW]; exact (Kept.refl _ _).setCell (Or.inl (by simp [Ap.blocks])) _
  clear hA2 hW
  have hc2 : c < A2.traces.length := by rw [HA.out, put_traces]; exact hc
  have hn2 : (A2.traces.getD c []).length < 1000000 := by rw [HA.out, put_traces]; exact hn
  have hk2 : k < A2.words.length := by rw [HA.out]; simpa [Ar.put] using hk
  have hres : wordAt A2.words k = z := by rw [HA.out]; simp [Ar.put, wordAt, List.getD, hk]
  clear c0 c1 ck fk hc hn
  obtain ⟨c0, c1⟩ := hm.cell
  have ck := hm.word hk2
  obtain ⟨v, hv, hr⟩ := hm.row hc2
  have sv := hm.slot hv
  have fz := block_frozen hm.slots c
  have lb := lt_of_heap hm.main
  have lw := lt_of_heap hm.words
  have ls := lt_of_heap hm.slots
  have ab : v.ownBlock ≠ some p.b := fun e => (hm.off c v _ hv e).1 rfl
  have aw : v.ownBlock ≠ some p.bw := fun e => (hm.off c v _ hv e).2.1 rfl
  have at1 : v.ownBlock ≠ some p.bt := fun e => (hm.off c v _ hv e).2.2 rfl
  have nb := hm.n2
  have hown := hr.1
  have j1 : (c : Int) < (A2.traces.length : Int) := by omega
  have k1 : (k : Int) < (A2.words.length : Int) := by omega
  have HM : Hid (_ ∧ _ ∧ _) := ⟨hm, hKW, hv⟩
  have HR : Hid (_ = _) := hres
  clear hm hKW hr hv hres h i1
  obtain ⟨t0, ht⟩ : ∃ t, t = A2.traces.getD c [] := ⟨_, rfl⟩
  rw [← ht] at hown hn2
  have HT : Hid (_ = _) := ht
  clear ht
  obtain ⟨i54, hi0, hz0, hz1, hz2⟩ := info_parts info54
  go_region_law
    ((refine step_append_lies _ (by rfl) _ _ _ (by rfl) 0 54 i54 _ 2 16 Try.underlying51 hi0 hz0 hz1 hz2 rfl (by omega) v t0.length (acc t0) (by rfl) ((hown.alloc _).drew)
        ⟨W.heap.size, 0, none⟩ 1 1 [.int .i64 (k : Int), .bool true] (by rfl) (by rfl) (World.news_of_block (cs := #[.int .i64 (k : Int), .bool true]) (t := 54) (fr := (0, 0)) (heap_alloc_new W _)) (by simp [Value.oneCell'])
        (by omega) (by simp only [maxLen]; omega) (by omega) (by omega) (W.heap.size + 1) (by simp) ?_; intro gg cap w1 hown1 hgrow hat hlt
      have h1 : w1.cell? ⟨p.b, 1, none⟩ = some (.slice (some ⟨p.bt, 0, none⟩) A2.traces.length A2.traces.length) := by
        rw [hgrow.cell_far _ (by simp; omega) (Ne.symm ab)]; go_simp
      have s1 : w1.cell? ⟨p.bt, c, none⟩ = some v := by
        rw [hgrow.cell_far _ (by simp; omega) (Ne.symm at1)]; go_simp
      have f1 : w1.frozen? ⟨p.bt, c, none⟩ = false := by
        rw [hgrow.frozen_far _ (by simp; omega) (Ne.symm at1)]; go_simp))
  all_goals
    obtain ⟨p', hbw, hto, ha⟩ := note_end (x := ((k : Int), true)) HM.out.1 HM.out.2.1 HM.out.2.2 HT.out hown1 hgrow hat
    generalize w1.setCell ⟨p.bt, c, none⟩ (.slice (some ⟨gg, 0, none⟩) (t0.length + 1) cap) = W2 at *
    have x0 : W2.cell? ⟨p.b, 0, none⟩ = some (.slice (some ⟨p.bw, 0, none⟩) A2.words.length A2.words.length) := by
      have := ha.cell.1
      rw [hto.b, hbw] at this
      exact this
    have xk : W2.cell? ⟨p.bw, k, none⟩ = some (.int .i64 (z)) := by
      have := ha.word (i := k) hk2
      rw [hbw] at this
      rw [← HR.out]
      exact this
    have HF : Hid (_ ∧ _) := ⟨hto, ha⟩
    clear hto ha hbw hgrow hown1 h1 s1 f1 hat hlt hown c0 c1 sv ck
  all_goals go_wp2
  all_goals go_ret3
  all_goals
    rw [show A.touch c k (some z) = A2.note c ((k : Int), true) from by rw [HA.out]; rfl]
    exact ⟨rfl, p', HF.out.1, HF.out.2⟩

end Go.Proofs.Ytkaijfpenokmbaa
