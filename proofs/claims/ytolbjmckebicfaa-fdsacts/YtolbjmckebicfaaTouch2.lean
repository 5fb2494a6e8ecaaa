/-
  touch, where it writes.
-/
import Derived.Test.YtolbjmckebicfaaTouch
namespace Go.Proofs.Ytolbjmckebicfaa
open Go.RowKit

set_option maxHeartbeats 8000000 in
theorem touch_write {w : World} {p : Ap} {A : Ar} (h : ArIs 52 w p A) (c k : Nat) (hc : c < A.traces.length) (hk : k < A.words.length) (hn : (A.traces.getD c []).length < 1000000) (g : Nat) (hg : g ∉ p.blocks) (u : Value) (F : FuncId) (caps : Array Value) (z : Int)
    (hcall : ∀ args w, (callFunc F args).run Try.prog w = .ok (.enter F args) w)
    (hwork : Calls Try.prog F (#[.int .i64 (wordAt A.words k)] ++ caps) w fun e w2 => e = .returned (chv (some z)) ∧ Kept [g] w w2 ∧ w2.cell? ⟨g, 0, none⟩ = some u) :
    Calls Try.prog 31 #[.pointer (some ⟨p.b, 0, none⟩), .int .i64 (c : Int), .int .i64 (k : Int), .func (.func F) #[] caps] w fun e w' => e = .returned (.int .i64 0) ∧ w'.cell? ⟨g, 0, none⟩ = some u ∧ ∃ p', ATo [g] w p w' p' ∧ ArIs 52 w' p' (A.touch c k (some z)) := by
  obtain ⟨c0, c1⟩ := h.cell
  have ck := h.word hk
  have HW : Hid (Calls Try.prog F (#[.int .i64 (wordAt A.words k)] ++ caps) w fun e w2 => e = .returned (chv (some z)) ∧ Kept [g] w w2 ∧ w2.cell? ⟨g, 0, none⟩ = some u) := hwork
  clear hwork
  have d1 : decide ((k : Int) < 0) = false := by simp
  have d2 : decide ((A.words.length : Int) ≤ (k : Int)) = false := by simp; omega
  have i0 : (0 : Int) ≤ (k : Int) := by omega
  have i1 : (k : Int) < (A.words.length : Int) := by omega
  have j0 : (0 : Int) ≤ (c : Int) := by omega
  have j1 : (c : Int) < (A.traces.length : Int) := by omega
  go_enter Try.func31, Try.ntmps31
  go_wp2_with fail
  refine (core_yes h c hc).mono ?_
  rintro e w' ⟨rfl, rfl⟩
  go_wp2_with fail
  refine HW.out.mono ?_
  rintro e w2 ⟨rfl, hK2, hu⟩
  have ha := assert_writing
  simp only [chv]
  go_wp2_with fail
  obtain ⟨W1, hW⟩ : ∃ W, W = w2.alloc (.cells #[.int .i64 z] 69) := ⟨_, rfl⟩
  rw [← hW]
  have hKW : Kept [g] w' W1 := by rw [hW]; exact hK2.alloc _
  have huW : W1.cell? ⟨g, 0, none⟩ = some u := by rw [hW]; exact ((Kept.refl [] w2).alloc _).cell hu (by simp)
  have hm2 : ArIs 52 W1 p A := h.kept hKW (fun k hk e => hg (by simpa using (List.mem_singleton.1 e) ▸ hk))
  have cz : W1.cell? ⟨w2.heap.size, 0, none⟩ = some (.int .i64 z) := by rw [hW]; go_simp
  have n5 : w2.heap.size ≠ p.bw := by
    have h1 := h.blocks_lt p.bw (by simp [Ap.blocks])
    have h2 := hK2.size
    omega
  have hKW : Kept (g :: p.blocks) w' W1 := hKW.mono (fun x hx => Or.inl (by simp only [List.mem_singleton] at hx; simp [hx]))
  clear hW hK2 hu c0 c1 ck
  obtain ⟨c0, c1⟩ := hm2.cell
  have ck := hm2.word hk
  have fk := block_frozen hm2.words k
  have n1 := hm2.n1
  have HM2 : Hid (_ ∧ _ ∧ _ ∧ _) := ⟨hm2, hKW, huW, h⟩
  clear hm2 huW hKW h
  generalize w2.heap.size = B at *
  have HS : Hid ((W1.setCell ⟨p.bw, k, none⟩ (.int .i64 z)).drew.cell? ⟨p.b, 0, none⟩ = some (.slice (some ⟨p.bw, 0, none⟩) A.words.length A.words.length) ∧ (W1.setCell ⟨p.bw, k, none⟩ (.int .i64 z)).drew.cell? ⟨B, 0, none⟩ = some (.int .i64 z)) :=
    ⟨cell_other (w := W1) c0 n1, cell_other (w := W1) cz n5⟩
  go_region_held3 (fun w' => w'.cell? ⟨p.b, 0, none⟩ = some (.slice (some ⟨p.bw, 0, none⟩) A.words.length A.words.length) ∧ w'.cell? ⟨B, 0, none⟩ = some (.int .i64 z))
    (first | exact HS.out | go_keep)
    (fail)
  go_wp2_with fail
  obtain ⟨W, hW⟩ : ∃ W, W = (W1.setCell ⟨p.bw, k, none⟩ (.int .i64 z)).drew := ⟨_, rfl⟩
  rw [← hW]
  obtain ⟨A2, hA2⟩ : ∃ A2 : Ar, A2 = A.put k (some z) := ⟨_, rfl⟩
  have hm : ArIs 52 W p A2 := by rw [hW, hA2]; exact (HM2.out.1.setWord k z).kept0 (Kept.refl _ _).drew
  have hKW : Kept (g :: p.blocks) w' W := by rw [hW]; exact (HM2.out.2.1.setCell (Or.inl (by simp [Ap.blocks])) _).drew
  have huW : W.cell? ⟨g, 0, none⟩ = some u := by rw [hW]; exact cell_other (w := W1) HM2.out.2.2.1 (fun e => hg (by simp [Ap.blocks, e]))
  have hc2 : c < A2.traces.length := by rw [hA2]; exact hc
  have hn2 : (A2.traces.getD c []).length < 1000000 := by rw [hA2]; exact hn
  have j2 : (c : Int) < (A2.traces.length : Int) := by omega
  have HA : Hid (_ = _) := hA2
  clear hW HM2 HS c0 c1 ck cz fk n1 n5 hA2 hc hn j1 i1 hk d2
  rename c < A2.traces.length => hc
  rename (A2.traces.getD c []).length < 1000000 => hn
  obtain ⟨c0, c1⟩ := hm.cell
  obtain ⟨v, hv, hr⟩ := hm.row hc
  have sv := hm.slot hv
  have fz := block_frozen hm.slots c
  have lb := lt_of_heap hm.main
  have ls := lt_of_heap hm.slots
  have ab : v.ownBlock ≠ some p.b := fun e => (hm.off c v _ hv e).1 rfl
  have at1 : v.ownBlock ≠ some p.bt := fun e => (hm.off c v _ hv e).2.2 rfl
  have nb := hm.n2
  have hown := hr.1
  have HM : Hid (_ ∧ _ ∧ _ ∧ _) := ⟨hm, hKW, huW, hv⟩
  clear hm hKW huW hr hv
  obtain ⟨t0, ht⟩ : ∃ t, t = A2.traces.getD c [] := ⟨_, rfl⟩
  rw [← ht] at hown hn
  have HT : Hid (_ = _) := ht
  clear ht
  obtain ⟨i54, hi0, hz0, hz1, hz2⟩ := info_parts info63
  go_region_law
    ((refine step_append_lies _ (by rfl) _ _ _ (by rfl) 0 63 i54 _ 2 16 Try.underlying44 hi0 hz0 hz1 hz2 rfl (by omega) v t0.length (acc t0) (by rfl) ((hown.alloc _).drew)
        ⟨W.heap.size, 0, none⟩ 1 1 [.int .i64 (k : Int), .bool true] (by rfl) (by rfl) (World.news_of_block (cs := #[.int .i64 (k : Int), .bool true]) (t := 63) (fr := (0, 0)) (heap_alloc_new W _)) (by simp [Value.oneCell'])
        (by omega) (by simp only [maxLen]; omega) (by omega) (by omega) (W.heap.size + 1) (by simp) ?_; intro gg cap w1 hown1 hgrow hat hlt
      have h1 : w1.cell? ⟨p.b, 1, none⟩ = some (.slice (some ⟨p.bt, 0, none⟩) A2.traces.length A2.traces.length) := by
        rw [hgrow.cell_far _ (by simp; omega) (Ne.symm ab)]; go_simp
      have s1 : w1.cell? ⟨p.bt, c, none⟩ = some v := by
        rw [hgrow.cell_far _ (by simp; omega) (Ne.symm at1)]; go_simp
      have f1 : w1.frozen? ⟨p.bt, c, none⟩ = false := by
        rw [hgrow.frozen_far _ (by simp; omega) (Ne.symm at1)]; go_simp))
  all_goals go_wp2
  all_goals go_ret
  all_goals
    have hfin := touch_end (x := ((k : Int), true)) HM.out.1 HM.out.2.1 hg HM.out.2.2.1 HM.out.2.2.2 HT.out hown1 hgrow hat
    rw [show A.touch c k (some z) = A2.note c ((k : Int), true) from by rw [HA.out]; rfl]
    exact ⟨rfl, hfin.1, hfin.2⟩


end Go.Proofs.Ytolbjmckebicfaa
