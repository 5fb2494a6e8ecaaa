/-
  touch: a core does to a word what the closure makes of it, and it is noted.
-/
import Derived.Test.YtolbjmckebicfaaLeaf
namespace Go.Proofs.Ytolbjmckebicfaa
open Go.RowKit

/-- What a closure chose: nothing (a reading), or a word (a writing). -/
def chv : Option Int → Value
  | none => .iface 72 (.agg #[])
  | some v => .iface 69 (.agg #[.int .i64 v])

theorem assert_reading (w : World) : (Instr.typeAssert (.iface 72 (.agg #[])) 67 69 true).run Try.prog w = .ok (.tuple #[.agg #[.int .i64 0], .bool false]) w := by kernel_rfl
theorem assert_writing (v : Value) (w : World) : (Instr.typeAssert (.iface 69 v) 67 69 true).run Try.prog w = .ok (.tuple #[v, .bool true]) w := by kernel_rfl

theorem info63 : (Try.prog.info? 63).map (fun i => (i.zero, i.size, i.bytes)) = some (some (.agg #[.int .i64 0, .bool false]), 2, 16) := by kernel_rfl

/-- An access more of core c. -/
def Ar.note (A : Ar) (c : Nat) (x : Int × Bool) : Ar := { A with traces := A.traces.set c (A.traces.getD c [] ++ [x]) }

def Ar.put (A : Ar) (k : Nat) : Option Int → Ar
  | none => A
  | some v => { A with words := A.words.set k v }

def Ar.touch (A : Ar) (c k : Nat) (ch : Option Int) : Ar := (A.put k ch).note c ((k : Int), ch.isSome)

theorem touch_nocore {w : World} {p : Ap} {A : Ar} (h : ArIs 52 w p A) (c k : Int) (f : Value) (hc : c < 0 ∨ (A.traces.length : Int) ≤ c) :
    Calls Try.prog 31 #[.pointer (some ⟨p.b, 0, none⟩), .int .i64 c, .int .i64 k, f] w fun e w' => e = .returned (.int .i64 202) ∧ w' = w := by
  go_enter Try.func31, Try.ntmps31
  go_wp2_with fail
  refine (core_no h c hc).mono ?_
  rintro e w' ⟨rfl, rfl⟩
  go_wp2_with fail
  go_ret
  exact ⟨rfl, rfl⟩

theorem touch_noplace {w : World} {p : Ap} {A : Ar} (h : ArIs 52 w p A) (c : Nat) (k : Int) (f : Value) (hc : c < A.traces.length) (hk : k < 0 ∨ (A.words.length : Int) ≤ k) :
    Calls Try.prog 31 #[.pointer (some ⟨p.b, 0, none⟩), .int .i64 (c : Int), .int .i64 k, f] w fun e w' => e = .returned (.int .i64 201) ∧ w' = w := by
  obtain ⟨c0, c1⟩ := h.cell
  by_cases h0 : k < 0
  · have d1 : decide (k < 0) = true := by simp; omega
    go_enter Try.func31, Try.ntmps31
    go_wp2_with fail
    refine (core_yes h c hc).mono ?_
    rintro e w' ⟨rfl, rfl⟩
    go_wp2_with fail
    go_ret
    exact ⟨rfl, rfl⟩
  · have d1 : decide (k < 0) = false := by simp; omega
    have i1 : ¬ k < (A.words.length : Int) := by omega
    have d2 : decide ((A.words.length : Int) ≤ k) = true := by simp; omega
    go_enter Try.func31, Try.ntmps31
    go_wp2_with fail
    refine (core_yes h c hc).mono ?_
    rintro e w' ⟨rfl, rfl⟩
    go_wp2_with fail
    go_ret
    exact ⟨rfl, rfl⟩

theorem touch_end {w W w1 : World} {p : Ap} {A : Ar} {g c gg cap : Nat} {u v : Value} {o : Obj} {t0 : List (Int × Bool)} {x : Int × Bool} (hm : ArIs 52 W p A) (hKW : Kept (g :: p.blocks) w W) (hg : g ∉ p.blocks) (huW : W.cell? ⟨g, 0, none⟩ = some u) (hv : p.vs[c]? = some v) (ht : t0 = A.traces.getD c [])
    (hown : w1.ownsRow 0 63 2 (.slice (some ⟨gg, 0, none⟩) (t0.length + 1) cap) (t0.length + 1) (acc t0 ++ [.int .i64 x.1, .bool x.2])) (hgrow : (W.alloc o).drew.grownBy w1 v.ownBlock) (hat : v.ownBlock = some gg ∨ gg = W.heap.size + 1) :
    (w1.setCell ⟨p.bt, c, none⟩ (.slice (some ⟨gg, 0, none⟩) (t0.length + 1) cap)).cell? ⟨g, 0, none⟩ = some u ∧ ∃ p', ATo [g] w p (w1.setCell ⟨p.bt, c, none⟩ (.slice (some ⟨gg, 0, none⟩) (t0.length + 1) cap)) p' ∧ ArIs 52 (w1.setCell ⟨p.bt, c, none⟩ (.slice (some ⟨gg, 0, none⟩) (t0.length + 1) cap)) p' (A.note c x) := by
  have hK0 : Kept [] W (W.alloc o).drew := ((Kept.refl _ _).alloc _).drew
  have hm1 := hm.kept0 hK0
  have hgt : g ≠ p.bt := fun e => hg (by simp [Ap.blocks, e])
  have hgw := block_lt_of_cell huW
  have hvg : v.ownBlock ≠ some g := fun e => hg (by
    simp only [Ap.blocks, List.mem_cons, List.mem_filterMap]
    exact Or.inr (Or.inr (Or.inr ⟨v, List.mem_of_getElem? hv, e⟩)))
  have hat2 : ∀ k, Value.ownBlock (.slice (some ⟨gg, 0, none⟩) (t0.length + 1) cap) = some k → v.ownBlock = some k ∨ (W.alloc o).drew.heap.size ≤ k := by
    intro k e
    simp only [Value.ownBlock, Option.some.injEq] at e
    subst e
    rcases hat with h | h
    · exact Or.inl h
    · exact Or.inr (by simp; omega)
  have hrow : Row w1 (.slice (some ⟨gg, 0, none⟩) (t0.length + 1) cap) (t0 ++ [x]) := by
    refine ⟨?_, fun e => by simp at e⟩
    have e1 : (t0 ++ [x]).length = t0.length + 1 := by simp
    have e2 : acc (t0 ++ [x]) = acc t0 ++ [.int .i64 x.1, .bool x.2] := by rw [acc_append]; simp [acc]
    rw [e1, e2]
    exact hown
  have hfin := hm1.setSlot hv (t0 ++ [x]) hgrow hrow hat2
  have hnew := ArIs.setSlot_new (w := (W.alloc o).drew) (p := p) hv hat2
  have hKg : Kept p.blocks W w1 := (hK0.mono (by simp)).grown hgrow (fun k e => Or.inl (by
    simp only [Ap.blocks, List.mem_cons, List.mem_filterMap]
    exact Or.inr (Or.inr (Or.inr ⟨v, List.mem_of_getElem? hv, e⟩))))
  have hKs := hKg.setCell (p := ⟨p.bt, c, none⟩) (Or.inl (by simp [Ap.blocks])) (.slice (some ⟨gg, 0, none⟩) (t0.length + 1) cap)
  refine ⟨hKs.cell huW hg, { p with vs := p.vs.set c (.slice (some ⟨gg, 0, none⟩) (t0.length + 1) cap) }, ⟨rfl, hKW.trans hKs (fun x hx => Or.inl (by simp [hx])), fun k hk => ?_⟩, ?_⟩
  · rcases hnew k hk with h | h
    · exact Or.inl h
    · refine Or.inr ?_
      have := hKW.size
      simp at h
      omega
  · unfold Ar.note
    rw [← ht]
    exact hfin

set_option maxHeartbeats 8000000 in
theorem touch_read {w : World} {p : Ap} {A : Ar} (h : ArIs 52 w p A) (c k : Nat) (hc : c < A.traces.length) (hk : k < A.words.length) (hn : (A.traces.getD c []).length < 1000000) (g : Nat) (hg : g ∉ p.blocks) (u : Value) (F : FuncId) (caps : Array Value)
    (hcall : ∀ args w, (callFunc F args).run Try.prog w = .ok (.enter F args) w)
    (hwork : Calls Try.prog F (#[.int .i64 (wordAt A.words k)] ++ caps) w fun e w2 => e = .returned (chv none) ∧ Kept [g] w w2 ∧ w2.cell? ⟨g, 0, none⟩ = some u) :
    Calls Try.prog 31 #[.pointer (some ⟨p.b, 0, none⟩), .int .i64 (c : Int), .int .i64 (k : Int), .func (.func F) #[] caps] w fun e w' => e = .returned (.int .i64 0) ∧ w'.cell? ⟨g, 0, none⟩ = some u ∧ ∃ p', ATo [g] w p w' p' ∧ ArIs 52 w' p' (A.touch c k none) := by
  obtain ⟨c0, c1⟩ := h.cell
  have ck := h.word hk
  have HW : Hid (Calls Try.prog F (#[.int .i64 (wordAt A.words k)] ++ caps) w fun e w2 => e = .returned (chv none) ∧ Kept [g] w w2 ∧ w2.cell? ⟨g, 0, none⟩ = some u) := hwork
  clear hwork
  have d1 : decide ((k : Int) < 0) = false := by simp
  have d2 : decide ((A.words.length : Int) ≤ (k : Int)) = false := by simp; omega
  have i0 : (0 : Int) ≤ (k : Int) := by omega
  have i1 : (k : Int) < (A.words.length : Int) := by omega
  have j0 : (0 : Int) ≤ (c : Int) := by omega
  have j1 : (c : Int) < (A.traces.length : Int) := by omega
  go_enter Try.func31, Try.ntmps31
  go_wp2_with fail
  refine (core_yes h c hc).mono ?_
  rintro e w' ⟨rfl, rfl⟩
  go_wp2_with fail
  refine HW.out.mono ?_
  rintro e w2 ⟨rfl, hK2, hu⟩
  have ha := assert_reading
  simp only [chv]
  go_wp2_with fail
  obtain ⟨W, hW⟩ : ∃ W, W = w2.alloc (.cells #[.int .i64 0] 69) := ⟨_, rfl⟩
  rw [← hW]
  have hKW : Kept [g] w' W := by rw [hW]; exact hK2.alloc _
  have huW : W.cell? ⟨g, 0, none⟩ = some u := by rw [hW]; exact ((Kept.refl [] w2).alloc _).cell hu (by simp)
  have hm : ArIs 52 W p A := h.kept hKW (fun k hk e => hg (by simpa using (List.mem_singleton.1 e) ▸ hk))
  have hKW : Kept (g :: p.blocks) w' W := hKW.mono (fun x hx => Or.inl (by simp only [List.mem_singleton] at hx; simp [hx]))
  clear hW hK2 hu c0 c1 ck
  obtain ⟨c0, c1⟩ := hm.cell
  obtain ⟨v, hv, hr⟩ := hm.row hc
  have sv := hm.slot hv
  have fz := block_frozen hm.slots c
  have lb := lt_of_heap hm.main
  have ls := lt_of_heap hm.slots
  have ab : v.ownBlock ≠ some p.b := fun e => (hm.off c v _ hv e).1 rfl
  have at1 : v.ownBlock ≠ some p.bt := fun e => (hm.off c v _ hv e).2.2 rfl
  have nb := hm.n2
  have hown := hr.1
  have HM : Hid (_ ∧ _ ∧ _ ∧ _) := ⟨hm, hKW, huW, hv⟩
  clear hm hKW huW hr hv
  obtain ⟨t0, ht⟩ : ∃ t, t = A.traces.getD c [] := ⟨_, rfl⟩
  rw [← ht] at hown hn
  have HT : Hid (_ = _) := ht
  clear ht
  obtain ⟨i54, hi0, hz0, hz1, hz2⟩ := info_parts info63
  go_region_law
    ((refine step_append_lies _ (by rfl) _ _ _ (by rfl) 0 63 i54 _ 2 16 Try.underlying44 hi0 hz0 hz1 hz2 rfl (by omega) v t0.length (acc t0) (by rfl) ((hown.alloc _).drew)
        ⟨W.heap.size, 0, none⟩ 1 1 [.int .i64 (k : Int), .bool false] (by rfl) (by rfl) (World.news_of_block (cs := #[.int .i64 (k : Int), .bool false]) (t := 63) (fr := (0, 0)) (heap_alloc_new W _)) (by simp [Value.oneCell'])
        (by omega) (by simp only [maxLen]; omega) (by omega) (by omega) (W.heap.size + 1) (by simp) ?_; intro gg cap w1 hown1 hgrow hat hlt
      have h1 : w1.cell? ⟨p.b, 1, none⟩ = some (.slice (some ⟨p.bt, 0, none⟩) A.traces.length A.traces.length) := by
        rw [hgrow.cell_far _ (by simp; omega) (Ne.symm ab)]; go_simp
      have s1 : w1.cell? ⟨p.bt, c, none⟩ = some v := by
        rw [hgrow.cell_far _ (by simp; omega) (Ne.symm at1)]; go_simp
      have f1 : w1.frozen? ⟨p.bt, c, none⟩ = false := by
        rw [hgrow.frozen_far _ (by simp; omega) (Ne.symm at1)]; go_simp))
  all_goals go_wp2
  all_goals go_ret
  all_goals
    have hfin := touch_end (x := ((k : Int), false)) HM.out.1 HM.out.2.1 hg HM.out.2.2.1 HM.out.2.2.2 HT.out hown1 hgrow hat
    exact ⟨rfl, hfin.1, hfin.2⟩

end Go.Proofs.Ytolbjmckebicfaa
