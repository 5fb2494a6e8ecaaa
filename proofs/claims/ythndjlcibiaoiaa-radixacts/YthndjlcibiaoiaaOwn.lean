/-
  Rows of ints of a call's own beside a tree: what they look like, what an append makes of them, and when two are the same.
-/
import Derived.Test.YthndjlcibiaoiaaRx
import Derived.OwnWalk
namespace Go.Proofs.Ythndjlcibiaoiaa
open Go.RowKit
set_option linter.unusedVariables false

theorem add_lit (g o j : Nat) : (⟨g, o, none⟩ : Addr).add j = ⟨g, o + j, none⟩ := by unfold Addr.add; split <;> simp_all

/-- Blocks beside the arena turn, others come. -/
theorem Hs.turn {S : List (Nat × Obj)} {w0 w w' : World} {b : Nat} {A : Ar} (h : Hs S w0 w b A) (F : List Nat) (hF : ∀ x ∈ F, ∃ o, (x, o) ∈ S) (hk : Kept F w w') (S' : List (Nat × Obj)) (hS : ∀ x ∈ S', (w.heap.size ≤ x.1 ∨ ∃ o, (x.1, o) ∈ S) ∧ w'.heap[x.1]? = some x.2) : Hs S' w0 w' b A := by
  obtain ⟨hK, p, hb, hf, hm, hs⟩ := h
  have hFp : ∀ k ∈ p.blocks, k ∉ F := fun k hk hkF => by
    obtain ⟨o, ho⟩ := hF k hkF
    exact (hs _ ho).2.1 hk
  refine ⟨hK.trans hk (fun x hx => ?_), p, hb, hf, hm.kept hk hFp, fun x hx => ?_⟩
  · obtain ⟨o, ho⟩ := hF x hx
    exact Or.inr (hs _ ho).1
  · obtain ⟨h1, h2⟩ := hS x hx
    rcases h1 with h1 | ⟨o, ho⟩
    · exact ⟨Nat.le_trans hK.size h1, fun hx => absurd (hm.blocks_lt _ hx) (by omega), h2⟩
    · exact ⟨(hs _ ho).1, (hs _ ho).2.1, h2⟩

theorem Rb.turn {I : Trc → Prop} {S : List (Nat × Obj)} {w0 w w' : World} {b g f k L N : Nat} {W : Nat → Int} (h : Rb I S w0 w b g f k L N W) (F : List Nat) (hF : ∀ x ∈ F, ∃ o, (x, o) ∈ S) (hk : Kept F w w') (S' : List (Nat × Obj)) (hg : (g, box b f) ∈ S') (hS : ∀ x ∈ S', (w.heap.size ≤ x.1 ∨ ∃ o, (x.1, o) ∈ S) ∧ w'.heap[x.1]? = some x.2) : Rb I S' w0 w' b g f k L N W := by
  obtain ⟨a1, a2, a3, a4, hS', A, hH, h1⟩ := h
  exact ⟨a1, a2, a3, a4, hg, A, hH.turn F hF hk S' hS, h1⟩

theorem Hs.at_ {S : List (Nat × Obj)} {w0 w : World} {b : Nat} {A : Ar} (h : Hs S w0 w b A) {x : Nat × Obj} (hx : x ∈ S) : w.heap[x.1]? = some x.2 := by
  obtain ⟨hK, p, hb, hf, hm, hs⟩ := h
  exact (hs x hx).2.2

theorem Rb.at_ {I : Trc → Prop} {S : List (Nat × Obj)} {w0 w : World} {b g f k L N : Nat} {W : Nat → Int} (h : Rb I S w0 w b g f k L N W) {x : Nat × Obj} (hx : x ∈ S) : w.heap[x.1]? = some x.2 := by
  obtain ⟨a1, a2, a3, a4, hS', A, hH, h1⟩ := h
  exact hH.at_ hx

theorem Rb.fewer {I : Trc → Prop} {S S' : List (Nat × Obj)} {w0 w : World} {b g f k L N : Nat} {W : Nat → Int} (h : Rb I S w0 w b g f k L N W) (hS : ∀ x ∈ S', x ∈ S) (hg : (g, box b f) ∈ S') : Rb I S' w0 w b g f k L N W :=
  h.turn [] (by simp) (Kept.refl [] w) S' hg fun x hx => ⟨Or.inr ⟨x.2, hS x hx⟩, h.at_ (hS x hx)⟩

/-- A row of ints of the call's own, in a block from H on. -/
def Own (w : World) (H : Nat) (v : Value) (xs : List Int) : Prop := w.ownsRow H 3 1 v xs.length (xs.map (Value.int .i64))

theorem Own.nil (w : World) (H : Nat) : Own w H (.slice none 0 0) [] := World.ownsRow_nil w H 3 1

theorem Own.form {w : World} {H : Nat} {v : Value} {xs : List Int} (h : Own w H v xs) : (v = .slice none 0 0 ∧ xs = []) ∨
    ∃ g cap cur, v = .slice (some ⟨g, 0, none⟩) xs.length cap ∧ H ≤ g ∧ w.heap[g]? = some (.cells cur 3 (0, 0)) ∧ xs.length ≤ cap ∧ cap ≤ maxLen ∧ cur.size = cap ∧ cur.toList.take xs.length = xs.map (Value.int .i64) := by
  rcases h.2 with ⟨h1, h2⟩ | ⟨g, cap, cur, h1, h2, h3, h4, h5, h6, h7⟩
  · exact Or.inl ⟨h1, List.eq_nil_of_length_eq_zero h2⟩
  · exact Or.inr ⟨g, cap, cur, h1, h2, h3, h4, h5, by simpa using h6, by simpa using h7⟩

theorem Own.block {w : World} {H : Nat} {v : Value} {xs : List Int} (h : Own w H v xs) : ∀ k, v.ownBlock = some k → H ≤ k ∧ k < w.heap.size := World.ownsRow.lt h

theorem Own.same {w w' : World} {H : Nat} {v : Value} {xs : List Int} (h : Own w H v xs) (hk : ∀ k, v.ownBlock = some k → w'.heap[k]? = w.heap[k]?) : Own w' H v xs := by
  refine ⟨h.1, ?_⟩
  rcases h.2 with hn | ⟨g, cap, cur, rfl, hb, hgg, rest⟩
  · exact .inl hn
  · exact .inr ⟨g, cap, cur, rfl, hb, by rw [hk g rfl]; exact hgg, rest⟩

theorem Own.kept {w w' : World} {H : Nat} {v : Value} {xs : List Int} (h : Own w H v xs) (k : Kept [] w w') : Own w' H v xs :=
  h.same fun x hx => k.block x (h.block x hx).2 (by simp)

theorem Own.slice {w : World} {H : Nat} {v : Value} {xs : List Int} (h : Own w H v xs) : ∃ a cap, v = .slice a xs.length cap ∧ ∀ i, i < xs.length → ∃ g o, a = some ⟨g, o, none⟩ ∧ w.cell? ⟨g, o + i, none⟩ = some (.int .i64 (wordAt xs i)) := by
  rcases h.form with ⟨h1, rfl⟩ | ⟨g, c, cur, h1, h2, h3, h4, h5, h6, h7⟩
  · exact ⟨none, 0, h1, fun i hi => by simp at hi⟩
  · refine ⟨_, c, h1, fun i hi => ⟨g, 0, rfl, ?_⟩⟩
    have e : cur[i]? = some (.int .i64 (wordAt xs i)) := by
      have h8 : (cur.toList.take xs.length)[i]? = some (.int .i64 (wordAt xs i)) := by
        rw [h7]; simp [hi, wordAt]
      rw [List.getElem?_take_of_lt hi] at h8
      simpa using h8
    rw [Nat.zero_add]
    simp [World.cell?, h3, e]

theorem Own.more {w' : World} {H : Nat} {v : Value} {n : Nat} {xs ys : List Int} (hn : n = xs.length + ys.length) (h : w'.ownsRow H 3 1 v n (xs.map (Value.int .i64) ++ ys.map (Value.int .i64))) : Own w' H v (xs ++ ys) := by
  subst hn
  unfold Own
  rw [List.length_append, List.map_append]
  exact h

/-- At an append: whatever it does, by its run. -/
theorem wpList_append_run {P : Program} (w : World) {ops : Array Oper} {rest : List Oper} {o : Oper} {a : Act} {Q : Exit → Act → World → Prop} (hgd : o.guard = none) (s x : Operand) (t1 t2 : TypeId)
    (ho : o.op = .call { callee := .builtin .append, args := #[s, x], argTypes := #[t1, t2] }) (v u : Value) (hs : a.eval s = v) (hx : a.eval x = u) (v' : Value) (w' : World)
    (hr : (Builtin.append_ #[t1, t2] o.type #[v, u]).run P w = .ok v' w') (h : wpList P ops Q rest (a.put o.dst v') w') : wpList P ops Q (o :: rest) a w := by
  refine wpList_plain hgd fun K hK => ?_
  unfold Oper.wp execOp
  simp only [ho, resolve, invoke, builtin, Sem.run_bind, Sem.run_pure, Result.andThen_ok, List.map_toArray, List.map_cons, List.map_nil, hs, hx, hr]
  exact hK _ _ h

theorem ints_oneCell (xs : List Int) : ∀ u ∈ xs.map (Value.int .i64), u.oneCell' = true := by
  intro u hu
  simp only [List.mem_map] at hu
  obtain ⟨a, _, rfl⟩ := hu
  rfl

/-- An append of one int that lies in a block of its own. -/
theorem append_row {w : World} {H : Nat} {v : Value} {xs : List Int} (h : Own w H v xs) (hH : H ≤ w.heap.size) (b : Nat) (y : Int) (hy : w.cell? ⟨b, 0, none⟩ = some (.int .i64 y)) (hb : xs.length + 1 ≤ 1000000) (ty : TypeId) :
    ∃ v' w', (Builtin.append_ #[31, 31] ty #[v, .slice (some ⟨b, 0, none⟩) 1 1]).run Try.prog w = .ok v' w' ∧ Own w' H v' (xs ++ [y]) ∧ w.grownBy w' v.ownBlock ∧ ∀ k, v'.ownBlock = some k → v.ownBlock = some k ∨ w.heap.size ≤ k := by
  obtain ⟨i0, hi, hz0, hz1, hz2⟩ := info_parts info3
  obtain ⟨v', w', hr, h2, h3, _, h5⟩ := run_append_own_at (P := Try.prog) w H 31 ty 3 i0 (.int .i64 0) 1 8 Try.underlying31 hi hz0 hz1 hz2 rfl (by omega) v xs.length (xs.map (Value.int .i64)) h ⟨b, 0, none⟩ 1 1 ([y].map (Value.int .i64)) (by simp)
    (fun j u hu => by
      have hj : j = 0 := by
        rcases Nat.lt_or_ge j 1 with h1 | h1
        · omega
        · rw [List.getElem?_eq_none (by simpa using h1)] at hu; cases hu
      subst hj
      rw [add_lit, hy, ← hu]
      rfl)
    (ints_oneCell [y]) (by unfold maxLen; omega) (by omega) hH
  refine ⟨v', w', hr, Own.more rfl h2, h3, fun k hk => ?_⟩
  rcases h5 with h5 | h5
  · exact Or.inl (h5 ▸ hk)
  · right
    rw [h5] at hk
    simp at hk
    omega

/-- The row of ints of a slice that lies in the blocks D. -/
def Od (u : Value) (xs : List Int) (D : List (Nat × Obj)) : Prop :=
  (u = .slice none 0 0 ∧ xs = [] ∧ D = []) ∨ ∃ g cap cur, u = .slice (some ⟨g, 0, none⟩) xs.length cap ∧ D = [(g, .cells cur 3 (0, 0))] ∧ 1 ≤ cap ∧ xs.length ≤ cap ∧ cap ≤ maxLen ∧ cur.size = cap ∧ cur.toList.take xs.length = xs.map (Value.int .i64)

section
variable {I : Trc → Prop} {S : List (Nat × Obj)} {w0 w : World} {b g f k L N : Nat} {W : Nat → Int}

theorem Od.own {u : Value} {xs : List Int} {D : List (Nat × Obj)} (h : Od u xs D) {w : World} (hx : ∀ x ∈ D, w.heap[x.1]? = some x.2) : Own w 0 u xs := by
  rcases h with ⟨rfl, rfl, -⟩ | ⟨g, cap, cur, rfl, rfl, h0, h1, h2, h3, h4⟩
  · exact Own.nil w 0
  · refine ⟨?_, Or.inr ⟨g, cap, cur, rfl, by omega, hx _ (List.mem_singleton.2 rfl), h1, h2, by omega, by simpa using h4⟩⟩
    simp

theorem Od.of {w : World} {H : Nat} {u : Value} {xs : List Int} (h : Own w H u xs) (hx : xs ≠ []) : ∃ g o, u.ownBlock = some g ∧ w.heap[g]? = some o ∧ Od u xs [(g, o)] := by
  rcases h.form with ⟨h1, h2⟩ | ⟨g, cap, cur, h1, h2, h3, h4, h5, h6, h7⟩
  · exact absurd h2 hx
  · refine ⟨g, _, by rw [h1]; rfl, h3, Or.inr ⟨g, cap, cur, h1, rfl, ?_, h4, h5, h6, h7⟩⟩
    have : 0 < xs.length := List.length_pos_iff.2 hx
    omega

/-- An append to a row beside a tree. -/
theorem Rb.append {D : List (Nat × Obj)} {u : Value} {xs : List Int} (h : Rb I (D ++ S) w0 w b g f k L N W) (hu : Od u xs D) (hS : (g, box b f) ∈ S) (hd : ∀ x ∈ D, ∀ y ∈ S, y.1 ≠ x.1) (y : Int) (hb : xs.length + 1 ≤ 1000000) (ty : TypeId) :
    ∃ v' w' D', (Builtin.append_ #[31, 31] ty #[u, .slice (some ⟨w.heap.size, 0, none⟩) 1 1]).run Try.prog (w.alloc (.cells #[.int .i64 y] 3)) = .ok v' w' ∧ Od v' (xs ++ [y]) D' ∧ Rb I (D' ++ S) w0 w' b g f k L N W ∧ ∀ x ∈ D', ∀ y ∈ S, y.1 ≠ x.1 := by
  have hO : Own w 0 u xs := hu.own fun x hx => h.at_ (by simp [hx])
  have hk : Kept [] w (w.alloc (.cells #[.int .i64 y] 3)) := (Kept.refl [] w).alloc _
  obtain ⟨v', w', hr, h2, h3, h4⟩ := append_row (hO.kept hk) (Nat.zero_le _) w.heap.size y (by have e := heap_alloc_new w (.cells #[.int .i64 y] 3); simp only [World.cell?, e]; rfl) hb ty
  obtain ⟨g', o, e1, e2, e3⟩ := Od.of h2 (by simp)
  have hF : ∀ x, u.ownBlock = some x → ∃ o, (x, o) ∈ D := fun x hx => by
    rcases hu with ⟨rfl, -, -⟩ | ⟨q, cap, cur, rfl, rfl, -⟩
    · simp [Value.ownBlock] at hx
    · simp [Value.ownBlock] at hx; exact ⟨_, by subst hx; exact List.mem_singleton.2 rfl⟩
  have hK : Kept (u.ownBlock.toList) w w' := (hk.mono (by simp)).grown h3 fun x hx => Or.inl (by rw [hx]; simp)
  have hg' : (∃ o, (g', o) ∈ D) ∨ w.heap.size ≤ g' := by
    rcases h4 g' e1 with h5 | h5
    · exact Or.inl (hF g' h5)
    · right; simp at h5; omega
  have hnew : ∀ y ∈ S, y.1 ≠ g' := fun y hy => by
    rcases hg' with ⟨o', ho'⟩ | h5
    · exact hd _ ho' y hy
    · intro e
      have := lt_of_heap (h.at_ (x := y) (by simp [hy]))
      omega
  refine ⟨v', w', [(g', o)], hr, e3, ?_, fun x hx y hy => ?_⟩
  · refine h.turn u.ownBlock.toList (fun x hx => ?_) hK _ (by simp [hS]) fun x hx => ?_
    · obtain ⟨o', ho'⟩ := hF x (by simpa using hx)
      exact ⟨o', by simp [ho']⟩
    · rcases List.mem_append.1 hx with hx | hx
      · rw [List.mem_singleton] at hx
        subst hx
        refine ⟨?_, e2⟩
        rcases hg' with ⟨o', ho'⟩ | h5
        · exact Or.inr ⟨o', by simp [ho']⟩
        · exact Or.inl h5
      · refine ⟨Or.inr ⟨x.2, by simp [hx]⟩, ?_⟩
        rw [hK.block x.1 (lt_of_heap (h.at_ (x := x) (by simp [hx]))) (fun hm => ?_)]
        · exact h.at_ (by simp [hx])
        · obtain ⟨o', ho'⟩ := hF x.1 (by simpa using hm)
          exact hd _ ho' x hx rfl
  · rw [List.mem_singleton] at hx
    subst hx
    exact hnew y hy

end

theorem ne_of_word {xs ys : List Int} (hl : xs.length = ys.length) (h : ∀ i, i < xs.length → wordAt xs i = wordAt ys i) : xs = ys := by
  apply List.ext_getElem hl
  intro i h1 h2
  have := h i h1
  simpa [wordAt, List.getD, h1, h2] using this

/-- Are two rows the same? -/
theorem same_ints {w : World} {H H' : Nat} {u v : Value} {xs ys : List Int} (hu : Own w H u xs) (hv : Own w H' v ys) (hx : xs.length ≤ 1000000) :
    Calls Try.prog 26 #[u, v] w fun e w' => ∃ r : Bool, e = .returned (.bool r) ∧ Hid (r = true ↔ xs = ys) ∧ Kept [] w w' := by
  obtain ⟨a, ca, rfl, ha⟩ := hu.slice
  obtain ⟨a', ca', rfl, ha'⟩ := hv.slice
  by_cases hl : xs.length = ys.length
  · have t1 : (((xs.length : Nat) : Int) != ((ys.length : Nat) : Int)) = false := by simp; omega
    have HL : Hid (_) := hl
    rw [← hl] at t1 ⊢
    clear hl hu hv
    go_enter Try.func26, Try.ntmps26
    go_wp2_with fail
    go_loopw [5] (fun i wr => ∃ j : Nat, i = .int .i64 (j : Int) ∧ j ≤ xs.length ∧ Hid (Kept [] w wr ∧ ∀ i, i < j → wordAt xs i = wordAt ys i)) (fun i _ => (xs.length - intOf i).toNat)
    case atStart => exact ⟨0, rfl, by omega, Kept.refl [] w, fun i hi => by omega⟩
    case round =>
      obtain ⟨j, rfl, hj, HJ⟩ := hrel
      by_cases hlt : j < xs.length
      · have i0 : (j : Int) < (xs.length : Int) := by omega
        obtain ⟨g, o, rfl, hc⟩ := ha j hlt
        obtain ⟨g', o', rfl, hc'⟩ := ha' j (by rw [← HL.out]; exact hlt)
        have q := HJ.out.1.cell hc (by simp)
        have q' := HJ.out.1.cell hc' (by simp)
        clear hc hc'
        have hA : Hid (_ ∧ _) := ⟨ha, ha'⟩
        clear ha ha'
        by_cases he : wordAt xs j = wordAt ys j
        · have t2 : (wordAt xs j != wordAt ys j) = false := by simpa using he
          have H3 : Hid (_ ∧ _) := ⟨HJ.out.1, fun i (hi : i < j + 1) => by
            rcases Nat.lt_succ_iff_lt_or_eq.1 hi with h3 | h3
            · exact HJ.out.2 i h3
            · rw [h3]; exact he⟩
          clear he HJ
          go_wp2_with fail
          go_quiet (fail)
          go_wp2
          go_roundw
          case rel => exact ⟨j + 1, by go_num, by omega, H3.out.1.drewN _, H3.out.2⟩
          case measure => simp [intOf]; omega
        · have t2 : (wordAt xs j != wordAt ys j) = true := by simpa using he
          have H3 : Hid (_ ∧ _) := ⟨HJ.out.1, fun (hx : xs = ys) => he (by rw [hx])⟩
          clear he HJ
          go_wp2_with fail
          go_quiet (fail)
          go_wp2
          go_ret
          exact ⟨false, rfl, ⟨fun h => by simp at h, fun h => absurd h H3.out.2⟩, H3.out.1.drewN _⟩
      · have e : j = xs.length := by omega
        subst e
        go_wp2_with fail
        go_ret
        exact ⟨true, rfl, ⟨fun _ => ne_of_word HL.out HJ.out.2, fun _ => rfl⟩, HJ.out.1⟩
  · have t1 : (((xs.length : Nat) : Int) != ((ys.length : Nat) : Int)) = true := by simp; omega
    have HL : Hid (_) := hl
    clear hl hu hv ha ha'
    go_enter Try.func26, Try.ntmps26
    go_wp2_with fail
    go_ret
    exact ⟨false, rfl, ⟨fun h => by simp at h, fun h => absurd (by rw [h]) HL.out⟩, Kept.refl [] w⟩

end Go.Proofs.Ythndjlcibiaoiaa
