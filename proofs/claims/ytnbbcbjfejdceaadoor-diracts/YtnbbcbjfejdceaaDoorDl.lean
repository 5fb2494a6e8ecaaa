/-
  A directory of package dir: List.
-/
import Derived.Test.YtnbbcbjfejdceaaDoorDw
import Derived.Test.YtnbbcbjfejdceaaDoorTx
import Derived.Test.YtnbbcbjfejdceaaDoorLs
namespace Go.Proofs.YtnbbcbjfejdceaaDoor
open Go.RowKit
set_option linter.unusedVariables false

/-- Blocks beside the arena turn, others come. -/
theorem Hs.turn {S : List (Nat × Obj)} {w0 w w' : World} {b : Nat} {A : Ar} (h : Hs S w0 w b A) (F : List Nat) (hF : ∀ x ∈ F, ∃ o, (x, o) ∈ S) (hk : Kept F w w') (S' : List (Nat × Obj)) (hS : ∀ x ∈ S', (w.heap.size ≤ x.1 ∨ ∃ o, (x.1, o) ∈ S) ∧ w'.heap[x.1]? = some x.2) : Hs S' w0 w' b A := by
  obtain ⟨hK, p, hb, hf, hm, hs⟩ := h
  have hFp : ∀ k ∈ p.blocks, k ∉ F := fun k hk hkF => by
    obtain ⟨o, ho⟩ := hF k hkF
    exact (hs _ ho).2.1 hk
  refine ⟨hK.trans hk (fun x hx => ?_), p, hb, hf, hm.kept hk hFp, fun x hx => ?_⟩
  · obtain ⟨o, ho⟩ := hF x hx
    exact Or.inr (hs _ ho).1
  · obtain ⟨h1, h2⟩ := hS x hx
    rcases h1 with h1 | ⟨o, ho⟩
    · exact ⟨Nat.le_trans hK.size h1, fun hx => absurd (hm.blocks_lt _ hx) (by omega), h2⟩
    · exact ⟨(hs _ ho).1, (hs _ ho).2.1, h2⟩

/-- The row of entries of a slice that lies in the blocks D. -/
def Oe (u : Value) (E : List En) (D : List (Nat × Obj)) : Prop :=
  (u = .slice none 0 0 ∧ E = [] ∧ D = []) ∨ ∃ g cap cur, u = .slice (some ⟨g, 0, none⟩) E.length cap ∧ D = [(g, .cells cur 61 (0, 0))] ∧ 1 ≤ cap ∧ E.length ≤ cap ∧ cap ≤ maxLen ∧ cur.size = cap * 2 ∧ cur.toList.take (E.length * 2) = flat E

theorem Oe.own {u : Value} {E : List En} {D : List (Nat × Obj)} (h : Oe u E D) {w : World} (hx : ∀ x ∈ D, w.heap[x.1]? = some x.2) : Er 61 w 0 u E := by
  rcases h with ⟨rfl, rfl, -⟩ | ⟨g, cap, cur, rfl, rfl, h0, h1, h2, h3, h4⟩
  · exact Er.nil 61 w 0
  · exact ⟨by rw [flat_length], Or.inr ⟨g, cap, cur, rfl, by omega, hx _ (List.mem_singleton.2 rfl), h1, h2, h3, h4⟩⟩

theorem Oe.of {w : World} {H : Nat} {u : Value} {E : List En} (h : Er 61 w H u E) (hn : u ≠ .slice none 0 0) (hc : ∀ a n c, u = .slice a n c → 1 ≤ c) : ∃ g o, u.ownBlock = some g ∧ w.heap[g]? = some o ∧ Oe u E [(g, o)] := by
  rcases h.form with ⟨h1, h2⟩ | ⟨g, cap, cur, h1, h2, h3, h4, h5, h6, h7⟩
  · exact absurd h1 hn
  · exact ⟨g, _, by rw [h1]; rfl, h3, Or.inr ⟨g, cap, cur, h1, rfl, hc _ _ _ h1, h4, h5, h6, h7⟩⟩

theorem Oe.slice {u : Value} {E : List En} {D : List (Nat × Obj)} (h : Oe u E D) : ∃ a c, u = .slice a E.length c := by
  rcases h with ⟨rfl, rfl, -⟩ | ⟨g, cap, cur, rfl, -⟩
  · exact ⟨_, _, rfl⟩
  · exact ⟨_, _, rfl⟩

theorem Oe.block {u : Value} {E : List En} {D : List (Nat × Obj)} (h : Oe u E D) : ∀ x, u.ownBlock = some x → ∃ o, (x, o) ∈ D := fun x hx => by
  rcases h with ⟨rfl, -, -⟩ | ⟨q, cap, cur, rfl, rfl, -⟩
  · simp [Value.ownBlock] at hx
  · simp [Value.ownBlock] at hx; exact ⟨_, by subst hx; exact List.mem_singleton.2 rfl⟩

section
variable {I : Trc → Prop} {S : List (Nat × Obj)} {w0 w : World} {b g f k L N : Nat} {W V : Nat → Int}

theorem Db.turn {w' : World} (h : Db I S w0 w b g f k L N W) (F : List Nat) (hF : ∀ x ∈ F, ∃ o, (x, o) ∈ S) (hk : Kept F w w') (S' : List (Nat × Obj)) (hg : (g, box b f) ∈ S') (hS : ∀ x ∈ S', (w.heap.size ≤ x.1 ∨ ∃ o, (x.1, o) ∈ S) ∧ w'.heap[x.1]? = some x.2) : Db I S' w0 w' b g f k L N W := by
  obtain ⟨a1, a2, a3, a4, a5, hS', A, hH, h1⟩ := h
  exact ⟨a1, a2, a3, a4, a5, hg, A, hH.turn F hF hk S' hS, h1⟩

theorem Db.fewer {S' : List (Nat × Obj)} (h : Db I S w0 w b g f k L N W) (hS : ∀ x ∈ S', x ∈ S) (hg : (g, box b f) ∈ S') : Db I S' w0 w b g f k L N W :=
  h.turn [] (by simp) (Kept.refl [] w) S' hg fun x hx => ⟨Or.inr ⟨x.2, hS x hx⟩, h.at_ (hS x hx)⟩

/-- A row's block turned, or a new one in its place. -/
theorem Db.row {D : List (Nat × Obj)} {u : Value} {E : List En} (h : Db I (D ++ S) w0 w b g f k L N W) (hu : Oe u E D) (hS : (g, box b f) ∈ S) (hd : ∀ x ∈ D, ∀ y ∈ S, y.1 ≠ x.1) {w' : World} (hK : Kept u.ownBlock.toList w w') {g' : Nat} {o : Obj} (hg' : u.ownBlock = some g' ∨ w.heap.size ≤ g') (ho : w'.heap[g']? = some o) :
    Db I ([(g', o)] ++ S) w0 w' b g f k L N W ∧ ∀ x ∈ [(g', o)], ∀ y ∈ S, y.1 ≠ x.1 := by
  have hF := hu.block
  have hnew : ∀ y ∈ S, y.1 ≠ g' := fun y hy => by
    rcases hg' with h5 | h5
    · obtain ⟨o', ho'⟩ := hF g' h5
      exact hd _ ho' y hy
    · intro e
      have := lt_of_heap (h.at_ (x := y) (by simp [hy]))
      omega
  refine ⟨?_, fun x hx y hy => by rw [List.mem_singleton] at hx; subst hx; exact hnew y hy⟩
  refine h.turn u.ownBlock.toList (fun x hx => ?_) hK _ (by simp [hS]) fun x hx => ?_
  · obtain ⟨o', ho'⟩ := hF x (by simpa using hx)
    exact ⟨o', by simp [ho']⟩
  · rcases List.mem_append.1 hx with hx | hx
    · rw [List.mem_singleton] at hx
      subst hx
      refine ⟨?_, ho⟩
      rcases hg' with h5 | h5
      · obtain ⟨o', ho'⟩ := hF g' h5
        exact Or.inr ⟨o', by simp [ho']⟩
      · exact Or.inl h5
    · refine ⟨Or.inr ⟨x.2, by simp [hx]⟩, ?_⟩
      rw [hK.block x.1 (lt_of_heap (h.at_ (x := x) (by simp [hx]))) (fun hm => ?_)]
      · exact h.at_ (by simp [hx])
      · obtain ⟨o', ho'⟩ := hF x.1 (by simpa using hm)
        exact hd _ ho' x hx rfl

theorem info61 : (Tryd.prog.info? 61).map (fun i => (i.zero, i.size, i.bytes)) = some (some (.agg #[.string ⟨#[]⟩, .int .i64 0]), 2, 24) := by kernel_rfl

/-- An append to a row of entries beside a directory. -/
theorem Db.append {D : List (Nat × Obj)} {u : Value} {E : List En} (h : Db I (D ++ S) w0 w b g f k L N W) (hu : Oe u E D) (hS : (g, box b f) ∈ S) (hd : ∀ x ∈ D, ∀ y ∈ S, y.1 ≠ x.1) (e : En) (hb : E.length + 1 ≤ 1000000) (ty : TypeId) :
    ∃ v' w' D', (Builtin.append_ #[28, 28] ty #[u, .slice (some ⟨w.heap.size, 0, none⟩) 1 1]).run Tryd.prog (w.alloc (.cells #[.string e.1, .int .i64 e.2] 61)) = .ok v' w' ∧ Oe v' (E ++ [e]) D' ∧ Db I (D' ++ S) w0 w' b g f k L N W ∧ ∀ x ∈ D', ∀ y ∈ S, y.1 ≠ x.1 := by
  have hO : Er 61 w 0 u E := hu.own fun x hx => h.at_ (by simp [hx])
  have hk : Kept [] w (w.alloc (.cells #[.string e.1, .int .i64 e.2] 61)) := (Kept.refl [] w).alloc _
  obtain ⟨i0, hi, hz0, hz1, hz2⟩ := info_parts info61
  obtain ⟨g', cap, w', hr, h2, h3, h4, h5⟩ := append_entry (P := Tryd.prog) (t := 28) (T := 61) Tryd.underlying28 hi hz0 hz1 hz2 rfl (hO.kept hk (by simp)) (Nat.zero_le _) w.heap.size e (by rw [cell_of_row _ _ _ _ _ _ (heap_alloc_new w _)]; rfl) (by rw [cell_of_row _ _ _ _ _ _ (heap_alloc_new w _)]; rfl) hb ty
  have hK : Kept (u.ownBlock.toList) w w' := (hk.mono (by simp)).grown h3 fun x hx => Or.inl (by rw [hx]; simp)
  obtain ⟨g2, o, e1, e2, e3⟩ := Oe.of h2 (by simp) (fun a n c hc => by
    rw [Value.slice.injEq] at hc
    rcases h2.form with ⟨h1, -⟩ | ⟨_, _, _, h1, -, -, h8, -⟩
    · cases h1
    · rw [Value.slice.injEq] at h1
      rw [List.length_append] at h8
      have := h1.2.2
      have := hc.2.2
      simp only [List.length_cons, List.length_nil] at h8
      omega)
  have e4 : g' = g2 := by simpa [Value.ownBlock] using e1
  subst e4
  obtain ⟨h6, h7⟩ := h.row hu hS hd hK (by
    rcases h4 with h4 | h4
    · exact Or.inl h4
    · exact Or.inr (by simp at h4; omega)) e2
  exact ⟨_, w', _, hr, e3, h6, h7⟩

end

theorem mem_swap (D S : List (Nat × Obj)) (x : Nat × Obj) : ∀ y ∈ D ++ x :: S, y ∈ x :: (D ++ S) := fun y hy => by
  rcases List.mem_append.1 hy with h | h
  · simp [h]
  · rcases List.mem_cons.1 h with h | h
    · simp [h]
    · simp [h]

/-- An append as a step of a region that draws, whatever it does, by its run. -/
theorem step_append_run {P : Program} {ops : Array Oper} {o : Oper} {a : Act} {w : World} {K : Act → World → Prop} {Q : Exit → Act → World → Prop} {E : Prop} (hg : o.guard = none) (s x : Operand) (t1 t2 : TypeId)
    (hop : o.op = Op.call { callee := Callee.builtin Builtin.append, args := #[s, x], argTypes := #[t1, t2] }) (v u : Value) (hs : a.eval s = v) (hx : a.eval x = u) (v' : Value) (w' : World)
    (hrun : (Builtin.append_ #[t1, t2] o.type #[v, u]).run P w = .ok v' w') (hK : K (a.put o.dst v') w') : if Region.wanted o (yielded ops a.tmps) = true then Oper.wp P o a w K Q else E := by
  have hw : Region.wanted o (yielded ops a.tmps) = true := by simp [Region.wanted, hg]
  rw [if_pos hw]
  unfold Oper.wp
  simp [execOp, hop, resolve, invoke, builtin, hs, hx, hrun, Result.andThen]
  exact hK

theorem slot_cells {I : Trc → Prop} {S D : List (Nat × Obj)} {w0 w : World} {b g f k L N : Nat} {W : Nat → Int} {B : Nat} {x y z : Int} (h : Db I (D ++ (B, .cells #[.int .i64 x, .int .i64 y, .int .i64 z] 71 (0, 0)) :: S) w0 w b g f k L N W) : w.cell? ⟨B, 0, none⟩ = some (.int .i64 x) ∧ w.cell? ⟨B, 1, none⟩ = some (.int .i64 y) ∧ w.cell? ⟨B, 2, none⟩ = some (.int .i64 z) := by
  have hb := h.at_ (x := (B, .cells #[.int .i64 x, .int .i64 y, .int .i64 z] 71 (0, 0))) (by simp)
  exact ⟨(cell_of_row _ _ _ _ _ _ hb).trans rfl, (cell_of_row _ _ _ _ _ _ hb).trans rfl, (cell_of_row _ _ _ _ _ _ hb).trans rfl⟩

theorem mem_less (D S : List (Nat × Obj)) (x : Nat × Obj) : ∀ y ∈ D ++ S, y ∈ D ++ x :: S := fun y hy => by
  rcases List.mem_append.1 hy with h | h
  · simp [h]
  · simp [h]

/-- A row of entries sorted, beside a directory. -/
theorem Db.sorted {I : Trc → Prop} {S D : List (Nat × Obj)} {w0 w w' : World} {b g f k L N : Nat} {W : Nat → Int} {u : Value} {E E' : List En} (h : Db I (D ++ S) w0 w b g f k L N W) (hu : Oe u E D) (hS : (g, box b f) ∈ S) (hd : ∀ x ∈ D, ∀ y ∈ S, y.1 ≠ x.1) (hE : Er 61 w' 0 u E') (hl : E'.length = E.length) (hK : Kept u.ownBlock.toList w w') :
    ∃ D', Oe u E' D' ∧ Db I (D' ++ S) w0 w' b g f k L N W ∧ ∀ x ∈ D', ∀ y ∈ S, y.1 ≠ x.1 := by
  rcases hu with ⟨rfl, rfl, rfl⟩ | ⟨g', cap, cur, rfl, rfl, h0, h1, h2, h3, h4⟩
  · have : E' = [] := List.eq_nil_of_length_eq_zero hl
    subst this
    exact ⟨[], Or.inl ⟨rfl, rfl, rfl⟩, h.still (by simpa [Value.ownBlock] using hK), by simp⟩
  · obtain ⟨g2, o, e1, e2, e3⟩ := Oe.of hE (by simp) (fun a n c hc => by rw [Value.slice.injEq] at hc; omega)
    have e4 : g' = g2 := by simpa [Value.ownBlock] using e1
    subst e4
    obtain ⟨h6, h7⟩ := h.row (E := E) (Or.inr ⟨g', cap, cur, rfl, rfl, h0, h1, h2, h3, h4⟩) hS hd hK (Or.inl rfl) e2
    exact ⟨_, e3, h6, h7⟩

theorem mem_box {S : List (Nat × Obj)} {y : Nat × Obj} (h : y ∈ S) (D : List (Nat × Obj)) (x : Nat × Obj) : y ∈ D ++ x :: S := by simp [h]

theorem ne_new2 {D S : List (Nat × Obj)} {n : Nat} {o : Obj} (hd : ∀ x ∈ D, ∀ y ∈ S, y.1 ≠ x.1) (hn : ∀ x ∈ D, x.1 < n) : ∀ x ∈ D, ∀ y ∈ (n, o) :: S, y.1 ≠ x.1 := fun x hx y hy => by
  rcases List.mem_cons.1 hy with rfl | hy
  · have := hn x hx
    intro e
    simp only at e
    omega
  · exact hd x hx y hy

set_option maxRecDepth 100000 in
set_option maxHeartbeats 8000000 in
theorem d_list {I : Trc → Prop} {S : List (Nat × Obj)} {w0 w : World} {b g f k L N : Nat} {T : Sts} (h : Db I S w0 w b g f k L N (sw T)) (G : Good T) (c : Nat) (hc : c < k) (hI : ∀ n, n < 8 → Rd I c f n) (hN : N < 800000) :
    Calls Tryd.prog 15 #[.pointer (some ⟨g, 0, none⟩), .int .i64 (c : Int)] w fun e w' => ∃ u D E, e = .returned u ∧ Oe u E D ∧ Rise E ∧ (∀ x, x ∈ E ↔ ∃ t, t < 32 ∧ T t = some x) ∧ Db I (D ++ S) w0 w' b g f k L (N + 96) (sw T) ∧ ∀ x ∈ D, ∀ y ∈ S, y.1 ≠ x.1 := by
  have HZ : Hid (wrongV (c : Int) k [] = 0) := by show _ = _; unfold wrongV; rw [if_neg (by omega), if_pos (by simp)]
  have HS : Hid ((g, box b f) ∈ S ∧ (∀ n, n < 8 → Rd I c f n) ∧ Good T) := ⟨h.mem, hI, G⟩
  have H0 : Hid (_) := h
  clear h hI G
  go_enter Tryd.func15, Tryd.ntmps15
  go_wp2_with fail
  refine (d_wrong H0.out (c : Int) [] none (by simp) (fun i hi => by simp at hi) 0 rfl 0).mono ?_
  rintro e w1 ⟨rfl, hk⟩
  rw [HZ.out]
  have H1 : Hid (Db I ([] ++ S) w0 w1 b g f k L N (sw T)) := Db.still H0.out hk
  clear hk H0 HZ
  go_wp2_with fail
  go_loopw [13, 5] (fun i u wr => ∃ (n : Nat) (D : List (Nat × Obj)), i = .int .i64 (n : Int) ∧ n ≤ 8 ∧ Hid (Oe u (tl T (n * 4)) D ∧ Db I (D ++ S) w0 wr b g f k L (N + n * 12) (sw T) ∧ ∀ x ∈ D, ∀ y ∈ S, y.1 ≠ x.1)) (fun i _ _ => (8 - intOf i).toNat)
  case atStart => exact ⟨0, [], rfl, by omega, Or.inl ⟨rfl, rfl, rfl⟩, H1.out, by simp⟩
  case round =>
    clear H1
    obtain ⟨n, D, rfl, hn, HJ⟩ := hrel
    by_cases hlt : n < 8
    · have i0 : (n : Int) < 8 := by omega
      go_wp2_with fail
      refine (d_read HJ.out.2.1 c n _ rfl hc hlt (HS.out.2.1 n hlt) (by omega)).mono ?_
      rintro e w2 ⟨rfl, h2⟩
      have H2 : Hid (_ ∧ _ ∧ _) := ⟨HJ.out.1, h2, HJ.out.2.2⟩
      clear h2 HJ
      obtain ⟨v, hv⟩ : ∃ v : Nat → Int, v = fun j => sw T (n * 12 + j) := ⟨_, rfl⟩
      have HV : Hid (∀ j, v j = sw T (n * 12 + j)) := fun j => by rw [hv]
      rw [← hv]
      clear hv
      have hfd : ∀ W : World, (Instr.field 74 (.agg (bk (n : Int) v)) 1).run Tryd.prog W = .ok (.agg #[.int .i64 (v 0), .int .i64 (v 1), .int .i64 (v 2), .int .i64 (v 3), .int .i64 (v 4), .int .i64 (v 5), .int .i64 (v 6), .int .i64 (v 7), .int .i64 (v 8), .int .i64 (v 9), .int .i64 (v 10), .int .i64 (v 11)]) W := fun W => by kernel_rfl
      unfold bk at hfd ⊢
      have hq0 := ix0 v
      have hq1 := ix1 v
      have hq2 := ix2 v
      have hq3 := ix3 v
      have hne := fun a b w => neq_sp a b 0 0 w
      go_wp2_with fail
      clear hfd
      go_loopw [21, 5] (fun i u wr => ∃ (q : Nat) (D : List (Nat × Obj)), i = .int .i64 (q : Int) ∧ q ≤ 4 ∧ Hid (Oe u (tl T (n * 4 + q)) D ∧ Db I (D ++ S) w0 wr b g f k L (N + n * 12 + 12) (sw T) ∧ ∀ x ∈ D, ∀ y ∈ S, y.1 ≠ x.1)) (fun i _ _ => (4 - intOf i).toNat)
      case atStart => exact ⟨0, D, rfl, by omega, H2.out⟩
      case round =>
        clear H2
        obtain ⟨q, D, rfl, hq, HQ⟩ := hrel
        rcases (show q = 0 ∨ q = 1 ∨ q = 2 ∨ q = 3 ∨ q = 4 by omega) with rfl | rfl | rfl | rfl | rfl
        · -- slot 0
          rcases hT : T (n * 4 + 0) with _ | e
          · have z1 : (v 1 == 0 && v 2 == 0) = true := by rw [HV.out 1, HV.out 2, show n * 12 + 1 = (n * 4 + 0) * 3 + 1 by omega, show n * 12 + 2 = (n * 4 + 0) * 3 + 2 by omega, sw_1, sw_2, hT]; rfl
            have htl : tl T (n * 4 + 1) = tl T (n * 4 + 0) := by
              have := tl_succ T (n * 4 + 0)
              rw [hT] at this
              simpa using this
            have H3 : Hid (Oe u5 (tl T (n * 4 + 1)) D ∧ Db I (D ++ S) w0 (wr.alloc (.cells #[.int .i64 (v 0), .int .i64 (v 1), .int .i64 (v 2)] 71)) b g f k L (N + n * 12 + 12) (sw T) ∧ ∀ x ∈ D, ∀ y ∈ S, y.1 ≠ x.1) := ⟨by rw [htl]; exact HQ.out.1, Db.still HQ.out.2.1 ((Kept.refl [] wr).alloc _), HQ.out.2.2⟩
            clear HQ hT htl
            go_wp2_with fail
            go_roundw
            case rel => exact ⟨1, D, by go_num, by omega, H3.out⟩
            case measure => simp [intOf]
          · have ha : v 0 = e.2 := by rw [HV.out 0, show n * 12 + 0 = (n * 4 + 0) * 3 by omega, sw_0, hT]
            have hb : v 1 = sp0 e.1 := by rw [HV.out 1, show n * 12 + 1 = (n * 4 + 0) * 3 + 1 by omega, sw_1, hT]
            have hc' : v 2 = sp1 e.1 := by rw [HV.out 2, show n * 12 + 2 = (n * 4 + 0) * 3 + 2 by omega, sw_2, hT]
            have hm := HS.out.2.2.may _ _ (show n * 4 + 0 < 32 by omega) hT
            have z1 : (v 1 == 0 && v 2 == 0) = false := by
              rw [hb, hc', ← Bool.not_eq_true]
              simp only [Bool.and_eq_true, beq_iff_eq]
              exact sp_some hm
            have HE : Hid ((strOfNums (unp (v 1) ++ unp (v 2)), v 0) = e) := by show _ = e; rw [ha, hb, hc', sp_back hm]
            have HT : Hid (tl T (n * 4 + 1) = tl T (n * 4 + 0) ++ [e]) := by
              have := tl_succ T (n * 4 + 0)
              rw [hT] at this
              exact this
            have HQ2 : Hid (Oe u5 (tl T (n * 4 + 0)) D ∧ ∀ x ∈ D, ∀ y ∈ S, y.1 ≠ x.1) := ⟨HQ.out.1, HQ.out.2.2⟩
            have H3 : Hid (Db I ((wr.heap.size, .cells #[.int .i64 (v 0), .int .i64 (v 1), .int .i64 (v 2)] 71 (0, 0)) :: (D ++ S)) w0 (wr.alloc (.cells #[.int .i64 (v 0), .int .i64 (v 1), .int .i64 (v 2)] 71 (0, 0))) b g f k L (N + n * 12 + 12) (sw T)) := Db.push HQ.out.2.1 _
            have HN : Hid (∀ x ∈ D, x.1 < wr.heap.size) := fun x hx => lt_of_heap (HQ.out.2.1.at_ (x := x) (by simp [hx]))
            have HL : Hid ((tl T (n * 4 + 0)).length + 1 ≤ 1000000) := by show _ ≤ _; have := tl_len T (n * 4 + 0); omega
            clear HQ hT ha hb hc' hm
            go_wp2_with fail
            obtain ⟨W3, hW3⟩ : ∃ W3, W3 = wr.alloc (.cells #[.int .i64 (v 0), .int .i64 (v 1), .int .i64 (v 2)] 71 (0, 0)) := ⟨_, rfl⟩
            rw [← hW3] at H3
            have HW : Hid (_) := hW3.symm
            rw [HW.out]
            clear hW3 HW
            have HD : Hid (_) := Db.still H3.out (Kept.refl [] W3).drew
            have HC : Hid (W3.drew.cell? ⟨wr.heap.size, 0, none⟩ = some (.int .i64 (v 0)) ∧ W3.drew.cell? ⟨wr.heap.size, 1, none⟩ = some (.int .i64 (v 1)) ∧ W3.drew.cell? ⟨wr.heap.size, 2, none⟩ = some (.int .i64 (v 2))) := by
              have hb := HD.out.at_ (List.mem_cons_self ..)
              exact ⟨(cell_of_row _ _ _ _ _ _ hb).trans rfl, (cell_of_row _ _ _ _ _ _ hb).trans rfl, (cell_of_row _ _ _ _ _ _ hb).trans rfl⟩
            clear H3
            go_region_held3 (fun w' => w'.cell? ⟨wr.heap.size, 0, none⟩ = some (.int .i64 (v 0)) ∧ w'.cell? ⟨wr.heap.size, 1, none⟩ = some (.int .i64 (v 1)) ∧ w'.cell? ⟨wr.heap.size, 2, none⟩ = some (.int .i64 (v 2))) (first | exact HC.out | exact z4 | exact z5 | go_keep)
              (first
                | (go_at_call 35; refine (d_text (v 1) (v 2) _).mono ?_; rintro e' w4 ⟨rfl, k4⟩; have z4 := (⟨k4.cell HC.out.1 (by simp), k4.cell HC.out.2.1 (by simp), k4.cell HC.out.2.2 (by simp)⟩ : w4.cell? ⟨wr.heap.size, 0, none⟩ = some (.int .i64 (v 0)) ∧ w4.cell? ⟨wr.heap.size, 1, none⟩ = some (.int .i64 (v 1)) ∧ w4.cell? ⟨wr.heap.size, 2, none⟩ = some (.int .i64 (v 2))); obtain ⟨v', w', D', hr, hu', hR', hd'⟩ := Db.append (D := D) (S := (wr.heap.size, .cells #[.int .i64 (v 0), .int .i64 (v 1), .int .i64 (v 2)] 71 (0, 0)) :: S) (Db.fewer (Db.still HD.out k4) (mem_swap D S _) (mem_box HS.out.1 D _)) HQ2.out.1 (List.mem_cons_of_mem _ HS.out.1) (ne_new2 HQ2.out.2 HN.out) (strOfNums (unp (v 1) ++ unp (v 2)), v 0) HL.out 28; have HA : Hid (_) := hr; clear hr)
                | (refine step_append_run (by rfl) _ _ 28 28 (by rfl) _ _ (by rfl) (by rfl) v' w' HA.out ?_; have z5 := slot_cells hR'))
            have H5 : Hid (Oe v' (tl T (n * 4 + 1)) D' ∧ Db I (D' ++ S) w0 w' b g f k L (N + n * 12 + 12) (sw T) ∧ ∀ x ∈ D', ∀ y ∈ S, y.1 ≠ x.1) := ⟨by rw [HT.out, ← HE.out]; exact hu', Db.fewer hR' (mem_less D' S _) (by simp [HS.out.1]), fun x hx y hy => hd' x hx y (List.mem_cons_of_mem _ hy)⟩
            clear z4 z5 k4 hR' hu' hd' HA HD HC HQ2 HE HT HN HL
            go_wp2_with fail
            go_roundw
            case rel => exact ⟨1, D', by go_num, by omega, H5.out⟩
            case measure => simp [intOf]
        · -- slot 1
          rcases hT : T (n * 4 + 1) with _ | e
          · have z1 : (v 4 == 0 && v 5 == 0) = true := by rw [HV.out 4, HV.out 5, show n * 12 + 4 = (n * 4 + 1) * 3 + 1 by omega, show n * 12 + 5 = (n * 4 + 1) * 3 + 2 by omega, sw_1, sw_2, hT]; rfl
            have htl : tl T (n * 4 + 2) = tl T (n * 4 + 1) := by
              have := tl_succ T (n * 4 + 1)
              rw [hT] at this
              simpa using this
            have H3 : Hid (Oe u5 (tl T (n * 4 + 2)) D ∧ Db I (D ++ S) w0 (wr.alloc (.cells #[.int .i64 (v 3), .int .i64 (v 4), .int .i64 (v 5)] 71)) b g f k L (N + n * 12 + 12) (sw T) ∧ ∀ x ∈ D, ∀ y ∈ S, y.1 ≠ x.1) := ⟨by rw [htl]; exact HQ.out.1, Db.still HQ.out.2.1 ((Kept.refl [] wr).alloc _), HQ.out.2.2⟩
            clear HQ hT htl
            go_wp2_with fail
            go_roundw
            case rel => exact ⟨2, D, by go_num, by omega, H3.out⟩
            case measure => simp [intOf]
          · have ha : v 3 = e.2 := by rw [HV.out 3, show n * 12 + 3 = (n * 4 + 1) * 3 by omega, sw_0, hT]
            have hb : v 4 = sp0 e.1 := by rw [HV.out 4, show n * 12 + 4 = (n * 4 + 1) * 3 + 1 by omega, sw_1, hT]
            have hc' : v 5 = sp1 e.1 := by rw [HV.out 5, show n * 12 + 5 = (n * 4 + 1) * 3 + 2 by omega, sw_2, hT]
            have hm := HS.out.2.2.may _ _ (show n * 4 + 1 < 32 by omega) hT
            have z1 : (v 4 == 0 && v 5 == 0) = false := by
              rw [hb, hc', ← Bool.not_eq_true]
              simp only [Bool.and_eq_true, beq_iff_eq]
              exact sp_some hm
            have HE : Hid ((strOfNums (unp (v 4) ++ unp (v 5)), v 3) = e) := by show _ = e; rw [ha, hb, hc', sp_back hm]
            have HT : Hid (tl T (n * 4 + 2) = tl T (n * 4 + 1) ++ [e]) := by
              have := tl_succ T (n * 4 + 1)
              rw [hT] at this
              exact this
            have HQ2 : Hid (Oe u5 (tl T (n * 4 + 1)) D ∧ ∀ x ∈ D, ∀ y ∈ S, y.1 ≠ x.1) := ⟨HQ.out.1, HQ.out.2.2⟩
            have H3 : Hid (Db I ((wr.heap.size, .cells #[.int .i64 (v 3), .int .i64 (v 4), .int .i64 (v 5)] 71 (0, 0)) :: (D ++ S)) w0 (wr.alloc (.cells #[.int .i64 (v 3), .int .i64 (v 4), .int .i64 (v 5)] 71 (0, 0))) b g f k L (N + n * 12 + 12) (sw T)) := Db.push HQ.out.2.1 _
            have HN : Hid (∀ x ∈ D, x.1 < wr.heap.size) := fun x hx => lt_of_heap (HQ.out.2.1.at_ (x := x) (by simp [hx]))
            have HL : Hid ((tl T (n * 4 + 1)).length + 1 ≤ 1000000) := by show _ ≤ _; have := tl_len T (n * 4 + 1); omega
            clear HQ hT ha hb hc' hm
            go_wp2_with fail
            obtain ⟨W3, hW3⟩ : ∃ W3, W3 = wr.alloc (.cells #[.int .i64 (v 3), .int .i64 (v 4), .int .i64 (v 5)] 71 (0, 0)) := ⟨_, rfl⟩
            rw [← hW3] at H3
            have HW : Hid (_) := hW3.symm
            rw [HW.out]
            clear hW3 HW
            have HD : Hid (_) := Db.still H3.out (Kept.refl [] W3).drew
            have HC : Hid (W3.drew.cell? ⟨wr.heap.size, 0, none⟩ = some (.int .i64 (v 3)) ∧ W3.drew.cell? ⟨wr.heap.size, 1, none⟩ = some (.int .i64 (v 4)) ∧ W3.drew.cell? ⟨wr.heap.size, 2, none⟩ = some (.int .i64 (v 5))) := by
              have hb := HD.out.at_ (List.mem_cons_self ..)
              exact ⟨(cell_of_row _ _ _ _ _ _ hb).trans rfl, (cell_of_row _ _ _ _ _ _ hb).trans rfl, (cell_of_row _ _ _ _ _ _ hb).trans rfl⟩
            clear H3
            go_region_held3 (fun w' => w'.cell? ⟨wr.heap.size, 0, none⟩ = some (.int .i64 (v 3)) ∧ w'.cell? ⟨wr.heap.size, 1, none⟩ = some (.int .i64 (v 4)) ∧ w'.cell? ⟨wr.heap.size, 2, none⟩ = some (.int .i64 (v 5))) (first | exact HC.out | exact z4 | exact z5 | go_keep)
              (first
                | (go_at_call 35; refine (d_text (v 4) (v 5) _).mono ?_; rintro e' w4 ⟨rfl, k4⟩; have z4 := (⟨k4.cell HC.out.1 (by simp), k4.cell HC.out.2.1 (by simp), k4.cell HC.out.2.2 (by simp)⟩ : w4.cell? ⟨wr.heap.size, 0, none⟩ = some (.int .i64 (v 3)) ∧ w4.cell? ⟨wr.heap.size, 1, none⟩ = some (.int .i64 (v 4)) ∧ w4.cell? ⟨wr.heap.size, 2, none⟩ = some (.int .i64 (v 5))); obtain ⟨v', w', D', hr, hu', hR', hd'⟩ := Db.append (D := D) (S := (wr.heap.size, .cells #[.int .i64 (v 3), .int .i64 (v 4), .int .i64 (v 5)] 71 (0, 0)) :: S) (Db.fewer (Db.still HD.out k4) (mem_swap D S _) (mem_box HS.out.1 D _)) HQ2.out.1 (List.mem_cons_of_mem _ HS.out.1) (ne_new2 HQ2.out.2 HN.out) (strOfNums (unp (v 4) ++ unp (v 5)), v 3) HL.out 28; have HA : Hid (_) := hr; clear hr)
                | (refine step_append_run (by rfl) _ _ 28 28 (by rfl) _ _ (by rfl) (by rfl) v' w' HA.out ?_; have z5 := slot_cells hR'))
            have H5 : Hid (Oe v' (tl T (n * 4 + 2)) D' ∧ Db I (D' ++ S) w0 w' b g f k L (N + n * 12 + 12) (sw T) ∧ ∀ x ∈ D', ∀ y ∈ S, y.1 ≠ x.1) := ⟨by rw [HT.out, ← HE.out]; exact hu', Db.fewer hR' (mem_less D' S _) (by simp [HS.out.1]), fun x hx y hy => hd' x hx y (List.mem_cons_of_mem _ hy)⟩
            clear z4 z5 k4 hR' hu' hd' HA HD HC HQ2 HE HT HN HL
            go_wp2_with fail
            go_roundw
            case rel => exact ⟨2, D', by go_num, by omega, H5.out⟩
            case measure => simp [intOf]
        · -- slot 2
          rcases hT : T (n * 4 + 2) with _ | e
          · have z1 : (v 7 == 0 && v 8 == 0) = true := by rw [HV.out 7, HV.out 8, show n * 12 + 7 = (n * 4 + 2) * 3 + 1 by omega, show n * 12 + 8 = (n * 4 + 2) * 3 + 2 by omega, sw_1, sw_2, hT]; rfl
            have htl : tl T (n * 4 + 3) = tl T (n * 4 + 2) := by
              have := tl_succ T (n * 4 + 2)
              rw [hT] at this
              simpa using this
            have H3 : Hid (Oe u5 (tl T (n * 4 + 3)) D ∧ Db I (D ++ S) w0 (wr.alloc (.cells #[.int .i64 (v 6), .int .i64 (v 7), .int .i64 (v 8)] 71)) b g f k L (N + n * 12 + 12) (sw T) ∧ ∀ x ∈ D, ∀ y ∈ S, y.1 ≠ x.1) := ⟨by rw [htl]; exact HQ.out.1, Db.still HQ.out.2.1 ((Kept.refl [] wr).alloc _), HQ.out.2.2⟩
            clear HQ hT htl
            go_wp2_with fail
            go_roundw
            case rel => exact ⟨3, D, by go_num, by omega, H3.out⟩
            case measure => simp [intOf]
          · have ha : v 6 = e.2 := by rw [HV.out 6, show n * 12 + 6 = (n * 4 + 2) * 3 by omega, sw_0, hT]
            have hb : v 7 = sp0 e.1 := by rw [HV.out 7, show n * 12 + 7 = (n * 4 + 2) * 3 + 1 by omega, sw_1, hT]
            have hc' : v 8 = sp1 e.1 := by rw [HV.out 8, show n * 12 + 8 = (n * 4 + 2) * 3 + 2 by omega, sw_2, hT]
            have hm := HS.out.2.2.may _ _ (show n * 4 + 2 < 32 by omega) hT
            have z1 : (v 7 == 0 && v 8 == 0) = false := by
              rw [hb, hc', ← Bool.not_eq_true]
              simp only [Bool.and_eq_true, beq_iff_eq]
              exact sp_some hm
            have HE : Hid ((strOfNums (unp (v 7) ++ unp (v 8)), v 6) = e) := by show _ = e; rw [ha, hb, hc', sp_back hm]
            have HT : Hid (tl T (n * 4 + 3) = tl T (n * 4 + 2) ++ [e]) := by
              have := tl_succ T (n * 4 + 2)
              rw [hT] at this
              exact this
            have HQ2 : Hid (Oe u5 (tl T (n * 4 + 2)) D ∧ ∀ x ∈ D, ∀ y ∈ S, y.1 ≠ x.1) := ⟨HQ.out.1, HQ.out.2.2⟩
            have H3 : Hid (Db I ((wr.heap.size, .cells #[.int .i64 (v 6), .int .i64 (v 7), .int .i64 (v 8)] 71 (0, 0)) :: (D ++ S)) w0 (wr.alloc (.cells #[.int .i64 (v 6), .int .i64 (v 7), .int .i64 (v 8)] 71 (0, 0))) b g f k L (N + n * 12 + 12) (sw T)) := Db.push HQ.out.2.1 _
            have HN : Hid (∀ x ∈ D, x.1 < wr.heap.size) := fun x hx => lt_of_heap (HQ.out.2.1.at_ (x := x) (by simp [hx]))
            have HL : Hid ((tl T (n * 4 + 2)).length + 1 ≤ 1000000) := by show _ ≤ _; have := tl_len T (n * 4 + 2); omega
            clear HQ hT ha hb hc' hm
            go_wp2_with fail
            obtain ⟨W3, hW3⟩ : ∃ W3, W3 = wr.alloc (.cells #[.int .i64 (v 6), .int .i64 (v 7), .int .i64 (v 8)] 71 (0, 0)) := ⟨_, rfl⟩
            rw [← hW3] at H3
            have HW : Hid (_) := hW3.symm
            rw [HW.out]
            clear hW3 HW
            have HD : Hid (_) := Db.still H3.out (Kept.refl [] W3).drew
            have HC : Hid (W3.drew.cell? ⟨wr.heap.size, 0, none⟩ = some (.int .i64 (v 6)) ∧ W3.drew.cell? ⟨wr.heap.size, 1, none⟩ = some (.int .i64 (v 7)) ∧ W3.drew.cell? ⟨wr.heap.size, 2, none⟩ = some (.int .i64 (v 8))) := by
              have hb := HD.out.at_ (List.mem_cons_self ..)
              exact ⟨(cell_of_row _ _ _ _ _ _ hb).trans rfl, (cell_of_row _ _ _ _ _ _ hb).trans rfl, (cell_of_row _ _ _ _ _ _ hb).trans rfl⟩
            clear H3
            go_region_held3 (fun w' => w'.cell? ⟨wr.heap.size, 0, none⟩ = some (.int .i64 (v 6)) ∧ w'.cell? ⟨wr.heap.size, 1, none⟩ = some (.int .i64 (v 7)) ∧ w'.cell? ⟨wr.heap.size, 2, none⟩ = some (.int .i64 (v 8))) (first | exact HC.out | exact z4 | exact z5 | go_keep)
              (first
                | (go_at_call 35; refine (d_text (v 7) (v 8) _).mono ?_; rintro e' w4 ⟨rfl, k4⟩; have z4 := (⟨k4.cell HC.out.1 (by simp), k4.cell HC.out.2.1 (by simp), k4.cell HC.out.2.2 (by simp)⟩ : w4.cell? ⟨wr.heap.size, 0, none⟩ = some (.int .i64 (v 6)) ∧ w4.cell? ⟨wr.heap.size, 1, none⟩ = some (.int .i64 (v 7)) ∧ w4.cell? ⟨wr.heap.size, 2, none⟩ = some (.int .i64 (v 8))); obtain ⟨v', w', D', hr, hu', hR', hd'⟩ := Db.append (D := D) (S := (wr.heap.size, .cells #[.int .i64 (v 6), .int .i64 (v 7), .int .i64 (v 8)] 71 (0, 0)) :: S) (Db.fewer (Db.still HD.out k4) (mem_swap D S _) (mem_box HS.out.1 D _)) HQ2.out.1 (List.mem_cons_of_mem _ HS.out.1) (ne_new2 HQ2.out.2 HN.out) (strOfNums (unp (v 7) ++ unp (v 8)), v 6) HL.out 28; have HA : Hid (_) := hr; clear hr)
                | (refine step_append_run (by rfl) _ _ 28 28 (by rfl) _ _ (by rfl) (by rfl) v' w' HA.out ?_; have z5 := slot_cells hR'))
            have H5 : Hid (Oe v' (tl T (n * 4 + 3)) D' ∧ Db I (D' ++ S) w0 w' b g f k L (N + n * 12 + 12) (sw T) ∧ ∀ x ∈ D', ∀ y ∈ S, y.1 ≠ x.1) := ⟨by rw [HT.out, ← HE.out]; exact hu', Db.fewer hR' (mem_less D' S _) (by simp [HS.out.1]), fun x hx y hy => hd' x hx y (List.mem_cons_of_mem _ hy)⟩
            clear z4 z5 k4 hR' hu' hd' HA HD HC HQ2 HE HT HN HL
            go_wp2_with fail
            go_roundw
            case rel => exact ⟨3, D', by go_num, by omega, H5.out⟩
            case measure => simp [intOf]
        · -- slot 3
          rcases hT : T (n * 4 + 3) with _ | e
          · have z1 : (v 10 == 0 && v 11 == 0) = true := by rw [HV.out 10, HV.out 11, show n * 12 + 10 = (n * 4 + 3) * 3 + 1 by omega, show n * 12 + 11 = (n * 4 + 3) * 3 + 2 by omega, sw_1, sw_2, hT]; rfl
            have htl : tl T (n * 4 + 4) = tl T (n * 4 + 3) := by
              have := tl_succ T (n * 4 + 3)
              rw [hT] at this
              simpa using this
            have H3 : Hid (Oe u5 (tl T (n * 4 + 4)) D ∧ Db I (D ++ S) w0 (wr.alloc (.cells #[.int .i64 (v 9), .int .i64 (v 10), .int .i64 (v 11)] 71)) b g f k L (N + n * 12 + 12) (sw T) ∧ ∀ x ∈ D, ∀ y ∈ S, y.1 ≠ x.1) := ⟨by rw [htl]; exact HQ.out.1, Db.still HQ.out.2.1 ((Kept.refl [] wr).alloc _), HQ.out.2.2⟩
            clear HQ hT htl
            go_wp2_with fail
            go_roundw
            case rel => exact ⟨4, D, by go_num, by omega, H3.out⟩
            case measure => simp [intOf]
          · have ha : v 9 = e.2 := by rw [HV.out 9, show n * 12 + 9 = (n * 4 + 3) * 3 by omega, sw_0, hT]
            have hb : v 10 = sp0 e.1 := by rw [HV.out 10, show n * 12 + 10 = (n * 4 + 3) * 3 + 1 by omega, sw_1, hT]
            have hc' : v 11 = sp1 e.1 := by rw [HV.out 11, show n * 12 + 11 = (n * 4 + 3) * 3 + 2 by omega, sw_2, hT]
            have hm := HS.out.2.2.may _ _ (show n * 4 + 3 < 32 by omega) hT
            have z1 : (v 10 == 0 && v 11 == 0) = false := by
              rw [hb, hc', ← Bool.not_eq_true]
              simp only [Bool.and_eq_true, beq_iff_eq]
              exact sp_some hm
            have HE : Hid ((strOfNums (unp (v 10) ++ unp (v 11)), v 9) = e) := by show _ = e; rw [ha, hb, hc', sp_back hm]
            have HT : Hid (tl T (n * 4 + 4) = tl T (n * 4 + 3) ++ [e]) := by
              have := tl_succ T (n * 4 + 3)
              rw [hT] at this
              exact this
            have HQ2 : Hid (Oe u5 (tl T (n * 4 + 3)) D ∧ ∀ x ∈ D, ∀ y ∈ S, y.1 ≠ x.1) := ⟨HQ.out.1, HQ.out.2.2⟩
            have H3 : Hid (Db I ((wr.heap.size, .cells #[.int .i64 (v 9), .int .i64 (v 10), .int .i64 (v 11)] 71 (0, 0)) :: (D ++ S)) w0 (wr.alloc (.cells #[.int .i64 (v 9), .int .i64 (v 10), .int .i64 (v 11)] 71 (0, 0))) b g f k L (N + n * 12 + 12) (sw T)) := Db.push HQ.out.2.1 _
            have HN : Hid (∀ x ∈ D, x.1 < wr.heap.size) := fun x hx => lt_of_heap (HQ.out.2.1.at_ (x := x) (by simp [hx]))
            have HL : Hid ((tl T (n * 4 + 3)).length + 1 ≤ 1000000) := by show _ ≤ _; have := tl_len T (n * 4 + 3); omega
            clear HQ hT ha hb hc' hm
            go_wp2_with fail
            obtain ⟨W3, hW3⟩ : ∃ W3, W3 = wr.alloc (.cells #[.int .i64 (v 9), .int .i64 (v 10), .int .i64 (v 11)] 71 (0, 0)) := ⟨_, rfl⟩
            rw [← hW3] at H3
            have HW : Hid (_) := hW3.symm
            rw [HW.out]
            clear hW3 HW
            have HD : Hid (_) := Db.still H3.out (Kept.refl [] W3).drew
            have HC : Hid (W3.drew.cell? ⟨wr.heap.size, 0, none⟩ = some (.int .i64 (v 9)) ∧ W3.drew.cell? ⟨wr.heap.size, 1, none⟩ = some (.int .i64 (v 10)) ∧ W3.drew.cell? ⟨wr.heap.size, 2, none⟩ = some (.int .i64 (v 11))) := by
              have hb := HD.out.at_ (List.mem_cons_self ..)
              exact ⟨(cell_of_row _ _ _ _ _ _ hb).trans rfl, (cell_of_row _ _ _ _ _ _ hb).trans rfl, (cell_of_row _ _ _ _ _ _ hb).trans rfl⟩
            clear H3
            go_region_held3 (fun w' => w'.cell? ⟨wr.heap.size, 0, none⟩ = some (.int .i64 (v 9)) ∧ w'.cell? ⟨wr.heap.size, 1, none⟩ = some (.int .i64 (v 10)) ∧ w'.cell? ⟨wr.heap.size, 2, none⟩ = some (.int .i64 (v 11))) (first | exact HC.out | exact z4 | exact z5 | go_keep)
              (first
                | (go_at_call 35; refine (d_text (v 10) (v 11) _).mono ?_; rintro e' w4 ⟨rfl, k4⟩; have z4 := (⟨k4.cell HC.out.1 (by simp), k4.cell HC.out.2.1 (by simp), k4.cell HC.out.2.2 (by simp)⟩ : w4.cell? ⟨wr.heap.size, 0, none⟩ = some (.int .i64 (v 9)) ∧ w4.cell? ⟨wr.heap.size, 1, none⟩ = some (.int .i64 (v 10)) ∧ w4.cell? ⟨wr.heap.size, 2, none⟩ = some (.int .i64 (v 11))); obtain ⟨v', w', D', hr, hu', hR', hd'⟩ := Db.append (D := D) (S := (wr.heap.size, .cells #[.int .i64 (v 9), .int .i64 (v 10), .int .i64 (v 11)] 71 (0, 0)) :: S) (Db.fewer (Db.still HD.out k4) (mem_swap D S _) (mem_box HS.out.1 D _)) HQ2.out.1 (List.mem_cons_of_mem _ HS.out.1) (ne_new2 HQ2.out.2 HN.out) (strOfNums (unp (v 10) ++ unp (v 11)), v 9) HL.out 28; have HA : Hid (_) := hr; clear hr)
                | (refine step_append_run (by rfl) _ _ 28 28 (by rfl) _ _ (by rfl) (by rfl) v' w' HA.out ?_; have z5 := slot_cells hR'))
            have H5 : Hid (Oe v' (tl T (n * 4 + 4)) D' ∧ Db I (D' ++ S) w0 w' b g f k L (N + n * 12 + 12) (sw T) ∧ ∀ x ∈ D', ∀ y ∈ S, y.1 ≠ x.1) := ⟨by rw [HT.out, ← HE.out]; exact hu', Db.fewer hR' (mem_less D' S _) (by simp [HS.out.1]), fun x hx y hy => hd' x hx y (List.mem_cons_of_mem _ hy)⟩
            clear z4 z5 k4 hR' hu' hd' HA HD HC HQ2 HE HT HN HL
            go_wp2_with fail
            go_roundw
            case rel => exact ⟨4, D', by go_num, by omega, H5.out⟩
            case measure => simp [intOf]
        · have H3 : Hid (_ ∧ _ ∧ _) := ⟨HQ.out.1, Db.mono HQ.out.2.1 (show _ ≤ N + (n + 1) * 12 by omega), HQ.out.2.2⟩
          rw [show n * 4 + 4 = (n + 1) * 4 by omega] at H3
          clear HQ
          go_wp2_with fail
          go_roundw
          case rel => exact ⟨n + 1, D, by go_num, by omega, H3.out⟩
          case measure => simp [intOf]; omega
    · have i0 : ¬ (n : Int) < 8 := by omega
      have e8 : n = 8 := by omega
      have H3 : Hid (Oe u5 (tl T 32) D ∧ Db I (D ++ S) w0 wr b g f k L (N + 96) (sw T) ∧ ∀ x ∈ D, ∀ y ∈ S, y.1 ≠ x.1) := by
        have := HJ.out
        rw [e8] at this
        exact this
      clear HJ e8
      have HO : Hid (Er 61 wr 0 u5 (tl T 32)) := H3.out.1.own fun x hx => H3.out.2.1.at_ (by simp [hx])
      go_wp2_with fail
      refine (en_sort HO.out (by have := tl_len T 32; omega)).mono ?_
      rintro e w2 ⟨rfl, E, hE, hp, hs, hK⟩
      obtain ⟨D', h5, h6, h7⟩ := Db.sorted H3.out.2.1 H3.out.1 HS.out.1 H3.out.2.2 hE hp.length_eq hK
      have hR : Rise E := rise_of_sorted hs ((hp.pairwise_iff (fun {x y} h e => h e.symm)).2 (tl_names HS.out.2.2 32 (Nat.le_refl _)))
      have H4 : Hid (_ ∧ _ ∧ _ ∧ _ ∧ _) := ⟨h5, hR, fun x => (by rw [hp.mem_iff, mem_tl] : x ∈ E ↔ ∃ t, t < 32 ∧ T t = some x), h6, h7⟩
      clear H3 HO hE hp hs hK h5 h6 h7 hR
      go_wp2_with fail
      go_ret
      exact ⟨_, D', E, rfl, H4.out⟩

end Go.Proofs.YtnbbcbjfejdceaaDoor
