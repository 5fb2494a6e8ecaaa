/-
  join: two rising rows become one.
-/
import Derived.Test.YtndcbpbigbjfeaaPu
namespace Go.Proofs.Ytndcbpbigbjfeaa
open Go.RowKit
set_option linter.unusedSimpArgs false
set_option linter.unusedVariables false

def lenOf : Value → Nat | .slice _ n _ => n | _ => 0

/-- In a region that draws its order: an append by its run. -/
theorem step_append_run {P : Program} {ops : Array Oper} {o : Oper} {a : Act} {w : World} {K : Act → World → Prop} {Q : Exit → Act → World → Prop} {E : Prop} (hg : o.guard = none) (s x : Operand) (t1 t2 : TypeId)
    (hop : o.op = Op.call { callee := Callee.builtin Builtin.append, args := #[s, x], argTypes := #[t1, t2] }) (v u : Value) (hs : a.eval s = v) (hx : a.eval x = u) (v' : Value) (w' : World)
    (hrun : (Builtin.append_ #[t1, t2] o.type #[v, u]).run P w = .ok v' w') (hK : K (a.put o.dst v') w') : if Region.wanted o (yielded ops a.tmps) = true then Oper.wp P o a w K Q else E := by
  have hw : Region.wanted o (yielded ops a.tmps) = true := by simp [Region.wanted, hg]
  rw [if_pos hw]
  unfold Oper.wp
  simp [execOp, hop, resolve, invoke, builtin, hs, hx, hrun, Result.andThen]
  exact hK

/-- An append of one int that was just laid in a block. -/
theorem append_new {w0 w : World} {H : Nat} {v : Value} {P : List Int} (h : Own w H v P) (hS : Below H w0 w) (hH : H ≤ w.heap.size) (y : Int) (hb : (P.length + 1) * 8 ≤ 140737488355328) (ty : TypeId) :
    ∃ v' w', (Builtin.append_ #[24, 24] ty #[v, .slice (some ⟨w.heap.size, 0, none⟩) 1 1]).run Try.prog (w.alloc (.cells #[.int .i64 y] 3)) = .ok v' w' ∧ Own w' H v' (P ++ [y]) ∧ Below H w0 w' ∧ w.grownBy w' v.ownBlock ∧ (v'.ownBlock = v.ownBlock ∨ ∀ k, v'.ownBlock = some k → w.heap.size ≤ k) := by
  have hc : (w.alloc (.cells #[.int .i64 y] 3)).cell? ⟨w.heap.size, 0, none⟩ = some (.int .i64 y) := by
    have e := heap_alloc_new w (.cells #[.int .i64 y] 3)
    simp only [World.cell?, e]; rfl
  have hO : Own (w.alloc (.cells #[.int .i64 y] 3)) H v P := World.ownsRow.alloc h _
  obtain ⟨v', w', h1, h2, h3, h4⟩ := append_any (ys := [y]) (u := .slice (some ⟨w.heap.size, 0, none⟩) 1 1) hO ⟨_, 1, rfl, Nat.le_refl _, fun i hi => ⟨w.heap.size, 0, rfl, by
    have : i = 0 := by simp at hi; exact hi
    subst this; exact hc⟩⟩ (by simp; omega) hb ty
  have hsz : w.heap.size + 1 = (w.alloc (.cells #[.int .i64 y] 3)).heap.size := by simp
  have hB : Below H w0 (w.alloc (.cells #[.int .i64 y] 3)) := hS.alloc hH _
  refine ⟨v', w', h1, h2, hB.grown h3 (by omega) (fun k hk => (h.block k hk).1), ⟨h3.os, h3.tape, h3.output, by have := h3.size; omega, fun k hk hne => ?_⟩, ?_⟩
  · rw [h3.block k (by omega) hne]
    show (w.alloc (.cells #[.int .i64 y] 3)).heap[k]? = _
    exact Below.heap_alloc _ _ _ hk
  · rcases h4 with h4 | h4
    · exact Or.inl h4
    · right
      intro k hk
      rw [h4] at hk
      simp at hk
      omega

set_option maxRecDepth 100000 in
set_option maxHeartbeats 4000000 in
theorem p_join {w : World} {u v : Value} {X Y : List Int} (hu : Rd w u X) (hv : Rd w v Y) (hx : Rises X) (hy : Rises Y) (hn : (X.length + Y.length) * 8 ≤ 140737488355328) :
    Calls Try.prog 28 #[u, v] w fun e w' => ∃ r, e = .returned r ∧ Own w' w.heap.size r (canon (X ++ Y)) ∧ Still w w' := by
  obtain ⟨i0, hi, hz0, hz1, hz2⟩ := info_parts info3
  obtain ⟨a0, c0, rfl, l0, -⟩ := id hu
  obtain ⟨a1, c1, rfl, l1, -⟩ := id hv
  have HJ : Hid (Jn X Y [] X Y ∧ Rd w _ X ∧ Rd w _ Y) := ⟨Jn.start hx hy, hu, hv⟩
  have hsum : IntKind.i64.wrap ((X.length : Int) + (Y.length : Int)) = ((X.length + Y.length : Nat) : Int) := by rw [IntKind.wrap_i64]; omega
  clear hu hv hx hy
  go_enter Try.func28, Try.ntmps28
  go_wp2_with (first
    | (at_make; refine wpList_make_own _ rfl _ _ 24 rfl w.heap.size 3 i0 (.int .i64 0) 1 Try.underlying24 hi hz0 hz1 _ _ _ (X.length + Y.length) rfl rfl (by first | exact hsum | rfl | (simp; omega)) ?b1 ?b2 (by simp) ?_))
  case b1 => rw [hz2]; omega
  case b2 => unfold maxLen; omega
  intro w1 hown hgrow
  have HI : Hid (Own w1 w.heap.size (.slice (some ⟨w.heap.size, 0, none⟩) 0 (X.length + Y.length)) [] ∧ Still w w1) := ⟨hown, (Below.refl _ _).grown hgrow (Nat.le_refl _) (fun k hk => by cases hk)⟩
  clear hown hgrow
  go_wp2_with fail
  go_loopw [0, 1, 5] (fun p q s wr => ∃ X' Y' P, lenOf p = X'.length ∧ lenOf q = Y'.length ∧ Hid (Jn X Y P X' Y' ∧ Rd w p X' ∧ Rd w q Y' ∧ Own wr w.heap.size s P ∧ Still w wr)) (fun p q _ _ => lenOf p + lenOf q)
  case atStart => exact ⟨X, Y, [], rfl, rfl, HJ.out.1, HJ.out.2.1, HJ.out.2.2, HI.out⟩
  case round =>
    clear HI HJ
    obtain ⟨X', Y', P, -, -, HR⟩ := hrel
    cases X' with
    | nil =>
      obtain ⟨pa, pc, rfl⟩ := HR.out.2.1.nil
      obtain ⟨qa, qc, rfl, -⟩ := id HR.out.2.2.1
      have HP : Hid (_) := HR.out
      have HB1 : Hid ((P.length + 0) * 8 ≤ 140737488355328) := by have := HR.out.1.len; show _ ≤ _; simp at this; omega
      have HB2 : Hid (((P ++ []).length + Y'.length) * 8 ≤ 140737488355328) := by have := HR.out.1.len; show _ ≤ _; simp at this ⊢; omega
      clear HR
      obtain ⟨v1, w1, hr1, ho1, hg1, hb1⟩ := append_any HP.out.2.2.2.1 (HP.out.2.1.still HP.out.2.2.2.2) HP.out.2.2.2.2.size HB1.out 24
      obtain ⟨v2, w2, hr2, ho2, hg2, hb2⟩ := append_any ho1 (HP.out.2.2.1.still (HP.out.2.2.2.2.grown hg1 HP.out.2.2.2.2.size (fun k hk => (HP.out.2.2.2.1.block k hk).1))) (Nat.le_trans HP.out.2.2.2.2.size hg1.size) HB2.out 24
      have HF : Hid (Own w2 w.heap.size v2 (canon (X ++ Y)) ∧ Still w w2) := by
        rw [HP.out.1.done (by simp)] at ho2
        exact ⟨ho2, (HP.out.2.2.2.2.grown hg1 HP.out.2.2.2.2.size (fun k hk => (HP.out.2.2.2.1.block k hk).1)).grown hg2 (Nat.le_trans HP.out.2.2.2.2.size hg1.size) (fun k hk => (ho1.block k hk).1)⟩
      have hr1' : Hid (_ = _) := hr1
      have hr2' : Hid (_ = _) := hr2
      clear hr1 hr2 ho1 hg1 hb1 ho2 hg2 hb2
      try simp only [List.length_nil, List.length_cons] at hr1' hr2'
      have tok1 : True := trivial
      go_wp2_with (first
        | (at_builtin; clear tok1; refine wpList_append_run _ (by rfl) _ _ 24 24 (by rfl) _ _ (by rfl) (by rfl) _ _ hr1'.out ?_)
        | (at_builtin; refine wpList_append_run _ (by rfl) _ _ 24 24 (by rfl) _ _ (by rfl) (by rfl) _ _ hr2'.out ?_))
      go_ret
      exact ⟨_, rfl, HF.out⟩
    | cons x X' =>
      cases Y' with
      | nil =>
        obtain ⟨pb, po, pc, rfl, -, -, -⟩ := HR.out.2.1.cons
        obtain ⟨qa, qc, rfl⟩ := HR.out.2.2.1.nil
        have k1 : (0 : Int) < (X'.length : Int) + 1 := by omega
        have HP : Hid (_) := HR.out
        have HB1 : Hid ((P.length + (x :: X').length) * 8 ≤ 140737488355328) := by have := HR.out.1.len; show _ ≤ _; simp at this ⊢; omega
        have HB2 : Hid (((P ++ x :: X').length + 0) * 8 ≤ 140737488355328) := by have := HR.out.1.len; show _ ≤ _; simp at this ⊢; omega
        clear HR
        obtain ⟨v1, w1, hr1, ho1, hg1, hb1⟩ := append_any HP.out.2.2.2.1 (HP.out.2.1.still HP.out.2.2.2.2) HP.out.2.2.2.2.size HB1.out 24
        obtain ⟨v2, w2, hr2, ho2, hg2, hb2⟩ := append_any ho1 (HP.out.2.2.1.still (HP.out.2.2.2.2.grown hg1 HP.out.2.2.2.2.size (fun k hk => (HP.out.2.2.2.1.block k hk).1))) (Nat.le_trans HP.out.2.2.2.2.size hg1.size) HB2.out 24
        have HF : Hid (Own w2 w.heap.size v2 (canon (X ++ Y)) ∧ Still w w2) := by
          rw [HP.out.1.done (by simp)] at ho2
          exact ⟨ho2, (HP.out.2.2.2.2.grown hg1 HP.out.2.2.2.2.size (fun k hk => (HP.out.2.2.2.1.block k hk).1)).grown hg2 (Nat.le_trans HP.out.2.2.2.2.size hg1.size) (fun k hk => (ho1.block k hk).1)⟩
        have hr1' : Hid (_ = _) := hr1
        have hr2' : Hid (_ = _) := hr2
        clear hr1 hr2 ho1 hg1 hb1 ho2 hg2 hb2
        try simp only [List.length_nil, List.length_cons] at hr1' hr2'
        have tok1 : True := trivial
        go_wp2_with (first
          | (at_builtin; clear tok1; refine wpList_append_run _ (by rfl) _ _ 24 24 (by rfl) _ _ (by rfl) (by rfl) _ _ hr1'.out ?_)
          | (at_builtin; refine wpList_append_run _ (by rfl) _ _ 24 24 (by rfl) _ _ (by rfl) (by rfl) _ _ hr2'.out ?_))
        go_ret
        exact ⟨_, rfl, HF.out⟩
      | cons y Y' =>
        obtain ⟨pb, po, pc, rfl, px, ph, pt⟩ := HR.out.2.1.cons
        obtain ⟨qb, qo, qc, rfl, qx, qh, qt⟩ := HR.out.2.2.1.cons
        have k1 : (0 : Int) < (X'.length : Int) + 1 := by omega
        have k2 : (0 : Int) < (Y'.length : Int) + 1 := by omega
        have j1 : (1 : Int) ≤ (X'.length : Int) + 1 := by omega
        have j2 : (1 : Int) ≤ (Y'.length : Int) + 1 := by omega
        have hp1 := cell_still HR.out.2.2.2.2 ph
        have hq1 := cell_still HR.out.2.2.2.2 qh
        have HT : Hid (_ ∧ _) := ⟨pt, qt⟩
        clear ph qh pt qt
        have HB : Hid ((P.length + 1) * 8 ≤ 140737488355328) := by have := HR.out.1.len; show _ ≤ _; simp at this ⊢; omega
        rcases Int.lt_trichotomy x y with hl | rfl | hl
        · have HM : Hid (_ ∧ _ ∧ _) := ⟨HR.out.1.left hl, HR.out.2.2.2, HR.out.2.2.1⟩
          clear HR
          have hl2 : True := trivial
          go_wp2_with fail
          go_quiet (fail)
          go_wp2_with fail
          obtain ⟨v1, w3, hr1, ho1, hs1, -, -⟩ := append_new (w := wr.drewN (nq + 1)) HM.out.2.1.1 (Below.drewN HM.out.2.1.2 (nq + 1)) HM.out.2.1.2.size x HB.out 24
          have HF : Hid (_ ∧ _) := ⟨ho1, hs1⟩
          clear ho1 hs1
          go_region_law (refine step_append_run (by rfl) _ _ 24 24 (by rfl) _ _ (by rfl) (by rfl) _ _ hr1 ?_)
          all_goals go_wp2
          all_goals go_roundw
          case rel => (refine ⟨_, _, _, ⟨X', rfl, y :: Y', rfl, _, HM.out.1, ?_, HM.out.2.2, HF.out.1, HF.out.2⟩, rfl, rfl, rfl⟩; first | exact HT.out.1 _ (fun _ => rfl) | exact HT.out.1 _ (fun hpc => absurd rfl hpc) | (subst h; exact HT.out.1 _ (fun hpc => absurd rfl hpc)))
          case measure => simp [lenOf]
          case rel => (refine ⟨_, _, _, ⟨X', rfl, y :: Y', rfl, _, HM.out.1, ?_, HM.out.2.2, HF.out.1, HF.out.2⟩, rfl, rfl, rfl⟩; first | exact HT.out.1 _ (fun _ => rfl) | exact HT.out.1 _ (fun hpc => absurd rfl hpc) | (subst h; exact HT.out.1 _ (fun hpc => absurd rfl hpc)))
          case measure => simp [lenOf]
        · have HM : Hid (_ ∧ _ ∧ _) := ⟨HR.out.1.skip, HR.out.2.2.2, HR.out.2.2.1⟩
          clear HR
          go_wp2_with fail
          go_quiet (fail)
          revert nq; intro n1
          go_wp2_with fail
          go_quiet (fail)
          revert nq; intro n2
          go_wp2
          all_goals go_roundw
          case rel => exact ⟨X', x :: Y', P, rfl, rfl, HM.out.1, HT.out.1 _ (fun hpc => by rw [if_neg hpc]), HM.out.2.2, HM.out.2.1.1, Below.drewN HM.out.2.1.2 _⟩
          case measure => simp [lenOf]
        · have HM : Hid (_ ∧ _ ∧ _) := ⟨HR.out.1.right hl, HR.out.2.2.2, HR.out.2.1⟩
          clear HR
          have hl2 : ¬ x < y := by omega
          go_wp2_with fail
          go_quiet (fail)
          revert nq; intro n1
          go_wp2_with fail
          go_quiet (fail)
          go_wp2_with fail
          obtain ⟨v1, w3, hr1, ho1, hs1, -, -⟩ := append_new (w := wr.drewN (n1 + nq + 1)) HM.out.2.1.1 (Below.drewN HM.out.2.1.2 (n1 + nq + 1)) HM.out.2.1.2.size y HB.out 24
          have HF : Hid (_ ∧ _) := ⟨ho1, hs1⟩
          clear ho1 hs1
          go_region_law (refine step_append_run (by rfl) _ _ 24 24 (by rfl) _ _ (by rfl) (by rfl) _ _ hr1 ?_)
          all_goals go_wp2
          all_goals go_roundw
          case rel => (refine ⟨_, _, _, ⟨x :: X', rfl, Y', rfl, _, HM.out.1, HM.out.2.2, ?_, HF.out.1, HF.out.2⟩, rfl, rfl, rfl⟩; first | exact HT.out.2 _ (fun _ => rfl) | (subst h; exact HT.out.2 _ (fun hpc => absurd rfl hpc)))
          case measure => simp [lenOf]
          case rel => (refine ⟨_, _, _, ⟨x :: X', rfl, Y', rfl, _, HM.out.1, HM.out.2.2, ?_, HF.out.1, HF.out.2⟩, rfl, rfl, rfl⟩; first | exact HT.out.2 _ (fun _ => rfl) | (subst h; exact HT.out.2 _ (fun hpc => absurd rfl hpc)))
          case measure => simp [lenOf]

end Go.Proofs.Ytndcbpbigbjfeaa
