/-
  The law's own list of entries beside a directory: an entry put in its place, an entry less.
-/
import Derived.Test.YtnbbcbjfejdceaaDoorMa
namespace Go.Proofs.YtnbbcbjfejdceaaDoor
open Go.RowKit
set_option linter.unusedVariables false

/-- The block of a list of entries. -/
abbrev mbx (u : Value) : Obj := .cells #[u] 30 (0, 0)

/-- A list of entries (E) beside a directory (E0). -/
def Md (I : Trc → Prop) (S : List (Nat × Obj)) (w0 w : World) (b g f k L N : Nat) (E0 : List En) (mb : Nat) (E : List En) : Prop :=
  ∃ u D, Oe u E D ∧ Dd I (D ++ (mb, mbx u) :: S) w0 w b g f k L N E0 ∧ (∀ x ∈ D, ∀ y ∈ (mb, mbx u) :: S, y.1 ≠ x.1) ∧ (∀ y ∈ S, y.1 ≠ mb) ∧ (g, box b f) ∈ S

section
variable {I : Trc → Prop} {S : List (Nat × Obj)} {w0 w : World} {b g f k L N : Nat} {E0 : List En}

theorem Md.mo {mb : Nat} {E : List En} (h : Md I S w0 w b g f k L N E0 mb E) : Mo w mb E := by
  obtain ⟨u, D, h1, h2, h3, h4, h5⟩ := h
  exact ⟨u, h2.at_ (x := (mb, mbx u)) (by simp), h1.own fun x hx => h2.at_ (by simp [hx])⟩

theorem Md.still {mb : Nat} {E : List En} (h : Md I S w0 w b g f k L N E0 mb E) {w' : World} (hk : Kept [] w w') : Md I S w0 w' b g f k L N E0 mb E := by
  obtain ⟨u, D, h1, h2, h3⟩ := h
  exact ⟨u, D, h1, h2.still hk, h3⟩

theorem Md.mono {mb : Nat} {E : List En} (h : Md I S w0 w b g f k L N E0 mb E) {N' : Nat} (hN : N ≤ N') : Md I S w0 w b g f k L N' E0 mb E := by
  obtain ⟨u, D, h1, h2, h3⟩ := h
  exact ⟨u, D, h1, h2.mono hN, h3⟩

/-- An append to a row of entries beside a directory. -/
theorem Dd.append {D : List (Nat × Obj)} {u : Value} {E : List En} (h : Dd I (D ++ S) w0 w b g f k L N E0) (hu : Oe u E D) (hS : (g, box b f) ∈ S) (hd : ∀ x ∈ D, ∀ y ∈ S, y.1 ≠ x.1) (e : En) (hb : E.length + 1 ≤ 1000000) (ty : TypeId) :
    ∃ v' w' D', (Builtin.append_ #[28, 28] ty #[u, .slice (some ⟨w.heap.size, 0, none⟩) 1 1]).run Tryd.prog (w.alloc (.cells #[.string e.1, .int .i64 e.2] 61)) = .ok v' w' ∧ Oe v' (E ++ [e]) D' ∧ Dd I (D' ++ S) w0 w' b g f k L N E0 ∧ ∀ x ∈ D', ∀ y ∈ S, y.1 ≠ x.1 := by
  obtain ⟨T, h1, h2, h3⟩ := h
  obtain ⟨v', w', D', hr, h4, h5, h6⟩ := h3.append hu hS hd e hb ty
  exact ⟨v', w', D', hr, h4, ⟨T, h1, h2, h5⟩, h6⟩

/-- The list's block takes a new row. -/
theorem Dd.swap {D D2 : List (Nat × Obj)} {mb : Nat} {u o : Value} {F : List En} (h : Dd I (D2 ++ (D ++ (mb, mbx u) :: S)) w0 w b g f k L N E0) (ho : Oe o F D2) (hd : ∀ x ∈ D2, ∀ y ∈ D ++ (mb, mbx u) :: S, y.1 ≠ x.1) (hm : ∀ y ∈ S, y.1 ≠ mb) (hS : (g, box b f) ∈ S) :
    Md I S w0 (w.setCell ⟨mb, 0, none⟩ o) b g f k L N E0 mb F := by
  have hmb := h.at_ (x := (mb, mbx u)) (by simp)
  refine ⟨o, D2, ho, ?_, fun x hx y hy => ?_, hm, hS⟩
  · refine h.turn [mb] (fun x hx => ?_) ((Kept.refl [mb] w).setCell (Or.inl (by simp)) o) _ (by simp [hS]) fun x hx => ?_
    · rw [List.mem_singleton] at hx
      exact ⟨mbx u, by simp [hx]⟩
    · rcases List.mem_append.1 hx with hx | hx
      · refine ⟨Or.inr ⟨x.2, by simp [hx]⟩, ?_⟩
        rw [block_other (fun e => hd x hx (mb, mbx u) (by simp) e.symm)]
        exact h.at_ (by simp [hx])
      · rcases List.mem_cons.1 hx with rfl | hx
        · refine ⟨Or.inr ⟨mbx u, by simp⟩, ?_⟩
          rw [heap_setCell_same _ _ _ _ _ _ hmb]
          rfl
        · refine ⟨Or.inr ⟨x.2, by simp [hx]⟩, ?_⟩
          rw [block_other (hm x hx)]
          exact h.at_ (by simp [hx])
  · rcases List.mem_cons.1 hy with rfl | hy
    · exact hd x hx (mb, mbx u) (by simp)
    · exact hd x hx y (by simp [hy])

/-- What the walks read of the list. -/
theorem Dd.list {D D1 D2 : List (Nat × Obj)} {mb : Nat} {u : Value} {E : List En} (h : Dd I (D2 ++ (D1 ++ (mb, mbx u) :: S)) w0 w b g f k L N E0) (hu : Oe u E D) (hD : ∀ x ∈ D, x ∈ D1) :
    w.cell? ⟨mb, 0, none⟩ = some u ∧ w.frozen? ⟨mb, 0, none⟩ = false ∧ ∃ a c, u = .slice a E.length c ∧ ∀ i (hi : i < E.length), ∃ gg, a = some ⟨gg, 0, none⟩ ∧ w.cell? ⟨gg, i * 2, none⟩ = some (.string (E[i]).1) ∧ w.cell? ⟨gg, i * 2 + 1, none⟩ = some (.int .i64 (E[i]).2) := by
  have hmb := h.at_ (x := (mb, mbx u)) (by simp)
  refine ⟨(cell_of_row _ _ _ _ _ _ hmb).trans rfl, frozen_of_row _ _ _ _ _ hmb, ?_⟩
  exact (hu.own (w := w) fun x hx => h.at_ (by simp [hD x hx])).slice

end

theorem drop_cons {E : List En} {j : Nat} (h : j < E.length) : E.drop j = E[j] :: E.drop (j + 1) := List.drop_eq_getElem_cons h

set_option maxRecDepth 100000 in
set_option maxHeartbeats 8000000 in
theorem m_put {I : Trc → Prop} {S : List (Nat × Obj)} {w0 w : World} {b g f k L N : Nat} {E0 : List En} {mb : Nat} {E : List En} (h : Md I S w0 w b g f k L N E0 mb E) (hl : E.length ≤ 1000) (hE : ∀ x ∈ E, x.1.size ≤ 12) (s : ByteArray) (n : Int) (hs : s.size ≤ 12) :
    Calls Tryd.prog 41 #[.pointer (some ⟨mb, 0, none⟩), .agg #[.string s, .int .i64 n]] w fun e w' => e = .returned (.tuple #[]) ∧ Md I S w0 w' b g f k L N E0 mb (putE E (s, n)) := by
  obtain ⟨u, D, h1, h2, h3, h4, h5⟩ := h
  have HM : Hid (Oe u E D ∧ (∀ y ∈ S, y.1 ≠ mb) ∧ (g, box b f) ∈ S) := ⟨h1, h4, h5⟩
  have H0 : Hid (Dd I ([] ++ (((w.heap.size, .cells #[.string s, .int .i64 n] 61 (0, 0)) :: D) ++ (mb, mbx u) :: S)) w0 (w.alloc (.cells #[.string s, .int .i64 n] 61)) b g f k L N E0) := h2.push _
  clear h1 h2 h3 h4 h5
  generalize hbx : w.heap.size = bx at H0
  have HB : Hid (_) := hbx
  clear hbx
  obtain ⟨D1, hD1⟩ : ∃ D1, D1 = (bx, Obj.cells #[.string s, .int .i64 n] 61 (0, 0)) :: D := ⟨_, rfl⟩
  rw [← hD1] at H0
  have HD1 : Hid ((bx, Obj.cells #[.string s, .int .i64 n] 61 (0, 0)) ∈ D1 ∧ ∀ x ∈ D, x ∈ D1) := ⟨by rw [hD1]; simp, fun x hx => by rw [hD1]; simp [hx]⟩
  clear hD1
  obtain ⟨-, -, a, c, hu, -⟩ := Dd.list H0.out HM.out.1 HD1.out.2
  subst hu
  have HBX : Hid (∀ D2 W, Dd I (D2 ++ (D1 ++ (mb, mbx (.slice a E.length c)) :: S)) w0 W b g f k L N E0 → W.cell? ⟨bx, 0, none⟩ = some (.string s) ∧ W.cell? ⟨bx, 1, none⟩ = some (.int .i64 n)) := fun D2 W hW => by
    have hb := hW.at_ (x := (bx, Obj.cells #[.string s, .int .i64 n] 61 (0, 0))) (by simp [HD1.out.1])
    exact ⟨(cell_of_row _ _ _ _ _ _ hb).trans rfl, (cell_of_row _ _ _ _ _ _ hb).trans rfl⟩
  have HSZ : Hid (∀ x ∈ E, x.1.size ≤ 12) := hE
  have HG : Hid ((g, box b f) ∈ D1 ++ (mb, mbx (.slice a E.length c)) :: S) := by show _ ∈ _; simp [HM.out.2.2]
  clear hE
  go_enter Tryd.func41, Tryd.ntmps41
  go_wp2_with fail
  rw [HB.out]
  go_loopw [6, 4, 5] (fun i o d wr => ∃ (j : Nat) (F : List En) (D2 : List (Nat × Obj)) (q : Bool), i = .int .i64 (j : Int) ∧ d = .bool q ∧ j ≤ E.length ∧ F.length ≤ 1001 ∧ Hid (Oe o F D2 ∧ Dd I (D2 ++ (D1 ++ (mb, mbx (.slice a E.length c)) :: S)) w0 wr b g f k L N E0 ∧ (∀ x ∈ D2, ∀ y ∈ D1 ++ (mb, mbx (.slice a E.length c)) :: S, y.1 ≠ x.1) ∧ putE E (s, n) = F ++ if q then E.drop j else putE (E.drop j) (s, n))) (fun i _ _ _ => (E.length - intOf i).toNat)
  case atStart => exact ⟨0, [], [], false, rfl, rfl, by omega, by simp, Or.inl ⟨rfl, rfl, rfl⟩, H0.out, by simp, by simp⟩
  case round =>
    clear H0
    obtain ⟨j, F, D2, q, rfl, rfl, hj, hF, HJ⟩ := hrel
    obtain ⟨c0, c1, -⟩ := Dd.list HJ.out.2.1 HM.out.1 HD1.out.2
    obtain ⟨x0, x1⟩ := HBX.out _ _ HJ.out.2.1
    by_cases hlt : j < E.length
    · have i0 : (0 : Int) ≤ (j : Int) := by omega
      have i1 : (j : Int) < (E.length : Int) := by omega
      obtain ⟨-, -, a', c', hu, hr⟩ := Dd.list HJ.out.2.1 HM.out.1 HD1.out.2
      rw [Value.slice.injEq] at hu
      obtain ⟨rfl, -, -⟩ := hu
      obtain ⟨gg, rfl, r0, r1⟩ := hr j hlt
      clear hr
      have HR : Hid (∀ D2 W, Dd I (D2 ++ (D1 ++ (mb, mbx (.slice (some ⟨gg, 0, none⟩) E.length c)) :: S)) w0 W b g f k L N E0 → W.cell? ⟨mb, 0, none⟩ = some (.slice (some ⟨gg, 0, none⟩) E.length c) ∧ W.cell? ⟨gg, j * 2, none⟩ = some (.string (E[j]).1) ∧ W.cell? ⟨gg, j * 2 + 1, none⟩ = some (.int .i64 (E[j]).2)) := fun D2 W hW => by
        obtain ⟨k0, -, a', c', hu, hr⟩ := Dd.list hW HM.out.1 HD1.out.2
        rw [Value.slice.injEq] at hu
        obtain ⟨hu1, -, -⟩ := hu
        subst hu1
        obtain ⟨g2, e2, r0, r1⟩ := hr j hlt
        have e3 : gg = g2 := by simpa using e2
        subst e3
        exact ⟨k0, r0, r1⟩
      have HP : Hid (E.drop j = E[j] :: E.drop (j + 1)) := drop_cons hlt
      have HEn : Hid (((E[j]).1, (E[j]).2) = E[j]) := rfl
      have z2 : (E[j]).1.size ≤ 12 := HSZ.out _ (List.getElem_mem hlt)
      obtain ⟨xs, hxs⟩ : ∃ xs, (E[j]).1 = xs := ⟨_, rfl⟩
      obtain ⟨xn, hxn⟩ : ∃ xn, (E[j]).2 = xn := ⟨_, rfl⟩
      have HX : Hid (E[j] = (xs, xn)) := by show _ = _; rw [← hxs, ← hxn]
      rw [hxs] at z2 r0 HR HEn
      rw [hxn] at r1 HR HEn
      clear hxs hxn HEn
      rcases q with _ | _
      · go_wp2_with fail
        go_quiet ((go_at_call 59; exact Calls.quiet_of (f_below s xs _ hs z2)))
        have H2 : Hid (_ ∧ _ ∧ _) := ⟨HJ.out.1, Dd.still HJ.out.2.1 ((Kept.refl [] wr).drewN nq), HJ.out.2.2.1⟩
        have HE : Hid (putE E (s, n) = F ++ putE (E.drop j) (s, n)) := HJ.out.2.2.2
        clear HJ c0 c1 x0 x1 r0 r1
        obtain ⟨W, hW⟩ : ∃ W, W = wr.drewN nq := ⟨_, rfl⟩
        rw [← hW] at H2 ⊢
        clear hW
        obtain ⟨x0, x1⟩ := HBX.out _ _ H2.out.2.1
        obtain ⟨c0, r0, r1⟩ := HR.out _ _ H2.out.2.1
        rcases hb : below s xs with _ | _
        · have H3 : Hid (putE E (s, n) = (F ++ [(xs, xn)]) ++ putE (E.drop (j + 1)) (s, n)) := by
            show _ = _
            rw [HE.out, HP.out, HX.out, putE]
            simp [hb]
          have H3' : Hid (F.length + 1 ≤ 1001) := by
            have h7 := congrArg List.length H3.out
            rw [put_length, List.length_append, List.length_append] at h7
            simp only [List.length_cons, List.length_nil] at h7
            show _ ≤ _
            omega
          obtain ⟨v', w', D', hr, hu', hR', hd'⟩ := Dd.append H2.out.2.1 H2.out.1 HG.out H2.out.2.2 (xs, xn) (by omega) 28
          have HA : Hid (_) := hr
          have H4 : Hid (Oe v' (F ++ [(xs, xn)]) D' ∧ _ ∧ _ ∧ _) := ⟨hu', hR', hd', H3.out⟩
          clear hr hu' hR' hd' H2 HE H3 HP
          go_wp2_with (at_builtin; refine wpList_append_run _ rfl _ _ 28 28 rfl _ _ rfl rfl _ _ HA.out ?_)
          go_roundw
          case rel => exact ⟨j + 1, _, D', false, by go_num, rfl, by omega, by rw [List.length_append]; exact H3'.out, H4.out⟩
          case measure => simp [intOf]; omega
        · have H3 : Hid (putE E (s, n) = ((F ++ [(s, n)]) ++ [(xs, xn)]) ++ E.drop (j + 1)) := by
            show _ = _
            rw [HE.out, HP.out, HX.out, putE]
            simp [hb]
          have H3' : Hid (F.length + 2 ≤ 1001) := by
            have h7 := congrArg List.length H3.out
            rw [put_length, List.length_append, List.length_append, List.length_append] at h7
            simp only [List.length_cons, List.length_nil] at h7
            show _ ≤ _
            omega
          obtain ⟨v1, w1, D3, hr1, hu1, hR1, hd1⟩ := Dd.append H2.out.2.1 H2.out.1 HG.out H2.out.2.2 (s, n) (by omega) 28
          obtain ⟨v', w', D', hr, hu', hR', hd'⟩ := Dd.append hR1 hu1 HG.out hd1 (xs, xn) (by rw [List.length_append]; have := H3'.out; simp only [List.length_cons, List.length_nil]; omega) 28
          obtain ⟨c2, r2, r3⟩ := HR.out _ _ hR1
          have HA1 : Hid (_) := hr1
          have HA : Hid (_) := hr
          have H4 : Hid (Oe v' ((F ++ [(s, n)]) ++ [(xs, xn)]) D' ∧ _ ∧ _ ∧ _) := ⟨hu', hR', hd', H3.out⟩
          clear hr hu' hR' hd' H2 HE H3 HP hr1 hu1 hR1 hd1
          have tok1 : True := trivial
          have tok2 : True := trivial
          go_wp2_with (first
            | (at_builtin; clear tok1; refine wpList_append_run _ rfl _ _ 28 28 rfl _ _ rfl rfl _ _ HA1.out ?_)
            | (at_builtin; clear tok2; refine wpList_append_run _ rfl _ _ 28 28 rfl _ _ rfl rfl _ _ HA.out ?_))
          go_roundw
          case rel => exact ⟨j + 1, _, D', true, by go_num, rfl, by omega, by rw [List.length_append, List.length_append]; exact H3'.out, H4.out⟩
          case measure => simp [intOf]; omega
      · go_wp2_with fail
        go_quiet (fail)
        have H2 : Hid (_ ∧ _ ∧ _) := ⟨HJ.out.1, Dd.still HJ.out.2.1 ((Kept.refl [] wr).drewN nq), HJ.out.2.2.1⟩
        have HE : Hid (putE E (s, n) = F ++ E.drop j) := HJ.out.2.2.2
        clear HJ c0 c1 x0 x1 r0 r1
        obtain ⟨W, hW⟩ : ∃ W, W = wr.drewN nq := ⟨_, rfl⟩
        rw [← hW] at H2 ⊢
        clear hW
        obtain ⟨c0, r0, r1⟩ := HR.out _ _ H2.out.2.1
        have H3 : Hid (putE E (s, n) = (F ++ [(xs, xn)]) ++ E.drop (j + 1)) := by
          show _ = _
          rw [HE.out, HP.out, HX.out]
          simp
        have H3' : Hid (F.length + 1 ≤ 1001) := by
          have h7 := congrArg List.length H3.out
          rw [put_length, List.length_append, List.length_append] at h7
          simp only [List.length_cons, List.length_nil] at h7
          show _ ≤ _
          omega
        obtain ⟨v', w', D', hr, hu', hR', hd'⟩ := Dd.append H2.out.2.1 H2.out.1 HG.out H2.out.2.2 (xs, xn) (by omega) 28
        have HA : Hid (_) := hr
        have H4 : Hid (Oe v' (F ++ [(xs, xn)]) D' ∧ _ ∧ _ ∧ _) := ⟨hu', hR', hd', H3.out⟩
        clear hr hu' hR' hd' H2 HE H3 HP
        go_wp2_with (at_builtin; refine wpList_append_run _ rfl _ _ 28 28 rfl _ _ rfl rfl _ _ HA.out ?_)
        go_roundw
        case rel => exact ⟨j + 1, _, D', true, by go_num, rfl, by omega, by rw [List.length_append]; exact H3'.out, H4.out⟩
        case measure => simp [intOf]; omega
    · have i1 : ¬ (j : Int) < (E.length : Int) := by omega
      have HP : Hid (E.drop j = []) := List.drop_eq_nil_of_le (by omega)
      rcases q with _ | _
      · have H3 : Hid (putE E (s, n) = F ++ [(s, n)]) := by
          have := HJ.out.2.2.2
          rw [HP.out] at this
          exact this
        obtain ⟨v', w', D', hr, hu', hR', hd'⟩ := Dd.append HJ.out.2.1 HJ.out.1 HG.out HJ.out.2.2.1 (s, n) (by omega) 28
        obtain ⟨c2, c3, -⟩ := Dd.list hR' HM.out.1 HD1.out.2
        obtain ⟨va, vc, rfl⟩ := hu'.slice
        have HA : Hid (_) := hr
        have H4 : Hid (Md I S w0 (w'.setCell ⟨mb, 0, none⟩ (.slice va (F.length + 1) vc)) b g f k L N E0 mb (putE E (s, n))) := by
          have h7 := Dd.swap hR' hu' hd' HM.out.2.1 HM.out.2.2
          rw [List.length_append] at h7
          show Md _ _ _ _ _ _ _ _ _ _ _ _ _
          rw [H3.out]
          exact h7
        clear hr hu' hR' hd' HJ H3 HP
        go_wp2_with (at_builtin; refine wpList_append_run _ rfl _ _ 28 28 rfl _ _ rfl rfl _ _ HA.out ?_)
        go_end0
        exact ⟨rfl, H4.out⟩
      · have H3 : Hid (putE E (s, n) = F) := by
          have := HJ.out.2.2.2
          rw [HP.out] at this
          show _ = _
          simpa using this
        obtain ⟨va, vc, rfl⟩ := HJ.out.1.slice
        have H4 : Hid (Md I S w0 (wr.setCell ⟨mb, 0, none⟩ (.slice va F.length vc)) b g f k L N E0 mb (putE E (s, n))) := by
          show Md _ _ _ _ _ _ _ _ _ _ _ _ _
          rw [H3.out]
          exact Dd.swap HJ.out.2.1 HJ.out.1 HJ.out.2.2.1 HM.out.2.1 HM.out.2.2
        clear HJ H3 HP
        go_wp2_with fail
        go_end0
        exact ⟨rfl, H4.out⟩

theorem erase_step (E : List En) (k j : Nat) (h : j < E.length) : (E.take (j + 1)).eraseIdx k = (E.take j).eraseIdx k ++ if j = k then [] else [E[j]] := by
  rw [List.take_add_one, List.getElem?_eq_getElem h]
  simp only [Option.toList_some]
  have hl : (E.take j).length = j := by rw [List.length_take]; omega
  rcases Nat.lt_trichotomy k j with h1 | h1 | h1
  · rw [List.eraseIdx_append_of_lt_length (by omega), if_neg (by omega)]
  · subst h1
    rw [List.eraseIdx_append_of_length_le (by omega), if_pos rfl, hl, List.eraseIdx_of_length_le (l := E.take k) (by omega)]
    simp
  · rw [List.eraseIdx_of_length_le (l := E.take j) (by omega), List.eraseIdx_of_length_le (by rw [List.length_append, hl]; simp; omega), if_neg (by omega)]

set_option maxRecDepth 100000 in
set_option maxHeartbeats 8000000 in
theorem m_drop {I : Trc → Prop} {S : List (Nat × Obj)} {w0 w : World} {b g f k L N : Nat} {E0 : List En} {mb : Nat} {E : List En} (h : Md I S w0 w b g f k L N E0 mb E) (hl : E.length ≤ 1000) (z : Nat) :
    Calls Tryd.prog 42 #[.pointer (some ⟨mb, 0, none⟩), .int .i64 (z : Int)] w fun e w' => e = .returned (.tuple #[]) ∧ Md I S w0 w' b g f k L N E0 mb (E.eraseIdx z) := by
  obtain ⟨u, D, h1, h2, h3, h4, h5⟩ := h
  have HM : Hid (Oe u E D ∧ (∀ y ∈ S, y.1 ≠ mb) ∧ (g, box b f) ∈ S) := ⟨h1, h4, h5⟩
  have H0 : Hid (Dd I ([] ++ (D ++ (mb, mbx u) :: S)) w0 w b g f k L N E0) := h2
  clear h1 h2 h3 h4 h5
  obtain ⟨-, -, a, c, hu, -⟩ := Dd.list H0.out HM.out.1 (fun x hx => hx)
  subst hu
  have HG : Hid ((g, box b f) ∈ D ++ (mb, mbx (.slice a E.length c)) :: S) := by show _ ∈ _; simp [HM.out.2.2]
  go_enter Tryd.func42, Tryd.ntmps42
  go_wp2_with fail
  go_loopw [5, 4] (fun i o wr => ∃ (j : Nat) (D2 : List (Nat × Obj)), i = .int .i64 (j : Int) ∧ j ≤ E.length ∧ Hid (Oe o ((E.take j).eraseIdx z) D2 ∧ Dd I (D2 ++ (D ++ (mb, mbx (.slice a E.length c)) :: S)) w0 wr b g f k L N E0 ∧ (∀ x ∈ D2, ∀ y ∈ D ++ (mb, mbx (.slice a E.length c)) :: S, y.1 ≠ x.1))) (fun i _ _ => (E.length - intOf i).toNat)
  case atStart => exact ⟨0, [], rfl, by omega, Or.inl ⟨rfl, by simp, rfl⟩, H0.out, by simp⟩
  case round =>
    clear H0
    obtain ⟨j, D2, rfl, hj, HJ⟩ := hrel
    obtain ⟨c0, c1, a', c', hu, hr⟩ := Dd.list HJ.out.2.1 HM.out.1 (fun x hx => hx)
    rw [Value.slice.injEq] at hu
    obtain ⟨rfl, -, -⟩ := hu
    by_cases hlt : j < E.length
    · have i0 : (0 : Int) ≤ (j : Int) := by omega
      have i1 : (j : Int) < (E.length : Int) := by omega
      obtain ⟨gg, rfl, r0, r1⟩ := hr j hlt
      clear hr
      have HP : Hid (_) := erase_step E z j hlt
      by_cases hz : j = z
      · have t0 : ((j : Int) != (z : Int)) = false := by simp; omega
        have t1 : (j : Int) = (z : Int) := by omega
        have H4 : Hid (Oe u4 ((E.take (j + 1)).eraseIdx z) D2 ∧ _ ∧ _) := ⟨by rw [HP.out, if_pos hz, List.append_nil]; exact HJ.out.1, HJ.out.2⟩
        clear HJ HP
        go_wp2_with fail
        go_roundw
        case rel => exact ⟨j + 1, D2, by go_num, by omega, H4.out⟩
        case measure => simp [intOf]; omega
      · have t0 : ((j : Int) != (z : Int)) = true := by simp; omega
        have t1 : ¬ (j : Int) = (z : Int) := by omega
        obtain ⟨v', w', D', hr, hu', hR', hd'⟩ := Dd.append HJ.out.2.1 HJ.out.1 HG.out HJ.out.2.2 E[j] (by have h1 := List.length_eraseIdx_le (E.take j) z; rw [List.length_take] at h1; omega) 28
        have HA : Hid (_) := hr
        have H4 : Hid (Oe v' ((E.take (j + 1)).eraseIdx z) D' ∧ _ ∧ _) := ⟨by rw [HP.out, if_neg hz]; exact hu', hR', hd'⟩
        clear hr hu' hR' hd' HJ HP
        go_wp2_with (at_builtin; refine wpList_append_run _ rfl _ _ 28 28 rfl _ _ rfl rfl _ _ HA.out ?_)
        go_roundw
        case rel => exact ⟨j + 1, D', by go_num, by omega, H4.out⟩
        case measure => simp [intOf]; omega
    · have i1 : ¬ (j : Int) < (E.length : Int) := by omega
      have e : E.take j = E := List.take_of_length_le (by omega)
      obtain ⟨va, vc, rfl⟩ := HJ.out.1.slice
      have H4 : Hid (Md I S w0 (wr.setCell ⟨mb, 0, none⟩ (.slice va ((E.take j).eraseIdx z).length vc)) b g f k L N E0 mb (E.eraseIdx z)) := by
        have h7 := Dd.swap HJ.out.2.1 HJ.out.1 HJ.out.2.2 HM.out.2.1 HM.out.2.2
        have e2 : (E.take j).eraseIdx z = E.eraseIdx z := by rw [e]
        show Md _ _ _ _ _ _ _ _ _ _ _ _ _
        rw [← e2]
        exact h7
      clear HJ hr e
      go_wp2_with fail
      go_end0
      exact ⟨rfl, H4.out⟩

end Go.Proofs.YtnbbcbjfejdceaaDoor
