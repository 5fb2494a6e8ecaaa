/-
  Rows of descriptors (a core, a descriptor, a number each) beside the words; List; rows held against others, and spoilt.
-/
import Derived.Test.YtolbjmckebicfaaFy
import Derived.Test.YtolbjmckebicfaaOwn
import Derived.OwnWalk
import Derived.Deep.AppendLies
import Derived.BigQuiet
import Derived.ChangeOld
namespace Go.Proofs.Ytolbjmckebicfaa
open Go.RowKit
set_option linter.unusedVariables false

theorem ret_bool {x y : Bool} (h : x = y) : Ending.returned (.bool x) = .returned (.bool y) := by rw [h]

/-- A descriptor: core, place, number. -/
abbrev De := Int × Int × Int

/-- Descriptors as cells. -/
def flat (E : List De) : List Value := E.flatMap fun e => [.int .i64 e.1, .int .i64 e.2.1, .int .i64 e.2.2]

theorem flat_length (E : List De) : (flat E).length = E.length * 3 := by
  unfold flat
  induction E with
  | nil => rfl
  | cons x E ih => simp at ih ⊢; omega

theorem flat_append (E F : List De) : flat (E ++ F) = flat E ++ flat F := by simp [flat]

theorem flat_get (E : List De) : ∀ i x, E[i]? = some x → (flat E)[i * 3]? = some (.int .i64 x.1) ∧ (flat E)[i * 3 + 1]? = some (.int .i64 x.2.1) ∧ (flat E)[i * 3 + 2]? = some (.int .i64 x.2.2) := by
  induction E with
  | nil => intro i x h; simp at h
  | cons y E ih =>
    intro i x h
    cases i with
    | zero => simp at h; subst h; simp [flat]
    | succ i =>
      have := ih i x (by simpa using h)
      have e : flat (y :: E) = .int .i64 y.1 :: .int .i64 y.2.1 :: .int .i64 y.2.2 :: flat E := by simp [flat]
      rw [e, show (i + 1) * 3 = i * 3 + 1 + 1 + 1 by omega]
      simpa using this

theorem flat_one (E : List De) : ∀ u ∈ flat E, u.oneCell' = true := by
  intro u hu
  unfold flat at hu
  rw [List.mem_flatMap] at hu
  obtain ⟨e, _, he⟩ := hu
  simp at he
  rcases he with rfl | rfl | rfl <;> rfl

/-- A row of descriptors of the call's own. -/
def Er (w : World) (H : Nat) (v : Value) (E : List De) : Prop := w.ownsRow H 59 3 v E.length (flat E)

theorem Er.nil (w : World) (H : Nat) : Er w H (.slice none 0 0) [] := World.ownsRow_nil w H 59 3

theorem Er.form {w : World} {H : Nat} {v : Value} {E : List De} (h : Er w H v E) : (v = .slice none 0 0 ∧ E = []) ∨
    ∃ g cap cur, v = .slice (some ⟨g, 0, none⟩) E.length cap ∧ H ≤ g ∧ w.heap[g]? = some (.cells cur 59 (0, 0)) ∧ E.length ≤ cap ∧ cap ≤ maxLen ∧ cur.size = cap * 3 ∧ cur.toList.take (E.length * 3) = flat E := by
  rcases h.2 with ⟨h1, h2⟩ | ⟨g, cap, cur, h1, h2, h3, h4, h5, h6, h7⟩
  · exact Or.inl ⟨h1, List.eq_nil_of_length_eq_zero h2⟩
  · exact Or.inr ⟨g, cap, cur, h1, h2, h3, h4, h5, h6, h7⟩

theorem Er.block {w : World} {H : Nat} {v : Value} {E : List De} (h : Er w H v E) : ∀ k, v.ownBlock = some k → H ≤ k ∧ k < w.heap.size := World.ownsRow.lt h

theorem Er.same {w w' : World} {H : Nat} {v : Value} {E : List De} (h : Er w H v E) (hk : ∀ k, v.ownBlock = some k → w'.heap[k]? = w.heap[k]?) : Er w' H v E := by
  refine ⟨h.1, ?_⟩
  rcases h.2 with hn | ⟨g, cap, cur, rfl, hb, hgg, rest⟩
  · exact .inl hn
  · exact .inr ⟨g, cap, cur, rfl, hb, by rw [hk g rfl]; exact hgg, rest⟩

theorem Er.kept {w w' : World} {H : Nat} {v : Value} {E : List De} {F : List Nat} (h : Er w H v E) (k : Kept F w w') (hF : ∀ x ∈ F, v.ownBlock ≠ some x) : Er w' H v E :=
  h.same fun x hx => k.block x (h.block x hx).2 (fun hm => hF x hm hx)

/-- What the walks read: each descriptor's three cells. -/
theorem Er.slice {w : World} {H : Nat} {v : Value} {E : List De} (h : Er w H v E) : ∃ a cap, v = .slice a E.length cap ∧ ∀ i (hi : i < E.length), ∃ g, a = some ⟨g, 0, none⟩ ∧ w.cell? ⟨g, i * 3, none⟩ = some (.int .i64 (E[i]).1) ∧ w.cell? ⟨g, i * 3 + 1, none⟩ = some (.int .i64 (E[i]).2.1) ∧ w.cell? ⟨g, i * 3 + 2, none⟩ = some (.int .i64 (E[i]).2.2) := by
  rcases h.form with ⟨h1, rfl⟩ | ⟨g, c, cur, h1, h2, h3, h4, h5, h6, h7⟩
  · exact ⟨none, 0, h1, fun i hi => by simp at hi⟩
  · refine ⟨_, c, h1, fun i hi => ⟨g, rfl, ?_⟩⟩
    obtain ⟨q0, q1, q2⟩ := flat_get E i _ (List.getElem?_eq_getElem hi)
    rw [← h7, List.getElem?_take_of_lt (by omega)] at q0 q1 q2
    have e0 : cur[i * 3]? = some (.int .i64 (E[i]).1) := by simpa using q0
    have e1 : cur[i * 3 + 1]? = some (.int .i64 (E[i]).2.1) := by simpa using q1
    have e2 : cur[i * 3 + 2]? = some (.int .i64 (E[i]).2.2) := by simpa using q2
    exact ⟨by simp [World.cell?, h3, e0], by simp [World.cell?, h3, e1], by simp [World.cell?, h3, e2]⟩

theorem info59 : (Try.prog.info? 59).map (fun i => (i.zero, i.size, i.bytes)) = some (some (.agg #[.int .i64 0, .int .i64 0, .int .i64 0]), 3, 24) := by kernel_rfl

/-- An append of one descriptor that lies in a block of its own. -/
theorem append_desc {w : World} {H : Nat} {v : Value} {E : List De} (h : Er w H v E) (hH : H ≤ w.heap.size) (b : Nat) (e : De) (h0 : w.cell? ⟨b, 0, none⟩ = some (.int .i64 e.1)) (h1 : w.cell? ⟨b, 1, none⟩ = some (.int .i64 e.2.1)) (h2 : w.cell? ⟨b, 2, none⟩ = some (.int .i64 e.2.2)) (hl : E.length + 1 ≤ 1000000) (ty : TypeId) :
    ∃ g cap w', (Builtin.append_ #[39, 39] ty #[v, .slice (some ⟨b, 0, none⟩) 1 1]).run Try.prog w = .ok (.slice (some ⟨g, 0, none⟩) (E.length + 1) cap) w' ∧ Er w' H (.slice (some ⟨g, 0, none⟩) (E.length + 1) cap) (E ++ [e]) ∧ w.grownBy w' v.ownBlock ∧ (v.ownBlock = some g ∨ g = w.heap.size) ∧ g < w'.heap.size := by
  obtain ⟨i0, hi, hz0, hz1, hz2⟩ := info_parts info59
  obtain ⟨g, cap, w', hr, h2, h3, h4, h5⟩ := run_append_lies (P := Try.prog) w 39 ty H 59 i0 _ 3 24 Try.underlying39 hi hz0 hz1 hz2 rfl (by omega) v E.length (flat E) h ⟨b, 0, none⟩ 1 1 (flat [e]) (by rw [flat_length]; rfl)
    (fun j u hu => by
      have hj : j < 3 := by
        rcases Nat.lt_or_ge j 3 with h | h
        · exact h
        · rw [List.getElem?_eq_none (by rw [flat_length]; exact h)] at hu; cases hu
      rw [add_lit, Nat.zero_add]
      rcases (show j = 0 ∨ j = 1 ∨ j = 2 by omega) with rfl | rfl | rfl
      · rw [h0]; exact hu
      · rw [h1]; exact hu
      · rw [h2]; exact hu)
    (flat_one [e]) (by omega) (by unfold maxLen; omega) (by omega) hH w.heap.size rfl
  refine ⟨g, cap, w', hr, ?_, h3, h4, h5⟩
  unfold Er
  rw [List.length_append, flat_append]
  exact h2

/-- The row of descriptors of a slice that lies in the blocks D. -/
def Oe (u : Value) (E : List De) (D : List (Nat × Obj)) : Prop :=
  (u = .slice none 0 0 ∧ E = [] ∧ D = []) ∨ ∃ g cap cur, u = .slice (some ⟨g, 0, none⟩) E.length cap ∧ D = [(g, .cells cur 59 (0, 0))] ∧ 1 ≤ cap ∧ E.length ≤ cap ∧ cap ≤ maxLen ∧ cur.size = cap * 3 ∧ cur.toList.take (E.length * 3) = flat E

theorem Oe.nil : Oe (.slice none 0 0) [] [] := Or.inl ⟨rfl, rfl, rfl⟩

theorem Oe.own {u : Value} {E : List De} {D : List (Nat × Obj)} (h : Oe u E D) {w : World} (hx : ∀ x ∈ D, w.heap[x.1]? = some x.2) : Er w 0 u E := by
  rcases h with ⟨rfl, rfl, -⟩ | ⟨g, cap, cur, rfl, rfl, h0, h1, h2, h3, h4⟩
  · exact Er.nil w 0
  · exact ⟨by rw [flat_length], Or.inr ⟨g, cap, cur, rfl, by omega, hx _ (List.mem_singleton.2 rfl), h1, h2, h3, h4⟩⟩

theorem Oe.of {w : World} {H : Nat} {u : Value} {E : List De} (h : Er w H u E) (hn : u ≠ .slice none 0 0) (hc : ∀ a n c, u = .slice a n c → 1 ≤ c) : ∃ g o, u.ownBlock = some g ∧ w.heap[g]? = some o ∧ Oe u E [(g, o)] := by
  rcases h.form with ⟨h1, h2⟩ | ⟨g, cap, cur, h1, h2, h3, h4, h5, h6, h7⟩
  · exact absurd h1 hn
  · exact ⟨g, _, by rw [h1]; rfl, h3, Or.inr ⟨g, cap, cur, h1, rfl, hc _ _ _ h1, h4, h5, h6, h7⟩⟩

theorem Oe.slice {u : Value} {E : List De} {D : List (Nat × Obj)} (h : Oe u E D) : ∃ a c, u = .slice a E.length c := by
  rcases h with ⟨rfl, rfl, -⟩ | ⟨g, cap, cur, rfl, -⟩
  · exact ⟨_, _, rfl⟩
  · exact ⟨_, _, rfl⟩

theorem Oe.block {u : Value} {E : List De} {D : List (Nat × Obj)} (h : Oe u E D) : ∀ x, u.ownBlock = some x → ∃ o, (x, o) ∈ D := fun x hx => by
  rcases h with ⟨rfl, -, -⟩ | ⟨q, cap, cur, rfl, rfl, -⟩
  · simp [Value.ownBlock] at hx
  · simp [Value.ownBlock] at hx; exact ⟨_, by subst hx; exact List.mem_singleton.2 rfl⟩

section
variable {I : Trc → Prop} {S : List (Nat × Obj)} {w0 w : World} {b g f k L N : Nat} {W V : Nat → Nat → Int}

/-- A row's block turned, or a new one in its place. -/
theorem Fb.row {D : List (Nat × Obj)} {u : Value} {E : List De} (h : Fb I (D ++ S) w0 w b g f k L N W) (hu : Oe u E D) (hS : (g, box b f) ∈ S) (hd : ∀ x ∈ D, ∀ y ∈ S, y.1 ≠ x.1) {w' : World} (hK : Kept u.ownBlock.toList w w') {g' : Nat} {o : Obj} (hg' : u.ownBlock = some g' ∨ w.heap.size ≤ g') (ho : w'.heap[g']? = some o) :
    Fb I ([(g', o)] ++ S) w0 w' b g f k L N W ∧ ∀ x ∈ [(g', o)], ∀ y ∈ S, y.1 ≠ x.1 := by
  have hF := hu.block
  have hnew : ∀ y ∈ S, y.1 ≠ g' := fun y hy => by
    rcases hg' with h5 | h5
    · obtain ⟨o', ho'⟩ := hF g' h5
      exact hd _ ho' y hy
    · intro e
      have := lt_of_heap (h.at_ (x := y) (by simp [hy]))
      omega
  refine ⟨?_, fun x hx y hy => by rw [List.mem_singleton] at hx; subst hx; exact hnew y hy⟩
  refine h.turn u.ownBlock.toList (fun x hx => ?_) hK _ (by simp [hS]) fun x hx => ?_
  · obtain ⟨o', ho'⟩ := hF x (by simpa using hx)
    exact ⟨o', by simp [ho']⟩
  · rcases List.mem_append.1 hx with hx | hx
    · rw [List.mem_singleton] at hx
      subst hx
      refine ⟨?_, ho⟩
      rcases hg' with h5 | h5
      · obtain ⟨o', ho'⟩ := hF g' h5
        exact Or.inr ⟨o', by simp [ho']⟩
      · exact Or.inl h5
    · refine ⟨Or.inr ⟨x.2, by simp [hx]⟩, ?_⟩
      rw [hK.block x.1 (lt_of_heap (h.at_ (x := x) (by simp [hx]))) (fun hm => ?_)]
      · exact h.at_ (by simp [hx])
      · obtain ⟨o', ho'⟩ := hF x.1 (by simpa using hm)
        exact hd _ ho' x hx rfl

/-- An append to a row of descriptors beside the words. -/
theorem Fb.append {D : List (Nat × Obj)} {u : Value} {E : List De} (h : Fb I (D ++ S) w0 w b g f k L N W) (hu : Oe u E D) (hS : (g, box b f) ∈ S) (hd : ∀ x ∈ D, ∀ y ∈ S, y.1 ≠ x.1) (e : De) (hb : E.length + 1 ≤ 1000000) (ty : TypeId) :
    ∃ v' w' D', (Builtin.append_ #[39, 39] ty #[u, .slice (some ⟨w.heap.size, 0, none⟩) 1 1]).run Try.prog (w.alloc (.cells #[.int .i64 e.1, .int .i64 e.2.1, .int .i64 e.2.2] 59)) = .ok v' w' ∧ Oe v' (E ++ [e]) D' ∧ Fb I (D' ++ S) w0 w' b g f k L N W ∧ ∀ x ∈ D', ∀ y ∈ S, y.1 ≠ x.1 := by
  have hO : Er w 0 u E := hu.own fun x hx => h.at_ (by simp [hx])
  have hk : Kept [] w (w.alloc (.cells #[.int .i64 e.1, .int .i64 e.2.1, .int .i64 e.2.2] 59)) := (Kept.refl [] w).alloc _
  obtain ⟨g', cap, w', hr, h2, h3, h4, h5⟩ := append_desc (hO.kept hk (by simp)) (Nat.zero_le _) w.heap.size e (by rw [cellB (heap_alloc_new w _)]; rfl) (by rw [cellB (heap_alloc_new w _)]; rfl) (by rw [cellB (heap_alloc_new w _)]; rfl) hb ty
  have hK : Kept (u.ownBlock.toList) w w' := (hk.mono (by simp)).grown h3 fun x hx => Or.inl (by rw [hx]; simp)
  obtain ⟨g2, o, e1, e2, e3⟩ := Oe.of h2 (by simp) (fun a n c hc => by
    rw [Value.slice.injEq] at hc
    rcases h2.form with ⟨h1, -⟩ | ⟨_, _, _, h1, -, -, h8, -⟩
    · cases h1
    · rw [Value.slice.injEq] at h1
      rw [List.length_append] at h8
      have := h1.2.2
      have := hc.2.2
      simp only [List.length_cons, List.length_nil] at h8
      omega)
  have e4 : g' = g2 := by simpa [Value.ownBlock] using e1
  subst e4
  obtain ⟨h6, h7⟩ := h.row hu hS hd hK (by
    rcases h4 with h4 | h4
    · exact Or.inl h4
    · exact Or.inr (by rw [h4]; exact hk.size)) e2
  exact ⟨_, w', _, hr, e3, h6, h7⟩

/-- A row of its own behind it, let go or spoilt. -/
theorem Fb.let {D : List (Nat × Obj)} {u : Value} {F : List De} {w' : World} (h : Fb I (D ++ S) w0 w b g f k L N W) (hu : Oe u F D) (hS : (g, box b f) ∈ S) (hd : ∀ x ∈ D, ∀ y ∈ S, y.1 ≠ x.1) (hK : Kept u.ownBlock.toList w w') : Fb I S w0 w' b g f k L N W := by
  refine h.turn u.ownBlock.toList (fun x hx => ?_) hK S hS fun x hx => ⟨Or.inr ⟨x.2, by simp [hx]⟩, ?_⟩
  · obtain ⟨o, ho⟩ := hu.block x (by simpa using hx)
    exact ⟨o, by simp [ho]⟩
  · rw [hK.block x.1 (lt_of_heap (h.at_ (x := x) (by simp [hx]))) (fun hm => ?_)]
    · exact h.at_ (by simp [hx])
    · obtain ⟨o, ho⟩ := hu.block x.1 (by simpa using hm)
      exact hd _ ho x hx rfl

end

/-- What a core has, of its first n descriptors. -/
def dl (c : Nat) (V : Nat → Int) : Nat → List De
  | 0 => []
  | n + 1 => if V n = 0 then dl c V n else dl c V n ++ [((c : Int), (n : Int), V n)]

theorem dl_len (c : Nat) (V : Nat → Int) (n : Nat) : (dl c V n).length ≤ n := by
  induction n with
  | zero => simp [dl]
  | succ n ih =>
    rw [dl]
    split
    · omega
    · rw [List.length_append, List.length_singleton]; omega

theorem dl_no {c : Nat} {V : Nat → Int} {n : Nat} (h : V n = 0) : dl c V (n + 1) = dl c V n := by rw [dl, if_pos h]

theorem dl_yes {c : Nat} {V : Nat → Int} {n : Nat} (h : V n ≠ 0) : dl c V (n + 1) = dl c V n ++ [((c : Int), (n : Int), V n)] := by rw [dl, if_neg h]

section
variable {I : Trc → Prop} {S : List (Nat × Obj)} {w0 w : World} {b g f k L N : Nat} {W V : Nat → Nat → Int}

theorem d_list_bad (h : Fb I S w0 w b g f k L N W) (c : Int) (hc : c < 0 ∨ (k : Int) ≤ c) :
    Calls Try.prog 12 #[.pointer (some ⟨g, 0, none⟩), .int .i64 c] w fun e w' => e = .returned (.slice none 0 0) ∧ w' = w := by
  go_enter Try.func12, Try.ntmps12
  go_wp2_with fail
  refine (d_wrong_bad h c hc).mono ?_
  rintro e w' ⟨rfl, rfl⟩
  go_wp2_with fail
  go_ret
  exact ⟨rfl, rfl⟩

set_option maxRecDepth 100000 in
set_option maxHeartbeats 4000000 in
theorem d_list (h : Fb I S w0 w b g f k L N W) (c : Nat) (hc : c < k) (hN : N < 900000) :
    Calls Try.prog 12 #[.pointer (some ⟨g, 0, none⟩), .int .i64 (c : Int)] w fun e w' => ∃ u D, e = .returned u ∧ Oe u (dl c (W c) 4) D ∧ Fb I (D ++ S) w0 w' b g f k L (N + 4) W ∧ ∀ x ∈ D, ∀ y ∈ S, y.1 ≠ x.1 := by
  have HS : Hid ((g, box b f) ∈ S) := h.mem
  have H0 : Hid (_) := h
  clear h
  go_enter Try.func12, Try.ntmps12
  go_wp2_with fail
  refine (d_wrong H0.out c hc).mono ?_
  rintro e w1 ⟨rfl, hw⟩
  have hw2 := hw.symm
  subst hw2
  clear hw
  go_wp2_with fail
  go_loopw [12, 5] (fun i u wr => ∃ (n : Nat) (D : List (Nat × Obj)), i = .int .i64 (n : Int) ∧ n ≤ 4 ∧ Hid (Oe u (dl c (W c) n) D ∧ Fb I (D ++ S) w0 wr b g f k L (N + n) W ∧ ∀ x ∈ D, ∀ y ∈ S, y.1 ≠ x.1)) (fun i _ _ => (4 - intOf i).toNat)
  case atStart => exact ⟨0, [], rfl, by omega, Oe.nil, H0.out, by simp⟩
  case round =>
    clear H0
    obtain ⟨n, D, rfl, hn, HJ⟩ := hrel
    by_cases hlt : n < 4
    · have i0 : (n : Int) < 4 := by omega
      go_wp2_with fail
      refine (d_num HJ.out.2.1 c n _ rfl hc hlt (by omega)).mono ?_
      rintro e w2 ⟨rfl, h2⟩
      have H2 : Hid (_ ∧ _ ∧ _) := ⟨HJ.out.1, h2, HJ.out.2.2⟩
      clear h2 HJ
      obtain ⟨v, hv⟩ : ∃ v : Int, v = W c n := ⟨_, rfl⟩
      rw [← hv]
      by_cases hz : v = 0
      · have H3 : Hid (Oe u5 (dl c (W c) (n + 1)) D ∧ Fb I (D ++ S) w0 w2 b g f k L (N + (n + 1)) W ∧ ∀ x ∈ D, ∀ y ∈ S, y.1 ≠ x.1) := by
          show _ ∧ _
          rw [dl_no (hv ▸ hz)]
          exact H2.out
        clear H2 hv
        subst hz
        go_wp2_with fail
        go_roundw
        case rel => exact ⟨n + 1, D, by go_num, by omega, H3.out⟩
        case measure => simp [intOf]; omega
      · obtain ⟨a5, c5, hu5⟩ := H2.out.1.slice
        subst hu5
        obtain ⟨v', w', D', hr, hu', hR', hd'⟩ := Fb.append H2.out.2.1 H2.out.1 HS.out H2.out.2.2 ((c : Int), (n : Int), v) (by have := dl_len c (W c) n; omega) 39
        have HA : Hid (_) := hr
        have H3 : Hid (Oe v' (dl c (W c) (n + 1)) D' ∧ Fb I (D' ++ S) w0 w' b g f k L (N + (n + 1)) W ∧ ∀ x ∈ D', ∀ y ∈ S, y.1 ≠ x.1) := by
          show _ ∧ _
          rw [dl_yes (hv ▸ hz), ← hv]
          exact ⟨hu', hR', hd'⟩
        have z0 : (v == 0) = false := by simpa using hz
        clear H2 hv hr hu' hR' hd'
        go_wp2_with (first
          | (at_builtin; refine wpList_append_run _ rfl _ _ 39 39 rfl _ _ rfl rfl v' w' HA.out ?_))
        go_roundw
        case rel => exact ⟨n + 1, D', by go_num, by omega, H3.out⟩
        case measure => simp [intOf]; omega
    · have e4 : n = 4 := by omega
      subst e4
      go_wp2_with fail
      go_ret
      exact ⟨_, D, rfl, HJ.out⟩

end

/-! ### Two rows of descriptors -/

theorem neq_de (a b c x y z : Int) (w : World) : (binOp .neq 59 (.agg #[.int .i64 a, .int .i64 b, .int .i64 c]) (.agg #[.int .i64 x, .int .i64 y, .int .i64 z])).run Try.prog w = .ok (.bool (!(a == x && (b == y && c == z)))) w := by
  have u3 := Try.underlying3
  have a3 := Try.isAgg3
  have z3 := Try.sizeOf3
  have hS : Try.prog.underlying 59 = some (.struct (Try.prog.fieldsOf 59)) := by kernel_rfl
  have hp : Try.prog.stoodInHeld 59 = false := by kernel_rfl
  rw [run_neq_struct, show (10000 : Nat) = 9999 + 1 from rfl, run_equalIn_agg w 9999 59 _ _ hS hp]
  simp only [Program.fieldsOf, Try.underlying59]
  go_simp
  by_cases h1 : a = x <;> by_cases h2 : b = y <;> by_cases h3 : c = z <;> simp [h1, h2, h3]

theorem neq_same (e : De) (w : World) : (binOp .neq 59 (.agg #[.int .i64 e.1, .int .i64 e.2.1, .int .i64 e.2.2]) (.agg #[.int .i64 e.1, .int .i64 e.2.1, .int .i64 e.2.2])).run Try.prog w = .ok (.bool false) w := by
  rw [neq_de]
  simp

set_option maxRecDepth 100000 in
set_option maxHeartbeats 2000000 in
/-- Two rows that are the same. -/
theorem same_descs {w : World} {H H' : Nat} {u v : Value} {E : List De} (hu : Er w H u E) (hv : Er w H' v E) (hx : E.length ≤ 1000000) :
    Calls Try.prog 25 #[u, v] w fun e w' => e = .returned (.bool true) ∧ Kept [] w w' := by
  obtain ⟨a, ca, rfl, ha⟩ := hu.slice
  obtain ⟨a', ca', rfl, ha'⟩ := hv.slice
  have t1 : (((E.length : Nat) : Int) != ((E.length : Nat) : Int)) = false := by simp
  clear hu hv
  go_enter Try.func25, Try.ntmps25
  go_wp2_with fail
  go_loopw [5] (fun i wr => ∃ j : Nat, i = .int .i64 (j : Int) ∧ j ≤ E.length ∧ Hid (Kept [] w wr)) (fun i _ => (E.length - intOf i).toNat)
  case atStart => exact ⟨0, rfl, by omega, Kept.refl [] w⟩
  case round =>
    obtain ⟨j, rfl, hj, HJ⟩ := hrel
    by_cases hlt : j < E.length
    · have i0 : (j : Int) < (E.length : Int) := by omega
      have i1 : (0 : Int) ≤ (j : Int) := by omega
      obtain ⟨g, rfl, hc0, hc1, hc2⟩ := ha j hlt
      obtain ⟨g', rfl, hd0, hd1, hd2⟩ := ha' j hlt
      have q0 := HJ.out.cell hc0 (by simp)
      have q1 := HJ.out.cell hc1 (by simp)
      have q2 := HJ.out.cell hc2 (by simp)
      have p0 := HJ.out.cell hd0 (by simp)
      have p1 := HJ.out.cell hd1 (by simp)
      have p2 := HJ.out.cell hd2 (by simp)
      clear hc0 hc1 hc2 hd0 hd1 hd2
      have hA : Hid (_ ∧ _) := ⟨ha, ha'⟩
      clear ha ha'
      have hne := neq_same E[j]
      generalize E[j] = x at *
      go_wp2_with fail
      go_quiet (fail)
      go_wp2
      go_roundw
      case rel => exact ⟨j + 1, by go_num, by omega, HJ.out.drewN _⟩
      case measure => simp [intOf]; omega
    · have e : j = E.length := by omega
      subst e
      go_wp2_with fail
      go_ret
      exact ⟨rfl, HJ.out⟩

set_option maxRecDepth 100000 in
set_option maxHeartbeats 2000000 in
/-- A row spoilt. -/
theorem spoil_descs {w : World} {H : Nat} {u : Value} {E : List De} (hu : Er w H u E) (hx : E.length ≤ 1000000) :
    Calls Try.prog 26 #[u] w fun e w' => e = .returned (.tuple #[]) ∧ Kept u.ownBlock.toList w w' := by
  rcases hu.form with ⟨h1, h2⟩ | ⟨g, cap, cur, h1, h2, h3, h4, h5, h6, h7⟩
  · subst h2
    rw [h1]
    go_enter Try.func26, Try.ntmps26
    go_wp2_with fail
    go_loopw [2] (fun i wr => i = .int .i64 0 ∧ wr = w) (fun _ _ => 0)
    case atStart => exact ⟨rfl, rfl⟩
    case round =>
      obtain ⟨rfl, rfl⟩ := hrel
      go_wp2_with fail
      go_end0
      exact ⟨rfl, Kept.refl _ _⟩
  · rw [h1]
    have hob : (Value.slice (some ⟨g, 0, none⟩) E.length cap).ownBlock.toList = [g] := rfl
    rw [hob]
    have HB : Hid (w.heap[g]? = some (.cells cur 59 (0, 0)) ∧ cur.size = cap * 3) := ⟨h3, h6⟩
    have HX : Hid (∀ i, 0 ≤ i → i < E.length → ∃ x, cur[i * 3 + 2]? = some (.int .i64 x)) := fun i _ hi => by
      have h8 := (flat_get E i _ (List.getElem?_eq_getElem hi)).2.2
      rw [← h7, List.getElem?_take_of_lt (by omega)] at h8
      exact ⟨_, by simpa using h8⟩
    clear hu h3 h6 h7 h1 hob
    go_enter Try.func26, Try.ntmps26
    go_wp2_with fail
    go_loopw [2] (fun i wr => ∃ j : Nat, i = .int .i64 (j : Int) ∧ j ≤ E.length ∧ Hid (Kept [g] w wr ∧ ∃ cs, wr.heap[g]? = some (.cells cs 59 (0, 0)) ∧ cs.size = cap * 3 ∧ ∀ i, j ≤ i → i < E.length → ∃ x, cs[i * 3 + 2]? = some (.int .i64 x))) (fun i _ => (E.length - intOf i).toNat)
    case atStart => exact ⟨0, rfl, by omega, Kept.refl _ _, cur, HB.out.1, HB.out.2, HX.out⟩
    case round =>
      obtain ⟨j, rfl, hj, HJ⟩ := hrel
      by_cases hlt : j < E.length
      · have i0 : (j : Int) < (E.length : Int) := by omega
        have i1 : (0 : Int) ≤ (j : Int) := by omega
        obtain ⟨hk, cs, hc, hsz, hx2⟩ := HJ.out
        obtain ⟨x, hxx⟩ := hx2 j (Nat.le_refl _) hlt
        have c0 : wr.cell? ⟨g, j * 3 + 2, none⟩ = some (.int .i64 x) := (cellB hc).trans hxx
        have f0 : wr.frozen? ⟨g, j * 3 + 2, none⟩ = false := block_frozen hc _
        have H2 : Hid (∀ y : Int, Kept [g] w (wr.setCell ⟨g, j * 3 + 2, none⟩ (.int .i64 y)) ∧ ∃ cs, (wr.setCell ⟨g, j * 3 + 2, none⟩ (.int .i64 y)).heap[g]? = some (.cells cs 59 (0, 0)) ∧ cs.size = cap * 3 ∧ ∀ i, j + 1 ≤ i → i < E.length → ∃ x, cs[i * 3 + 2]? = some (.int .i64 x)) := fun y => ⟨hk.setCell (Or.inl (by simp)) _, _, block_set hc _, by simpa using hsz, fun i hi hie => by
          obtain ⟨z, hz⟩ := hx2 i (by omega) hie
          exact ⟨z, by rw [Array.getElem?_setIfInBounds, if_neg (by omega)]; exact hz⟩⟩
        clear HJ hk hc hsz hx2 hxx
        go_wp2_with fail
        go_roundw
        case rel => exact ⟨j + 1, by go_num, by omega, H2.out _⟩
        case measure => simp [intOf]; omega
      · have i0 : ¬ (j : Int) < (E.length : Int) := by omega
        have H2 : Hid (_) := HJ.out.1
        clear HJ
        go_wp2_with fail
        go_end0
        exact ⟨rfl, H2.out⟩

end Go.Proofs.Ytolbjmckebicfaa
