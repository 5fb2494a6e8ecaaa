/-
  Counts of package refs, by what they come to plainly; awake.
-/
import Derived.Test.YtljmpcmkgeomiaaMo
namespace Go.Proofs.Ytljmpcmkgeomiaa
open Go.RowKit
set_option linter.unusedVariables false

/-- Counts m lie in the words. -/
structure Rm (P : Nat → Nat → Prop) (S : List (Nat × Obj)) (w0 w : World) (b g f n k L N : Nat) (m : Mo) : Prop where
  out : ∃ W, Rs P S w0 w b g f n k L N W ∧ Rel k n W m

/-- The global part, and the parts of the cores below c. -/
def Mo.tot (m : Mo) (o : Nat) : Nat → Int
  | 0 => m.glob o
  | c + 1 => wrap64 (m.tot o c + m.parts c o)

/-- The dead below j. -/
def Mo.list (m : Mo) : Nat → List Int
  | 0 => []
  | o + 1 => if m.dead o = true then m.list o ++ [(o : Int)] else m.list o

theorem Mo.list_length (m : Mo) (j : Nat) : (m.list j).length ≤ j := by
  induction j with
  | zero => exact Nat.le_refl _
  | succ o ih =>
    unfold Mo.list
    split
    · rw [List.length_append]; simp only [List.length_cons, List.length_nil]; omega
    · omega

theorem Rel.list {k n : Nat} {W : Nat → Nat → Int} {m : Mo} (h : Rel k n W m) (j : Nat) (hj : j ≤ n) : dl k W j = m.list j := by
  induction j with
  | zero => rfl
  | succ o ih =>
    unfold dl Mo.list
    have hs := h.state o (by omega)
    rw [ih (by omega)]
    by_cases hd : m.dead o = true
    · rw [if_pos hd] at hs ⊢; rw [if_pos hs]
    · rw [if_neg hd] at hs ⊢
      rw [if_neg]
      rw [hs]
      split <;> decide

theorem Rel.tot {k n : Nat} {W : Nat → Nat → Int} {m : Mo} (h : Rel k n W m) (o : Nat) (ho : o < n) (j : Nat) (hj : j ≤ k) : tot k W o j = m.tot o j := by
  induction j with
  | zero => exact h.glob o ho
  | succ c ih =>
    unfold Go.Proofs.Ytljmpcmkgeomiaa.tot Mo.tot
    rw [ih (by omega), h.parts c o (by omega) ho]

section
variable {P : Nat → Nat → Prop} {S : List (Nat × Obj)} {w0 w : World} {b g f n k L N : Nat} {m : Mo}

theorem Rm.still (h : Rm P S w0 w b g f n k L N m) {w' : World} (hk : Kept [] w w') : Rm P S w0 w' b g f n k L N m := by
  obtain ⟨W, h1, h2⟩ := h
  exact ⟨W, h1.still hk, h2⟩

theorem Rm.mono (h : Rm P S w0 w b g f n k L N m) {N' : Nat} (hN : N ≤ N') : Rm P S w0 w b g f n k L N' m := by
  obtain ⟨W, h1, h2⟩ := h
  exact ⟨W, h1.mono hN, h2⟩

theorem Rm.old (h : Rm P S w0 w b g f n k L N m) : Kept [] w0 w := by
  obtain ⟨W, h1, h2⟩ := h
  exact h1.old

theorem Rm.fx (h : Rm P S w0 w b g f n k L N m) : Fx k f n L := by
  obtain ⟨W, h1, h2⟩ := h
  exact h1.fx

theorem Rm.mem (h : Rm P S w0 w b g f n k L N m) : (g, box b f n) ∈ S := by
  obtain ⟨W, h1, h2⟩ := h
  exact h1.mem

theorem Rm.at_ (h : Rm P S w0 w b g f n k L N m) {x : Nat × Obj} (hx : x ∈ S) : w.heap[x.1]? = some x.2 := by
  obtain ⟨W, h1, h2⟩ := h
  exact h1.at_ hx

theorem Rm.fewer {S' : List (Nat × Obj)} (h : Rm P S w0 w b g f n k L N m) (hS : ∀ x ∈ S', x ∈ S) (hg : (g, box b f n) ∈ S') : Rm P S' w0 w b g f n k L N m := by
  obtain ⟨W, h1, h2⟩ := h
  exact ⟨W, h1.fewer hS hg, h2⟩

theorem Rm.turn {w' : World} (h : Rm P S w0 w b g f n k L N m) (F : List Nat) (hF : ∀ x ∈ F, ∃ o, (x, o) ∈ S) (hk : Kept F w w') (S' : List (Nat × Obj)) (hg : (g, box b f n) ∈ S') (hS : ∀ x ∈ S', (w.heap.size ≤ x.1 ∨ ∃ o, (x.1, o) ∈ S) ∧ w'.heap[x.1]? = some x.2) : Rm P S' w0 w' b g f n k L N m := by
  obtain ⟨W, h1, h2⟩ := h
  exact ⟨W, h1.turn F hF hk S' hg hS, h2⟩

/-- Counts of a new arena. -/
theorem m_new (A : Ar) (h : Hs S w0 w b A) (q c : Nat) (hA : A = fresh q c) (F : Fx c f n q) (hP : ∀ c x, P c x) :
    Calls Try.prog 8 #[.pointer (some ⟨b, 0, none⟩), .int .i64 (f : Int), .int .i64 (n : Int)] w fun e w' => ∃ g, e = .returned (.tuple #[.pointer (some ⟨g, 0, none⟩), .int .i64 0]) ∧ Rm P ((g, box b f n) :: S) w0 w' b g f n c q 700 Mo.none := by
  have hz : ∀ c, A.traces.getD c [] = [] := fun d => by
    subst hA
    show (List.replicate c ([] : List (Int × Bool))).getD d [] = []
    rw [List.getD, List.getElem?_replicate]
    split <;> rfl
  have h1 : A.traces.length = c := by subst hA; simp [fresh]
  have h2 : A.words.length = q := by subst hA; simp [fresh]
  refine (r_new (N := 0) h (by rw [h1, h2]; exact F) (fun d => by rw [hz d]; exact Nat.le_refl _) (by omega) hP (fun d _ x hx => by rw [hz d] at hx; cases hx)).mono ?_
  rintro e w' ⟨g, he, hR⟩
  rw [h1, h2] at hR
  exact ⟨g, he, _, hR.mono (by omega), Rel.none c n⟩

theorem m_inc (h : Rm P S w0 w b g f n k L N m) (c o : Nat) (hc : c < k) (ho : o < n) (hP : ∀ i, i < n + 2 → P c (pl f n c i)) (hN : N < 999900) :
    Calls Try.prog 10 #[.pointer (some ⟨g, 0, none⟩), .int .i64 (c : Int), .int .i64 (o : Int)] w fun e w' => e = .returned (.int .i64 0) ∧ Rm P S w0 w' b g f n k L (N + 3) (m.count c o 1) := by
  obtain ⟨W, h1, h2⟩ := h
  refine (r_inc h1 c o hc ho hP hN).mono ?_
  rintro e w' ⟨he, h3⟩
  exact ⟨he, _, h3, h2.count h1.fx.nhi c o 1 hc ho⟩

theorem m_dec (h : Rm P S w0 w b g f n k L N m) (c o : Nat) (hc : c < k) (ho : o < n) (hP : ∀ i, i < n + 2 → P c (pl f n c i)) (hN : N < 999900) :
    Calls Try.prog 11 #[.pointer (some ⟨g, 0, none⟩), .int .i64 (c : Int), .int .i64 (o : Int)] w fun e w' => e = .returned (.int .i64 0) ∧ Rm P S w0 w' b g f n k L (N + 3) (m.count c o (-1)) := by
  obtain ⟨W, h1, h2⟩ := h
  refine (r_dec h1 c o hc ho hP hN).mono ?_
  rintro e w' ⟨he, h3⟩
  exact ⟨he, _, h3, h2.count h1.fx.nhi c o (-1) hc ho⟩

theorem m_flush (h : Rm P S w0 w b g f n k L N m) (c : Nat) (hc : c < k) (hP : ∀ c x, P c x) (hN : N < 998000) (he : m.epoch < 100000) :
    Calls Try.prog 12 #[.pointer (some ⟨g, 0, none⟩), .int .i64 (c : Int)] w fun e w' => e = .returned (.int .i64 0) ∧ Rm P S w0 w' b g f n k L (N + 600) (m.flush n k c) := by
  obtain ⟨W, h1, h2⟩ := h
  refine (r_flush h1 c hc hP hN).mono ?_
  rintro e w' ⟨he, W', h3, h4⟩
  exact ⟨he, W', h4, h2.flush (by assumption) c hc h3⟩

theorem m_global (h : Rm P S w0 w b g f n k L N m) (o : Nat) (ho : o < n) (hP : ∀ c x, P c x) (hN : N < 999900) :
    Calls Try.prog 37 #[.pointer (some ⟨g, 0, none⟩), .int .i64 (o : Int)] w fun e w' => e = .returned (.tuple #[.int .i64 (m.glob o), .int .i64 0]) ∧ Rm P S w0 w' b g f n k L (N + 1) m := by
  obtain ⟨W, h1, h2⟩ := h
  refine (r_global h1 o ho hP hN).mono ?_
  rintro e w' ⟨he, h3⟩
  rw [h2.glob o ho] at he
  exact ⟨he, W, h3, h2⟩

theorem m_total (h : Rm P S w0 w b g f n k L N m) (o : Nat) (ho : o < n) (hP : ∀ c x, P c x) (hN : N < 999900) :
    Calls Try.prog 38 #[.pointer (some ⟨g, 0, none⟩), .int .i64 (o : Int)] w fun e w' => e = .returned (.tuple #[.int .i64 (m.tot o k), .int .i64 0]) ∧ Rm P S w0 w' b g f n k L (N + 9) m := by
  obtain ⟨W, h1, h2⟩ := h
  refine (r_total h1 o ho hP hN).mono ?_
  rintro e w' ⟨he, h3⟩
  rw [h2.tot o ho k (Nat.le_refl _)] at he
  exact ⟨he, W, h3, h2⟩

theorem m_epoch (h : Rm P S w0 w b g f n k L N m) (hP : ∀ c x, P c x) (hN : N < 999900) :
    Calls Try.prog 14 #[.pointer (some ⟨g, 0, none⟩)] w fun e w' => e = .returned (.int .i64 (m.epoch : Int)) ∧ Rm P S w0 w' b g f n k L (N + 1) m := by
  obtain ⟨W, h1, h2⟩ := h
  refine (r_Epoch h1 hP hN).mono ?_
  rintro e w' ⟨he, h3⟩
  rw [h2.epoch] at he
  exact ⟨he, W, h3, h2⟩

theorem m_dead (h : Rm P S w0 w b g f n k L N m) (hP : ∀ c x, P c x) (hN : N < 999900) :
    Calls Try.prog 16 #[.pointer (some ⟨g, 0, none⟩)] w fun e w' => ∃ a c D, e = .returned (.slice a (m.list n).length c) ∧ Od (.slice a (m.list n).length c) (m.list n) D ∧ Rm P (D ++ S) w0 w' b g f n k L (N + 64) m := by
  obtain ⟨W, h1, h2⟩ := h
  refine (r_dead h1 hP hN).mono ?_
  rintro e w' ⟨u, D, he, hO, h3, -⟩
  rw [h2.list n (Nat.le_refl _)] at hO
  obtain ⟨a, c, rfl⟩ := hO.slice
  exact ⟨a, c, D, he, hO, W, h3, h2⟩

theorem m_global_no (h : Rm P S w0 w b g f n k L N m) (o : Int) (ho : o < 0 ∨ (n : Int) ≤ o) :
    Calls Try.prog 37 #[.pointer (some ⟨g, 0, none⟩), .int .i64 o] w fun e w' => e = .returned (.tuple #[.int .i64 0, .int .i64 601]) ∧ w' = w := by
  obtain ⟨W, h1, h2⟩ := h
  exact r_global_no h1 o ho

theorem m_inc_nocore (h : Rm P S w0 w b g f n k L N m) (c o : Int) (hc : c < 0 ∨ (k : Int) ≤ c) :
    Calls Try.prog 10 #[.pointer (some ⟨g, 0, none⟩), .int .i64 c, .int .i64 o] w fun e w' => e = .returned (.int .i64 600) ∧ w' = w := by
  obtain ⟨W, h1, h2⟩ := h
  exact r_inc_nocore h1 c o hc

end

/-- Any core may touch any word. -/
def Any (_ _ : Nat) : Prop := True

theorem any (c x : Nat) : Any c x := trivial

set_option maxRecDepth 100000 in
set_option maxHeartbeats 4000000 in
theorem awake_any (w : World) : Calls Try.prog 19 #[] w fun e w' => e = .returned (.bool true) ∧ Kept [] w w' := by
  go_enter Try.func19, Try.ntmps19
  go_wp2_with fail
  refine (h_new w 100 2 (by omega) (by omega) (by omega) (by omega)).mono ?_
  rintro e w1 ⟨b, rfl, hm⟩
  have H1 : Hid (_) := hm
  clear hm
  go_wp2_with fail
  refine (m_new (P := Any) (f := 0) (n := 3) _ H1.out 100 2 rfl ⟨by omega, by omega, by omega, by omega, by omega, by omega⟩ any).mono ?_
  rintro e w2 ⟨g, rfl, h2⟩
  have H2 : Hid (_) := h2
  clear h2 H1
  go_wp2_with fail
  refine (m_inc H2.out 0 1 (by omega) (by omega) (fun _ _ => trivial) (by omega)).mono ?_
  rintro e w3 ⟨rfl, h3⟩
  have H3 : Hid (_) := h3
  clear h3 H2
  go_wp2_with fail
  refine (m_dec H3.out 1 1 (by omega) (by omega) (fun _ _ => trivial) (by omega)).mono ?_
  rintro e w4 ⟨rfl, h4⟩
  have H4 : Hid (_) := h4
  clear h4 H3
  go_wp2_with fail
  refine (m_flush H4.out 0 (by omega) any (by omega) (by decide)).mono ?_
  rintro e w5 ⟨rfl, h5⟩
  have H5 : Hid (_) := h5
  clear h5 H4
  go_wp2_with fail
  refine (m_global H5.out 1 (by omega) any (by omega)).mono ?_
  rintro e w6 ⟨rfl, h6⟩
  rw [show ((((Mo.none.count 0 1 1).count 1 1 (-1)).flush 3 2 0).glob 1) = 1 from by decide +kernel]
  have H6 : Hid (_) := h6
  clear h6 H5
  go_wp2_with fail
  refine (m_total H6.out 1 (by omega) any (by omega)).mono ?_
  rintro e w7 ⟨rfl, h7⟩
  rw [show ((((Mo.none.count 0 1 1).count 1 1 (-1)).flush 3 2 0).tot 1 2) = 0 from by decide +kernel]
  have H7 : Hid (_) := h7
  clear h7 H6
  go_wp2_with fail
  refine (m_global_no H7.out 3 (by omega)).mono ?_
  rintro e w' ⟨rfl, rfl⟩
  go_wp2_with fail
  refine (m_inc_nocore H7.out 2 0 (by omega)).mono ?_
  rintro e w' ⟨rfl, rfl⟩
  go_wp2_with (first
    | (go_at_call 9; refine (num _ _).mono ?_; rintro e w' ⟨rfl, rfl⟩))
  refine (m_epoch H7.out any (by omega)).mono ?_
  rintro e w8 ⟨rfl, h8⟩
  rw [show ((((Mo.none.count 0 1 1).count 1 1 (-1)).flush 3 2 0).epoch) = 0 from by decide +kernel]
  have H8 : Hid (Kept [] w w8) := h8.old
  clear h8 H7
  go_wp2_with fail
  go_ret
  exact ⟨rfl, H8.out⟩

end Go.Proofs.Ytljmpcmkgeomiaa
