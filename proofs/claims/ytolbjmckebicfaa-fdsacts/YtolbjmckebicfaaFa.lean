/-
  The law's own rows of ints beside the words of package fds, and the law's functions 'one' and 'listed'.
-/
import Derived.Test.YtolbjmckebicfaaFl
namespace Go.Proofs.Ytolbjmckebicfaa
open Go.RowKit
set_option linter.unusedVariables false

/-- A row as a function of its places. -/
def rowF (n : Nat) (F : Nat → Value) : Array Value := ((List.range n).map F).toArray

/-- A place turned. -/
def updV (F : Nat → Value) (i : Nat) (v : Value) : Nat → Value := fun j => if j = i then v else F j

theorem rowF_get {n : Nat} (F : Nat → Value) {i : Nat} (h : i < n) : (rowF n F)[i]? = some (F i) := by
  simp [rowF, h]

theorem rowF_set {n : Nat} (F : Nat → Value) {i : Nat} (v : Value) : (rowF n F).setIfInBounds i v = rowF n (updV F i v) := by
  apply Array.ext'
  apply List.ext_getElem?
  intro j
  unfold rowF updV
  simp only [List.setIfInBounds_toArray, List.getElem?_set, List.length_map, List.length_range, List.getElem?_map]
  by_cases hj : j < n
  · simp only [List.getElem?_range, hj]
    by_cases e : i = j
    · subst e; simp [hj]
    · simp [e, Ne.symm e]
  · by_cases e : i = j
    · subst e; simp [hj]
    · simp [e, hj]

theorem rowF_eq {n : Nat} {F G : Nat → Value} (h : ∀ i, i < n → F i = G i) : rowF n F = rowF n G := by
  unfold rowF
  congr 1
  exact List.map_congr_left fun i hi => h i (List.mem_range.1 hi)

theorem rowF_zeros (n : Nat) : i64s (List.replicate n 0) = rowF n (fun _ => .int .i64 0) := by
  apply Array.ext'
  unfold i64s rowF
  simp [List.map_const']

/-- A core's numbers as they lie in the law's row. -/
def row4 (V : Nat → Int) : Obj := .cells (rowF 4 fun d => .int .i64 (V d)) 3 (0, 0)

/-- The law's rows: r tells where each core's lies. -/
def rowsOf (k : Nat) (r : Nat → Nat) (V : Nat → Nat → Int) : List (Nat × Obj) := (List.range k).map fun c => (r c, row4 (V c))

theorem mem_rows {k : Nat} {r : Nat → Nat} {V : Nat → Nat → Int} {c : Nat} (hc : c < k) : (r c, row4 (V c)) ∈ rowsOf k r V :=
  List.mem_map.2 ⟨c, List.mem_range.2 hc, rfl⟩

theorem of_rows {k : Nat} {r : Nat → Nat} {V : Nat → Nat → Int} {x : Nat × Obj} (h : x ∈ rowsOf k r V) : ∃ c, c < k ∧ x = (r c, row4 (V c)) := by
  obtain ⟨c, hc, rfl⟩ := List.mem_map.1 h
  exact ⟨c, List.mem_range.1 hc, rfl⟩

/-- The rows lie apart, and apart from what lies in B. -/
structure Dj (k : Nat) (r : Nat → Nat) (B : List (Nat × Obj)) : Prop where
  out : ∀ c, c < k → ∀ y ∈ B, y.1 ≠ r c
  inj : ∀ c d, c < k → d < k → r c = r d → c = d

theorem upd_row (V : Nat → Nat → Int) (c d : Nat) (x : Int) : row4 (upd V c d x c) = .cells ((rowF 4 fun d => .int .i64 (V c d)).setIfInBounds d (.int .i64 x)) 3 (0, 0) := by
  unfold row4
  rw [rowF_set]
  congr 2
  funext d'
  unfold upd updV
  by_cases e : d' = d
  · rw [if_pos ⟨rfl, e⟩, if_pos e]
  · rw [if_neg (by omega), if_neg e]

theorem upd_other (V : Nat → Nat → Int) (c d : Nat) (x : Int) (c' : Nat) (h : c' ≠ c) : upd V c d x c' = V c' := by
  funext d'
  unfold upd
  rw [if_neg (by omega)]

section
variable {I : Trc → Prop} {B : List (Nat × Obj)} {w0 w : World} {b g f k L N : Nat} {W V : Nat → Nat → Int} {r : Nat → Nat}

/-- A place of a core's row turned. -/
theorem Fb.rput (h : Fb I (rowsOf k r V ++ B) w0 w b g f k L N W) (hg : (g, box b f) ∈ B) (hj : Dj k r B) (c d : Nat) (hc : c < k) (x : Int) :
    Fb I (rowsOf k r (upd V c d x) ++ B) w0 (w.setCell ⟨r c, d, none⟩ (.int .i64 x)) b g f k L N W := by
  have h0 : w.heap[r c]? = some (row4 (V c)) := h.at_ (List.mem_append_left _ (mem_rows hc))
  refine h.turn [r c] (fun y hy => ?_) ((Kept.refl [r c] w).setCell (Or.inl (by simp)) _) _ (List.mem_append_right _ hg) fun y hy => ?_
  · rw [List.mem_singleton] at hy
    subst hy
    exact ⟨_, List.mem_append_left _ (mem_rows hc)⟩
  · rcases List.mem_append.1 hy with hy | hy
    · obtain ⟨c', hc', rfl⟩ := of_rows hy
      refine ⟨Or.inr ⟨_, List.mem_append_left _ (mem_rows hc')⟩, ?_⟩
      by_cases e : c' = c
      · subst e
        rw [upd_row]
        exact block_set h0 _
      · rw [upd_other V c d x c' e, block_other (fun e' => e (hj.inj _ _ hc' hc e'))]
        exact h.at_ (x := (r c', row4 (V c'))) (List.mem_append_left _ (mem_rows hc'))
    · refine ⟨Or.inr ⟨y.2, List.mem_append_right _ hy⟩, ?_⟩
      rw [block_other (hj.out c hc y hy)]
      exact h.at_ (List.mem_append_right _ hy)

theorem Fb.rcell (h : Fb I (rowsOf k r V ++ B) w0 w b g f k L N W) (c d : Nat) (hc : c < k) (hd : d < 4) : w.cell? ⟨r c, d, none⟩ = some (.int .i64 (V c d)) :=
  h.cell (List.mem_append_left _ (mem_rows hc)) (rowF_get _ hd)

theorem Fb.rfree (h : Fb I (rowsOf k r V ++ B) w0 w b g f k L N W) (c d : Nat) (hc : c < k) : w.frozen? ⟨r c, d, none⟩ = false :=
  h.frozen (List.mem_append_left _ (mem_rows hc)) d

/-- A block more beside the rows. -/
theorem Fb.rpush (h : Fb I (rowsOf k r V ++ B) w0 w b g f k L N W) (hg : (g, box b f) ∈ B) (hj : Dj k r B) (o : Obj) : Fb I (rowsOf k r V ++ (w.heap.size, o) :: B) w0 (w.alloc o) b g f k L N W ∧ Dj k r ((w.heap.size, o) :: B) := by
  refine ⟨(h.push o).fewer (fun y hy => ?_) (by simp [hg]), fun c hc y hy => ?_, hj.inj⟩
  · rcases List.mem_append.1 hy with hy | hy
    · simp [hy]
    · rcases List.mem_cons.1 hy with hy | hy
      · simp [hy]
      · simp [hy]
  · rcases List.mem_cons.1 hy with rfl | hy
    · have := h.lt _ (List.mem_append_left _ (mem_rows hc))
      simp only at this ⊢
      omega
    · exact hj.out c hc y hy

theorem Fb.rdrop {x : Nat × Obj} (h : Fb I (rowsOf k r V ++ x :: B) w0 w b g f k L N W) (hg : (g, box b f) ∈ B) : Fb I (rowsOf k r V ++ B) w0 w b g f k L N W :=
  h.fewer (fun y hy => by
    rcases List.mem_append.1 hy with hy | hy
    · simp [hy]
    · simp [hy]) (by simp [hg])

end

/-- How many of the first n are free. -/
def fr (V : Nat → Int) : Nat → Nat
  | 0 => 0
  | n + 1 => if V n = 0 then fr V n + 1 else fr V n

theorem fr_le (V : Nat → Int) (n : Nat) : fr V n ≤ n := by
  induction n with
  | zero => exact Nat.le_refl _
  | succ n ih => rw [fr]; split <;> omega

theorem fr_none {V : Nat → Int} {n : Nat} (h : fr V n = 0) : ∀ d, d < n → V d ≠ 0 := by
  induction n with
  | zero => intro d hd; omega
  | succ n ih =>
    rw [fr] at h
    intro d hd
    by_cases hz : V n = 0
    · rw [if_pos hz] at h; omega
    · rw [if_neg hz] at h
      by_cases e : d = n
      · rw [e]; exact hz
      · exact ih h d (by omega)

theorem fr_some {V : Nat → Int} {n : Nat} (h : fr V n ≠ 0) : ∃ d, d < n ∧ V d = 0 ∧ ∀ j, j < d → V j ≠ 0 := by
  induction n with
  | zero => exact absurd rfl h
  | succ n ih =>
    by_cases h0 : fr V n = 0
    · by_cases hz : V n = 0
      · exact ⟨n, by omega, hz, fr_none h0⟩
      · rw [fr, if_neg hz] at h; exact absurd h0 h
    · obtain ⟨d, h1, h2⟩ := ih h0
      exact ⟨d, by omega, h2⟩

/-- An act as it lies in a block. -/
def xob (kd cc xx : Int) : Obj := .cells #[.int .i64 kd, .int .i64 cc, .int .i64 xx] 35 (0, 0)

theorem xob_cells {w : World} {X : Nat} {kd cc xx : Int} (h : w.heap[X]? = some (xob kd cc xx)) : w.cell? ⟨X, 0, none⟩ = some (.int .i64 kd) ∧ w.cell? ⟨X, 1, none⟩ = some (.int .i64 cc) ∧ w.cell? ⟨X, 2, none⟩ = some (.int .i64 xx) :=
  ⟨(cellB h).trans rfl, (cellB h).trans rfl, (cellB h).trans rfl⟩

section
variable {I : Trc → Prop} {B : List (Nat × Obj)} {w0 w : World} {b g f k L N : Nat} {W V : Nat → Nat → Int} {r : Nat → Nat}

set_option maxRecDepth 100000 in
set_option maxHeartbeats 8000000 in
theorem l_one (h : Fb I (rowsOf k r W ++ B) w0 w b g f k L N W) (hg : (g, box b f) ∈ B) (hj : Dj k r B) (c : Nat) (hc : c < k) (kd xx : Int) (hN : N < 800000) :
    Calls Try.prog 13 #[.pointer (some ⟨g, 0, none⟩), .slice (some ⟨r c, 0, none⟩) 4 4, .agg #[.int .i64 kd, .int .i64 (c : Int), .int .i64 xx]] w fun e w' => e = .returned (.bool true) ∧ ∃ W', Fb I (rowsOf k r W' ++ B) w0 w' b g f k L (N + 5) W' := by
  obtain ⟨h1, h2⟩ := h.rpush hg hj (xob kd (c : Int) xx)
  obtain ⟨W0, hW0⟩ : ∃ W0, W0 = w.alloc (xob kd (c : Int) xx) := ⟨_, rfl⟩
  rw [← hW0] at h1
  have HW : Hid (w.alloc (.cells #[.int .i64 kd, .int .i64 (c : Int), .int .i64 xx] 35 (0, 0)) = W0) := hW0.symm
  obtain ⟨X, hX⟩ : ∃ X, w.heap.size = X := ⟨_, rfl⟩
  rw [hX] at h1 h2
  have HX : Hid (_) := hX
  have HG : Hid (_ ∧ _ ∧ _) := ⟨hg, List.mem_cons_of_mem (X, xob kd (c : Int) xx) hg, h2⟩
  have H1 : Hid (_) := h1
  clear hW0 h1 h2 h hg hj hX
  go_enter Try.func13, Try.ntmps13
  go_wp2_with fail
  rw [HW.out, HX.out]
  clear HW HX
  go_loopw [7, 8] (fun u i wr => ∃ n : Nat, i = .int .i64 (n : Int) ∧ u = .int .i64 ((fr (W c) n : Nat) : Int) ∧ n ≤ 4 ∧ wr = W0) (fun _ i _ => (4 - intOf i).toNat)
  case atStart => exact ⟨0, rfl, rfl, by omega, rfl⟩
  case round =>
    obtain ⟨n, rfl, rfl, hn, hw⟩ := hrel
    subst hw
    by_cases hlt : n < 4
    · have i0 : (0 : Int) ≤ (n : Int) := by omega
      have i1 : (n : Int) < 4 := by omega
      have hcell := H1.out.rcell c n hc hlt
      have hfl := fr_le (W c) n
      by_cases hz : W c n = 0
      · rw [hz] at hcell
        have HF : Hid (fr (W c) (n + 1) = fr (W c) n + 1) := by show _ = _; rw [fr, if_pos hz]
        clear hz
        generalize fr (W c) n = q at *
        go_wp2_with fail
        go_roundw
        case rel => exact ⟨n + 1, by go_num, by rw [HF.out]; go_num, by omega, trivial⟩
        case measure => simp [intOf]; omega
      · have HF : Hid (fr (W c) (n + 1) = fr (W c) n) := by show _ = _; rw [fr, if_neg hz]
        have hz2 : (W c n == 0) = false := by simpa using hz
        generalize fr (W c) n = q at *
        generalize W c n = z at hcell hz hz2
        go_wp2_with fail
        go_roundw
        case rel => exact ⟨n + 1, by go_num, by rw [HF.out], by omega, trivial⟩
        case measure => simp [intOf]; omega
    · have i1 : ¬ (n : Int) < 4 := by omega
      have e4 : n = 4 := by omega
      have HQ : Hid (fr (W c) n = fr (W c) 4) := by show _ = _; rw [e4]
      clear e4
      obtain ⟨y0, y1, y2⟩ := xob_cells (H1.out.at_ (x := (X, xob kd (c : Int) xx)) (by simp))
      have hfl := fr_le (W c) n
      obtain ⟨q, hq⟩ : ∃ q, fr (W c) n = q := ⟨_, rfl⟩
      rw [hq] at HQ hfl ⊢
      clear hq
      by_cases k4 : kd < 4
      · by_cases hx : xx < 1
        · as_aux_lemma =>
            go_wp2_with fail
            refine (d_open_form H1.out c xx hc hx).mono ?_
            rintro e w1 ⟨rfl, hw⟩
            have hw2 := hw.symm
            subst hw2
            have H2 : Hid (_) := H1.out.rdrop HG.out.1
            clear hw H1 HG HQ
            go_wp2_with (first
              | (go_at_call 8; refine (num _ _).mono ?_; rintro e w' ⟨rfl, rfl⟩))
            go_ret
            exact ⟨rfl, _, H2.out.mono (by omega)⟩
        · have hx2 : ¬ xx ≤ 0 := by omega
          by_cases hq0 : q = 0
          · as_aux_lemma =>
              subst hq0
              go_wp2_with fail
              refine (d_open_full H1.out c xx hc (by omega) (fr_none HQ.out.symm) (by omega)).mono ?_
              rintro e w1 ⟨rfl, h1⟩
              have H2 : Hid (_) := h1.rdrop HG.out.1
              obtain ⟨y0, y1, y2⟩ := xob_cells (h1.at_ (x := (X, xob kd (c : Int) xx)) (by simp))
              clear h1 H1 HG HQ
              go_wp2_with (first
                | (go_at_call 8; refine (num _ _).mono ?_; rintro e w' ⟨rfl, rfl⟩))
              go_ret
              exact ⟨rfl, _, H2.out.mono (by omega)⟩
          · as_aux_lemma =>
              have q0 : ¬ (q : Int) = 0 := by omega
              have q1 : ((q : Int) == 0) = false := by simpa using q0
              obtain ⟨d, hd, d0, d1⟩ := fr_some (V := W c) (n := 4) (by rw [← HQ.out]; exact hq0)
              go_wp2_with fail
              refine (d_open H1.out c xx hc (by omega) d hd d0 d1 (by omega)).mono ?_
              rintro e w1 ⟨rfl, h1⟩
              obtain ⟨y0, y1, y2⟩ := xob_cells (h1.at_ (x := (X, xob kd (c : Int) xx)) (by simp))
              have rc := h1.rcell c d hc hd
              have rf := h1.rfree c d hc
              rw [d0] at rc
              have H2 : Hid (_) := (h1.rput HG.out.2.1 HG.out.2.2 c d hc xx).rdrop HG.out.1
              clear h1 H1 HG HQ d0 d1
              have j0 : (0 : Int) ≤ (d : Int) := by omega
              have j1 : (d : Int) < 4 := by omega
              have j2 : ¬ (d : Int) < 0 := by omega
              have j3 : decide ((d : Int) < 0) = false := by simp
              have j4 : decide ((4 : Int) ≤ (d : Int)) = false := by simp; omega
              have j5 : ¬ (4 : Int) ≤ (d : Int) := by omega
              go_wp2_with (first
                | (go_at_call 8; refine (num _ _).mono ?_; rintro e w' ⟨rfl, rfl⟩))
              go_ret
              exact ⟨rfl, _, H2.out⟩
      · have hv0 : val W c xx = 0 ∨ ∃ d : Nat, xx = (d : Int) ∧ d < 4 ∧ W c d ≠ 0 := by
          by_cases hv : val W c xx = 0
          · exact Or.inl hv
          · right
            have hx4 : 0 ≤ xx ∧ xx < 4 := by
              refine Decidable.byContradiction fun h => hv ?_
              unfold val
              rw [if_neg h]
            obtain ⟨d, rfl⟩ := Int.eq_ofNat_of_zero_le hx4.1
            rw [val_nat W c d (by omega)] at hv
            exact ⟨d, rfl, by omega, hv⟩
        by_cases k6 : kd < 6
        · rcases hv0 with hv | ⟨d, rfl, hd, hv⟩
          · have HV : Hid (_) := hv
            by_cases x0 : xx < 0
            · as_aux_lemma =>
                have x1 : ¬ 0 ≤ xx := by omega
                clear hv
                go_wp2_with fail
                refine (d_close_none H1.out c xx hc HV.out (by omega)).mono ?_
                rintro e w1 ⟨rfl, h1⟩
                have H2 : Hid (_) := h1.rdrop HG.out.1
                clear h1 H1 HG HQ HV
                go_wp2_with (first
                  | (go_at_call 8; refine (num _ _).mono ?_; rintro e w' ⟨rfl, rfl⟩))
                go_ret
                exact ⟨rfl, _, H2.out.mono (by omega)⟩
            · have x1 : 0 ≤ xx := by omega
              by_cases x4 : xx < 4
              · as_aux_lemma =>
                  obtain ⟨d, rfl⟩ := Int.eq_ofNat_of_zero_le x1
                  have rc := H1.out.rcell c d hc (by omega)
                  rw [val_nat W c d (by omega)] at hv
                  rw [hv] at rc
                  clear hv
                  go_wp2_with fail
                  refine (d_close_none H1.out c (d : Int) hc HV.out (by omega)).mono ?_
                  rintro e w1 ⟨rfl, h1⟩
                  have H2 : Hid (_) := h1.rdrop HG.out.1
                  clear h1 H1 HG HQ HV
                  go_wp2_with (first
                    | (go_at_call 8; refine (num _ _).mono ?_; rintro e w' ⟨rfl, rfl⟩))
                  go_ret
                  exact ⟨rfl, _, H2.out.mono (by omega)⟩
              · as_aux_lemma =>
                  clear hv
                  go_wp2_with fail
                  refine (d_close_none H1.out c xx hc HV.out (by omega)).mono ?_
                  rintro e w1 ⟨rfl, h1⟩
                  have H2 : Hid (_) := h1.rdrop HG.out.1
                  clear h1 H1 HG HQ HV
                  go_wp2_with (first
                    | (go_at_call 8; refine (num _ _).mono ?_; rintro e w' ⟨rfl, rfl⟩))
                  go_ret
                  exact ⟨rfl, _, H2.out.mono (by omega)⟩
          · as_aux_lemma =>
              have x1 : (0 : Int) ≤ (d : Int) := by omega
              have x4 : (d : Int) < 4 := by omega
              have HV : Hid (W c d ≠ 0) := hv
              have rc := H1.out.rcell c d hc hd
              have z0 : (W c d == 0) = false := by simpa using hv
              have z1 : ¬ W c d = 0 := hv
              have z2 : (W c d != 0) = true := by simpa using hv
              clear hv
              go_wp2_with fail
              refine (d_close H1.out c d _ rfl hc hd HV.out (by omega)).mono ?_
              rintro e w1 ⟨rfl, h1⟩
              obtain ⟨y0, y1, y2⟩ := xob_cells (h1.at_ (x := (X, xob kd (c : Int) (d : Int))) (by simp))
              have rc := h1.rcell c d hc hd
              have rf := h1.rfree c d hc
              have H2 : Hid (_) := (h1.rput HG.out.2.1 HG.out.2.2 c d hc 0).rdrop HG.out.1
              clear h1 H1 HG HQ HV
              generalize W c d = z at rc z0 z1 z2
              go_wp2_with (first
                | (go_at_call 8; refine (num _ _).mono ?_; rintro e w' ⟨rfl, rfl⟩))
              go_ret
              exact ⟨rfl, _, H2.out.mono (by omega)⟩
        · rcases hv0 with hv | ⟨d, rfl, hd, hv⟩
          · have HV : Hid (_) := hv
            by_cases x0 : xx < 0
            · as_aux_lemma =>
                have x1 : ¬ 0 ≤ xx := by omega
                clear hv
                go_wp2_with fail
                refine (d_get_none H1.out c xx hc HV.out (by omega)).mono ?_
                rintro e w1 ⟨rfl, h1⟩
                have H2 : Hid (_) := h1.rdrop HG.out.1
                clear h1 H1 HG HQ HV
                go_wp2_with (first
                  | (go_at_call 8; refine (num _ _).mono ?_; rintro e w' ⟨rfl, rfl⟩))
                go_ret
                exact ⟨rfl, _, H2.out.mono (by omega)⟩
            · have x1 : 0 ≤ xx := by omega
              by_cases x4 : xx < 4
              · as_aux_lemma =>
                  obtain ⟨d, rfl⟩ := Int.eq_ofNat_of_zero_le x1
                  have rc := H1.out.rcell c d hc (by omega)
                  rw [val_nat W c d (by omega)] at hv
                  rw [hv] at rc
                  clear hv
                  go_wp2_with fail
                  refine (d_get_none H1.out c (d : Int) hc HV.out (by omega)).mono ?_
                  rintro e w1 ⟨rfl, h1⟩
                  have H2 : Hid (_) := h1.rdrop HG.out.1
                  clear h1 H1 HG HQ HV
                  go_wp2_with (first
                    | (go_at_call 8; refine (num _ _).mono ?_; rintro e w' ⟨rfl, rfl⟩))
                  go_ret
                  exact ⟨rfl, _, H2.out.mono (by omega)⟩
              · as_aux_lemma =>
                  clear hv
                  go_wp2_with fail
                  refine (d_get_none H1.out c xx hc HV.out (by omega)).mono ?_
                  rintro e w1 ⟨rfl, h1⟩
                  have H2 : Hid (_) := h1.rdrop HG.out.1
                  clear h1 H1 HG HQ HV
                  go_wp2_with (first
                    | (go_at_call 8; refine (num _ _).mono ?_; rintro e w' ⟨rfl, rfl⟩))
                  go_ret
                  exact ⟨rfl, _, H2.out.mono (by omega)⟩
          · as_aux_lemma =>
              have x1 : (0 : Int) ≤ (d : Int) := by omega
              have x4 : (d : Int) < 4 := by omega
              have HV : Hid (W c d ≠ 0) := hv
              have rc := H1.out.rcell c d hc hd
              have z0 : (W c d == 0) = false := by simpa using hv
              have z1 : ¬ W c d = 0 := hv
              have z2 : (W c d != 0) = true := by simpa using hv
              clear hv
              go_wp2_with fail
              refine (d_get H1.out c (d : Int) hc (by rw [val_nat W c d hd]; exact HV.out) (by omega)).mono ?_
              rintro e w1 ⟨rfl, h1⟩
              rw [val_nat W c d hd]
              obtain ⟨y0, y1, y2⟩ := xob_cells (h1.at_ (x := (X, xob kd (c : Int) (d : Int))) (by simp))
              have rc := h1.rcell c d hc hd
              have H2 : Hid (_) := h1.rdrop HG.out.1
              clear h1 H1 HG HQ HV
              generalize W c d = z at rc z0 z1 z2 ⊢
              go_wp2_with (first
                | (go_at_call 8; refine (num _ _).mono ?_; rintro e w' ⟨rfl, rfl⟩))
              go_ret
              exact ⟨rfl, _, H2.out.mono (by omega)⟩


/-- 'listed': does List tell just what a core has? -/
theorem mem_ins {D S : List (Nat × Obj)} {x : Nat × Obj} (h : x ∈ S) : x ∈ D ++ S := List.mem_append_right _ h

set_option maxRecDepth 100000 in
set_option maxHeartbeats 8000000 in
theorem l_listed {S : List (Nat × Obj)} (h : Fb I S w0 w b g f k L N W) (R : Nat) (c : Nat) (hR : (R, row4 (W c)) ∈ S) (hc : c < k) (hN : N < 800000) :
    Calls Try.prog 14 #[.pointer (some ⟨g, 0, none⟩), .slice (some ⟨R, 0, none⟩) 4 4, .int .i64 (c : Int)] w fun e w' => e = .returned (.bool true) ∧ Fb I S w0 w' b g f k L (N + 8) W := by
  have H0 : Hid (_) := h
  have HS : Hid (_ ∧ _) := ⟨h.mem, hR⟩
  clear h hR
  go_enter Try.func14, Try.ntmps14
  go_wp2_with fail
  go_loopw [7, 8] (fun u i wr => ∃ (n : Nat) (D : List (Nat × Obj)), i = .int .i64 (n : Int) ∧ n ≤ 4 ∧ Hid (Oe u (dl c (W c) n) D ∧ Fb I (D ++ S) w0 wr b g f k L N W ∧ ∀ x ∈ D, ∀ y ∈ S, y.1 ≠ x.1)) (fun _ i _ => (4 - intOf i).toNat)
  case atStart => exact ⟨0, [], rfl, by omega, Oe.nil, H0.out, by simp⟩
  case round =>
    clear H0
    obtain ⟨n, D, rfl, hn, HJ⟩ := hrel
    by_cases hlt : n < 4
    · have i0 : (0 : Int) ≤ (n : Int) := by omega
      have i1 : (n : Int) < 4 := by omega
      have rc := HJ.out.2.1.cell (mem_ins HS.out.2) (rowF_get _ hlt)
      obtain ⟨a7, c7, hu7⟩ := HJ.out.1.slice
      subst hu7
      obtain ⟨v, hv⟩ : ∃ v : Int, v = W c n := ⟨_, rfl⟩
      rw [← hv] at rc
      by_cases hz : v = 0
      · have H3 : Hid (Oe (.slice a7 (dl c (W c) n).length c7) (dl c (W c) (n + 1)) D ∧ Fb I (D ++ S) w0 wr b g f k L N W ∧ ∀ x ∈ D, ∀ y ∈ S, y.1 ≠ x.1) := by
          show _ ∧ _
          rw [dl_no (hv ▸ hz)]
          exact HJ.out
        clear HJ hv
        subst hz
        go_wp2_with fail
        go_roundw
        case rel => exact ⟨n + 1, D, by go_num, by omega, H3.out⟩
        case measure => simp [intOf]; omega
      · obtain ⟨v', w', D', hr, hu', hR', hd'⟩ := Fb.append HJ.out.2.1 HJ.out.1 HS.out.1 HJ.out.2.2 ((c : Int), (n : Int), v) (by have := dl_len c (W c) n; omega) 39
        have HA : Hid (_) := hr
        have H3 : Hid (Oe v' (dl c (W c) (n + 1)) D' ∧ Fb I (D' ++ S) w0 w' b g f k L N W ∧ ∀ x ∈ D', ∀ y ∈ S, y.1 ≠ x.1) := by
          show _ ∧ _
          rw [dl_yes (hv ▸ hz), ← hv]
          exact ⟨hu', hR', hd'⟩
        have z0 : (v == 0) = false := by simpa using hz
        clear HJ hv hr hu' hR' hd'
        go_wp2_with (first
          | (at_builtin; refine wpList_append_run _ rfl _ _ 39 39 rfl _ _ rfl rfl v' w' HA.out ?_))
        go_roundw
        case rel => exact ⟨n + 1, D', by go_num, by omega, H3.out⟩
        case measure => simp [intOf]; omega
    · have i1 : ¬ (n : Int) < 4 := by omega
      have e4 : n = 4 := by omega
      have H3 : Hid (Oe u7 (dl c (W c) 4) D ∧ Fb I (D ++ S) w0 wr b g f k L N W ∧ ∀ x ∈ D, ∀ y ∈ S, y.1 ≠ x.1) := by
        have := HJ.out
        rw [e4] at this
        exact this
      clear HJ e4
      have hlen := dl_len c (W c) 4
      go_wp2_with fail
      refine (d_list H3.out.2.1 c hc (by omega)).mono ?_
      rintro e w2 ⟨u, D2, rfl, g1, g2, g3⟩
      have HU : Hid (Er w2 0 u (dl c (W c) 4) ∧ Er w2 0 u7 (dl c (W c) 4)) := ⟨g1.own fun x hx => g2.at_ (by simp [hx]), H3.out.1.own fun x hx => g2.at_ (by simp [hx])⟩
      have H4 : Hid (_ ∧ _ ∧ _) := ⟨g1, g2, g3⟩
      clear g1 g2 g3
      go_wp2_with fail
      refine (same_descs HU.out.1 HU.out.2 (by omega)).mono ?_
      rintro e w3 ⟨rfl, k3⟩
      have HU3 : Hid (Er w3 0 u (dl c (W c) 4)) := HU.out.1.kept k3 (by simp)
      have H5 : Hid (_) := H4.out.2.1.still k3
      clear k3 HU
      go_wp2_with fail
      refine (spoil_descs HU3.out (by omega)).mono ?_
      rintro e w4 ⟨rfl, k4⟩
      have H6 : Hid (_) := H5.out.let H4.out.1 (mem_ins HS.out.1) H4.out.2.2 k4
      clear k4 HU3 H5 H4
      go_wp2_with fail
      refine (d_list H6.out c hc (by omega)).mono ?_
      rintro e w5 ⟨u2, D3, rfl, g1, g2, g3⟩
      have HU : Hid (Er w5 0 u2 (dl c (W c) 4) ∧ Er w5 0 u7 (dl c (W c) 4)) := ⟨g1.own fun x hx => g2.at_ (by simp [hx]), H3.out.1.own fun x hx => g2.at_ (by simp [hx])⟩
      have H7 : Hid (Fb I S w0 w5 b g f k L (N + 8) W) := (g2.fewer (S' := S) (fun y hy => by simp [hy]) HS.out.1).mono (by omega)
      clear g1 g2 g3 H6 H3
      go_wp2_with fail
      refine (same_descs HU.out.1 HU.out.2 (by omega)).mono ?_
      rintro e w6 ⟨rfl, k6⟩
      have H8 : Hid (_) := H7.out.still k6
      clear k6 HU H7
      go_wp2_with fail
      go_ret
      exact ⟨rfl, H8.out⟩

end

end Go.Proofs.Ytolbjmckebicfaa
