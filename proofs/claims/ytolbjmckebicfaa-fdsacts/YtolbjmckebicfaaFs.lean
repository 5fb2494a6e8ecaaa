/-
  FdsActs' own state: the row of rows, made row by row; what the traces may be; a new arena by its sizes as they are spelled.
-/
import Derived.Test.YtolbjmckebicfaaFa
import Derived.Test.YtolbjmckebicfaaWords
namespace Go.Proofs.Ytolbjmckebicfaa
open Go.RowKit
set_option linter.unusedVariables false

theorem new_as (w : World) (x y : Int) (L k : Nat) (hx : x = (L : Int)) (hy : y = (k : Int)) (h0 : 1 ≤ L) (h1 : L ≤ 65536) (c0 : 1 ≤ k) (c1 : k ≤ 8) :
    Calls Try.prog 6 #[.int .i64 x, .int .i64 y] w fun e w' => ∃ b, e = .returned (.tuple #[.pointer (some ⟨b, 0, none⟩), .int .i64 0]) ∧ Hs [] w w' b (fresh L k) := by
  subst hx
  subst hy
  have := h_new w (L : Int) (k : Int) (by omega) (by omega) (by omega) (by omega)
  simp only [Int.toNat_natCast] at this
  exact this

theorem info33 : (Try.prog.info? 33).map (fun i => (i.zero, i.size, i.bytes)) = some (some (.slice none 0 0), 1, 24) := by kernel_rfl

theorem make_rows (n : Nat) (h : n ≤ 65536) (w : World) : (Instr.makeSlice 32 (.int .i64 (n : Int)) (.int .i64 (n : Int))).run Try.prog w = .ok (.slice (some ⟨w.heap.size, 0, none⟩) n n) (w.alloc (.cells (rowF n fun _ => .slice none 0 0) 33)) := by
  obtain ⟨i0, hi, hz0, hz1, hz2⟩ := info_parts info33
  have := run_make (P := Try.prog) w 32 33 i0 (.slice none 0 0) Try.underlying32 hi hz0 .i64 .i64 n n (by omega) (by omega) (by rw [hz2]; omega) (by omega)
  rw [this]
  have e : madeCells (Value.slice none 0 0).cells ((n : Int).toNat * i0.size) = rowF n fun _ => .slice none 0 0 := by
    apply Array.ext'
    rw [hz1]
    unfold rowF
    simp [toList_madeCells_one, Value.cells, List.map_const']
  rw [e]
  simp

/-- The row of rows, n of them made. -/
def hv (r : Nat → Nat) (n : Nat) : Nat → Value := fun j => if j < n then .slice (some ⟨r j, 0, none⟩) 4 4 else .slice none 0 0

def hob (k : Nat) (r : Nat → Nat) (n : Nat) : Obj := .cells (rowF k (hv r n)) 33 (0, 0)

/-- A row more. -/
def rn (r : Nat → Nat) (n B : Nat) : Nat → Nat := fun j => if j = n then B else r j

theorem hv_next (r : Nat → Nat) (n B : Nat) : updV (hv r n) n (.slice (some ⟨B, 0, none⟩) 4 4) = hv (rn r n B) (n + 1) := by
  funext j
  unfold updV hv rn
  by_cases e : j = n
  · rw [if_pos e, if_pos (by omega), if_pos e]
  · rw [if_neg e]
    by_cases e2 : j < n
    · rw [if_pos e2, if_pos (by omega), if_neg e]
    · rw [if_neg e2, if_neg (by omega)]

theorem hv_all (r : Nat → Nat) {k c : Nat} (hc : c < k) : hv r k c = .slice (some ⟨r c, 0, none⟩) 4 4 := if_pos hc

theorem rows_next (n : Nat) (r : Nat → Nat) (B : Nat) (V : Nat → Nat → Int) : rowsOf (n + 1) (rn r n B) V = rowsOf n r V ++ [(B, row4 (V n))] := by
  unfold rowsOf
  rw [List.range_succ, List.map_append]
  congr 1
  · apply List.map_congr_left
    intro c hc
    rw [List.mem_range] at hc
    unfold rn
    rw [if_neg (by omega)]
  · unfold rn
    simp

/-- The law's rows while they are made. -/
structure Mk (I : Trc → Prop) (w0 w : World) (b g hb f k L N n : Nat) (r : Nat → Nat) (W : Nat → Nat → Int) : Prop where
  fb : Fb I (rowsOf n r W ++ [(hb, hob k r n), (g, box b f)]) w0 w b g f k L N W
  dj : Dj n r [(hb, hob k r n), (g, box b f)]
  ne : g ≠ hb

theorem Mk.start {I : Trc → Prop} {w0 w : World} {b g f k L N : Nat} {W : Nat → Nat → Int} (h : Fb I [(g, box b f)] w0 w b g f k L N W) (r : Nat → Nat) : Mk I w0 (w.alloc (.cells (rowF k fun _ => .slice none 0 0) 33 (0, 0))) b g w.heap.size f k L N 0 r W := by
  have e : rowF k (fun _ => Value.slice none 0 0) = rowF k (hv r 0) := rowF_eq fun i _ => by unfold hv; rw [if_neg (by omega)]
  refine ⟨?_, ⟨fun c hc => by omega, fun c d hc => by omega⟩, ?_⟩
  · rw [e]
    exact h.push (hob k r 0)
  · have := h.lt (g, box b f) (by simp)
    simp only at this
    omega

theorem Mk.next {I : Trc → Prop} {w0 w : World} {b g hb f k L N n : Nat} {r : Nat → Nat} (h : Mk I w0 w b g hb f k L N n r fun _ _ => 0) (hn : n < k) :
    Mk I w0 ((w.alloc (.cells (rowF 4 fun _ => .int .i64 0) 3 (0, 0))).setCell ⟨hb, n, none⟩ (.slice (some ⟨w.heap.size, 0, none⟩) 4 4)) b g hb f k L N (n + 1) (rn r n w.heap.size) fun _ _ => 0 := by
  have h1 := h.fb.push (row4 fun _ => 0)
  have hlt := h.fb.lt
  have hhb : (hb, hob k r n) ∈ rowsOf n r (fun _ _ => 0) ++ [(hb, hob k r n), (g, box b f)] := by simp
  have hb1 := hlt _ hhb
  have hg1 := hlt (g, box b f) (by simp)
  have hr1 : ∀ c, c < n → r c < w.heap.size := fun c hc => hlt (r c, row4 fun _ => 0) (List.mem_append_left _ (mem_rows (V := fun _ _ => 0) hc))
  simp only at hb1 hg1
  have hset : hob k (rn r n w.heap.size) (n + 1) = .cells ((rowF k (hv r n)).setIfInBounds n (.slice (some ⟨w.heap.size, 0, none⟩) 4 4)) 33 (0, 0) := by
    unfold hob
    rw [rowF_set, hv_next]
  have hdj : Dj (n + 1) (rn r n w.heap.size) [(hb, hob k (rn r n w.heap.size) (n + 1)), (g, box b f)] := by
    refine ⟨fun c hc y hy => ?_, fun c d hc hd e => ?_⟩
    · simp only [List.mem_cons, List.not_mem_nil, or_false] at hy
      unfold rn
      rcases hy with rfl | rfl
      · simp only
        split
        · omega
        · exact h.dj.out c (by omega) (hb, hob k r n) (by simp)
      · simp only
        split
        · omega
        · exact h.dj.out c (by omega) (g, box b f) (by simp)
    · unfold rn at e
      by_cases e1 : c = n
      · by_cases e2 : d = n
        · omega
        · rw [if_pos e1, if_neg e2] at e
          have := hr1 d (by omega)
          omega
      · by_cases e2 : d = n
        · rw [if_neg e1, if_pos e2] at e
          have := hr1 c (by omega)
          omega
        · rw [if_neg e1, if_neg e2] at e
          exact h.dj.inj c d (by omega) (by omega) e
  refine ⟨?_, hdj, h.ne⟩
  refine h1.turn [hb] (fun x hx => ?_) ((Kept.refl [hb] _).setCell (Or.inl (by simp)) _) _ (by simp) fun x hx => ?_
  · rw [List.mem_singleton] at hx
    subst hx
    exact ⟨_, List.mem_cons_of_mem _ hhb⟩
  · have key : ∀ y ∈ (w.heap.size, row4 fun _ => 0) :: (rowsOf n r (fun _ _ => 0) ++ [(hb, hob k r n), (g, box b f)]), y.1 ≠ hb → (((w.alloc (.cells (rowF 4 fun _ => .int .i64 0) 3 (0, 0))).heap.size ≤ y.1 ∨ ∃ o, (y.1, o) ∈ (w.heap.size, row4 fun _ => 0) :: (rowsOf n r (fun _ _ => 0) ++ [(hb, hob k r n), (g, box b f)])) ∧ ((w.alloc (.cells (rowF 4 fun _ => .int .i64 0) 3 (0, 0))).setCell ⟨hb, n, none⟩ (.slice (some ⟨w.heap.size, 0, none⟩) 4 4)).heap[y.1]? = some y.2) := by
      intro y hy hne
      refine ⟨Or.inr ⟨y.2, hy⟩, ?_⟩
      rw [block_other hne]
      exact h1.at_ hy
    rcases List.mem_append.1 hx with hx | hx
    · rw [rows_next] at hx
      rcases List.mem_append.1 hx with hx | hx
      · obtain ⟨c, hc, rfl⟩ := of_rows hx
        exact key _ (List.mem_cons_of_mem _ (List.mem_append_left _ hx)) (fun e => h.dj.out c hc (hb, hob k r n) (by simp) e.symm)
      · rw [List.mem_singleton] at hx
        subst hx
        exact key _ (List.mem_cons_self ..) (by simp only; omega)
    · simp only [List.mem_cons, List.not_mem_nil, or_false] at hx
      rcases hx with rfl | rfl
      · refine ⟨Or.inr ⟨_, List.mem_cons_of_mem _ hhb⟩, ?_⟩
        rw [hset]
        exact block_set (h1.at_ (List.mem_cons_of_mem _ hhb)) _
      · exact key _ (by simp) h.ne

theorem Mk.cell {I : Trc → Prop} {w0 w : World} {b g hb f k L N n : Nat} {r : Nat → Nat} {W : Nat → Nat → Int} (h : Mk I w0 w b g hb f k L N n r W) (hn : n < k) : w.cell? ⟨hb, n, none⟩ = some (.slice none 0 0) ∧ w.frozen? ⟨hb, n, none⟩ = false := by
  have hm : (hb, hob k r n) ∈ rowsOf n r W ++ [(hb, hob k r n), (g, box b f)] := by simp
  refine ⟨?_, h.fb.frozen hm n⟩
  rw [h.fb.cell hm (rowF_get _ hn)]
  unfold hv
  rw [if_neg (by omega)]

/-- Each core has touched its own words alone. -/
def Po (f : Nat) : Trc → Prop := fun t => ∀ c, ∀ x ∈ t c, ∃ d, d < 4 ∧ x.1 = (pl f c d : Int)

theorem po_put (f : Nat) : ∀ t c d bw, d < 4 → Po f t → Po f (tput t c ((pl f c d : Int), bw)) := by
  intro t c d bw hd h c' x hx
  unfold tput at hx
  by_cases e : c' = c
  · rw [if_pos e] at hx
    rcases List.mem_append.1 hx with h1 | h1
    · rw [e]; exact h c x h1
    · rw [List.mem_singleton] at h1; rw [h1, e]; exact ⟨d, hd, rfl⟩
  · rw [if_neg e] at hx
    exact h c' x hx

theorem po_clear (f c : Nat) : ∀ t, Po f t → Po f (tclr t c) := by
  intro t h d x hx
  unfold tclr at hx
  by_cases e : d = c
  · rw [if_pos e] at hx; simp at hx
  · rw [if_neg e] at hx; exact h d x hx

theorem po_far {f : Nat} {t s : Trc} {c d : Nat} (h1 : Po f t) (h2 : Po f s) (hd : d < c) {xs ys : List Int} (ht : Of (t c) xs) (hs : Of (s d) ys) : ∀ x ∈ xs, ∀ y ∈ ys, x ≠ y := by
  intro x hx y hy e
  obtain ⟨p, p1, p2⟩ := ht x hx
  obtain ⟨q, q1, q2⟩ := hs y hy
  obtain ⟨d1, g1, e1⟩ := h1 c p p1
  obtain ⟨d2, g2, e2⟩ := h2 d q q1
  rw [p2, q2, e1, e2] at e
  unfold pl at e
  omega

/-- What a row of ints of one's own is to a reader. -/
theorem Own.read {w : World} {H : Nat} {v : Value} {xs : List Int} (h : Own w H v xs) : ∃ a cap, v = .slice a xs.length cap ∧ ∀ i, i < xs.length → ∃ g, a = some ⟨g, 0, none⟩ ∧ w.cell? ⟨g, i, none⟩ = some (.int .i64 (wordAt xs i)) := by
  rcases h.form with ⟨hv, hx⟩ | ⟨g, cap, cur, hv, -⟩
  · subst hv; subst hx
    exact ⟨none, 0, rfl, fun i hi => by simp at hi⟩
  · subst hv
    exact ⟨_, cap, rfl, fun i hi => ⟨g, rfl, h.lies.2.2.2 i hi⟩⟩

theorem wordAt_mem (xs : List Int) (i : Nat) (h : i < xs.length) : wordAt xs i ∈ xs := by
  unfold wordAt
  simp [List.getD, h]

/-- What an act's region reads: the act, and the core's row. -/
def Rd (w : World) (X hb c R : Nat) (kd xx : Int) : Prop := w.cell? ⟨X, 0, none⟩ = some (.int .i64 kd) ∧ w.cell? ⟨X, 1, none⟩ = some (.int .i64 (c : Int)) ∧ w.cell? ⟨X, 2, none⟩ = some (.int .i64 xx) ∧ w.cell? ⟨hb, c, none⟩ = some (.slice (some ⟨R, 0, none⟩) 4 4)

theorem Fb.reads {I : Trc → Prop} {w0 w : World} {b g hb f k L N : Nat} {r : Nat → Nat} {W V : Nat → Nat → Int} {X c : Nat} {kd xx : Int} (h : Fb I (rowsOf k r V ++ [(X, xob kd (c : Int) xx), (hb, hob k r k), (g, box b f)]) w0 w b g f k L N W) (hc : c < k) :
    w.cell? ⟨X, 0, none⟩ = some (.int .i64 kd) ∧ w.cell? ⟨X, 1, none⟩ = some (.int .i64 (c : Int)) ∧ w.cell? ⟨X, 2, none⟩ = some (.int .i64 xx) ∧ w.cell? ⟨hb, c, none⟩ = some (.slice (some ⟨r c, 0, none⟩) 4 4) := by
  obtain ⟨y0, y1, y2⟩ := xob_cells (h.at_ (x := (X, xob kd (c : Int) xx)) (by simp))
  refine ⟨y0, y1, y2, ?_⟩
  rw [h.cell (m := hb) (cs := rowF k (hv r k)) (t := 33) (by simp [hob]) (rowF_get _ hc), hv_all r hc]

end Go.Proofs.Ytolbjmckebicfaa
