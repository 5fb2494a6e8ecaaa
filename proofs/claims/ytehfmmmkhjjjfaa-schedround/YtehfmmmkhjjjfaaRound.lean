/-
  Picks round and round: what lies in memory, and that they are fair.
-/
import Derived.Test.YtehfmmmkhjjjfaaBits
namespace Go.Proofs.Ytehfmmmkhjjjfaa
open Go.RowKit
set_option linter.unusedSimpArgs false
set_option linter.unusedVariables false

theorem make_bools (n : Nat) (h : n ≤ 65536) (w : World) : (Instr.makeSlice 22 (.int .i64 (n : Int)) (.int .i64 (n : Int))).run Try.prog w = .ok (.slice (some ⟨w.heap.size, 0, none⟩) n n) (w.alloc (.cells (List.replicate n (.bool false)).toArray 4)) := by
  obtain ⟨i0, hi, hz0, hz1, hz2⟩ := info_parts info4
  have := run_make (P := Try.prog) w 22 4 i0 (.bool false) Try.underlying22 hi hz0 .i64 .i64 n n (by omega) (by omega) (by rw [hz2]; omega) (by omega)
  rw [this]
  have e : madeCells (Value.bool false).cells ((n : Int).toNat * i0.size) = (List.replicate n (.bool false)).toArray := by
    apply Array.ext'
    rw [hz1]
    simp [toList_madeCells_one, Value.cells]
  rw [e]
  simp

/-- All of k are ready: i of them are told so. -/
structure Al (w1 : World) (ga k i : Nat) (wr : World) : Prop where
  still : Still w1 wr
  hga : w1.heap.size ≤ ga
  row : ∃ cs : Array Value, wr.heap[ga]? = some (.cells cs 4 (0, 0)) ∧ cs.size = k ∧ (∀ j, j < i → cs[j]? = some (.bool true)) ∧ ∀ j, j < k → ∃ b, cs[j]? = some (.bool b)

theorem Al.start (w1 : World) (k : Nat) : Al w1 w1.heap.size k 0 (w1.alloc (.cells (List.replicate k (.bool false)).toArray 4)) :=
  ⟨still_alloc _ _, Nat.le_refl _, _, heap_alloc_new _ _, by simp, fun j hj => by omega, fun j hj => ⟨false, by simp [hj]⟩⟩

theorem Al.cell {w1 wr : World} {ga k i j : Nat} (h : Al w1 ga k i wr) (hj : j < k) : (∃ b, wr.cell? ⟨ga, j, none⟩ = some (.bool b)) ∧ wr.frozen? ⟨ga, j, none⟩ = false := by
  obtain ⟨cs, h1, h2, h3, h4⟩ := h.row
  obtain ⟨b, hb⟩ := h4 j hj
  exact ⟨⟨b, by simp [World.cell?, h1, hb]⟩, by simp [World.frozen?, h1]⟩

theorem Al.next {w1 wr : World} {ga k i : Nat} (h : Al w1 ga k i wr) (hi : i < k) : Al w1 ga k (i + 1) (wr.setCell ⟨ga, i, none⟩ (.bool true)) := by
  obtain ⟨cs, h1, h2, h3, h4⟩ := h.row
  refine ⟨h.still.setCell h.hga _, h.hga, cs.setIfInBounds i (.bool true), heap_setCell_same wr ga i cs 4 _ h1, by simpa using h2, fun j hj => ?_, fun j hj => ?_⟩
  · by_cases e : i = j
    · subst e; simp [h2, hi]
    · rw [Array.getElem?_setIfInBounds_ne e]; exact h3 j (by omega)
  · by_cases e : i = j
    · subst e; exact ⟨true, by simp [h2, hi]⟩
    · rw [Array.getElem?_setIfInBounds_ne e]; exact h4 j hj

/-- The picks, round and round. -/
def rnd (k : Nat) : Nat → List Int
  | 0 => []
  | i + 1 => rnd k i ++ [((i % k : Nat) : Int)]

theorem rnd_length (k : Nat) : ∀ i, (rnd k i).length = i
  | 0 => rfl
  | i + 1 => by simp [rnd, rnd_length k i]

theorem rnd_get (k : Nat) : ∀ i j, j < i → (rnd k i).getD j 0 = ((j % k : Nat) : Int)
  | 0, j, h => by omega
  | i + 1, j, h => by
    have hl := rnd_length k i
    simp only [rnd, List.getD, List.getElem?_append]
    by_cases e : j = i
    · subst e; simp [hl]
    · rw [if_pos (by omega)]
      exact rnd_get k i j (by omega)

/-- Behind i steps and j picks. -/
structure Rd (w1 : World) (ga k i j : Nat) (vr vp : Value) (wr : World) : Prop where
  al : Al w1 ga k k wr
  rows : wr.ownsRow w1.heap.size 22 1 vr i (List.replicate i (.slice (some ⟨ga, 0, none⟩) k k))
  picks : Own wr w1.heap.size vp (rnd k j)
  n1 : ∀ x, vr.ownBlock = some x → x ≠ ga
  n2 : ∀ x, vp.ownBlock = some x → x ≠ ga
  n3 : ∀ x, vr.ownBlock = some x → vp.ownBlock = some x → False

theorem Al.still' {w1 wr w2 : World} {ga k i : Nat} (h : Al w1 ga k i wr) (hB : Below w1.heap.size w1 w2) (e : w2.heap[ga]? = wr.heap[ga]?) : Al w1 ga k i w2 := by
  obtain ⟨cs, h1, rest⟩ := h.row
  exact ⟨hB, h.hga, cs, by rw [e]; exact h1, rest⟩

theorem Al.lt {w1 wr : World} {ga k i : Nat} (h : Al w1 ga k i wr) : ga < wr.heap.size := by
  obtain ⟨cs, h1, rest⟩ := h.row
  exact lt_of_heap h1

theorem Rd.start {w1 wr : World} {ga k : Nat} (h : Al w1 ga k k wr) : Rd w1 ga k 0 0 (.slice none 0 0) (.slice none 0 0) wr :=
  ⟨h, World.ownsRow_nil _ _ _ _, Own.nil _ _, fun x hx => (by cases hx), fun x hx => (by cases hx), fun x hx => (by cases hx)⟩

theorem rows_same {w w' : World} {H e : Nat} {v : Value} {n : Nat} {xs : List Value} (h : w.ownsRow H e 1 v n xs) (hk : ∀ k, v.ownBlock = some k → w'.heap[k]? = w.heap[k]?) : w'.ownsRow H e 1 v n xs := by
  refine ⟨h.1, ?_⟩
  rcases h.2 with hn | ⟨g, cap, cur, rfl, hb, hgg, rest⟩
  · exact .inl hn
  · exact .inr ⟨g, cap, cur, rfl, hb, by rw [hk g rfl]; exact hgg, rest⟩

theorem Rd.still {w1 wr w2 : World} {ga k i j : Nat} {vr vp : Value} (h : Rd w1 ga k i j vr vp wr) (hS : Still wr w2) : Rd w1 ga k i j vr vp w2 :=
  ⟨h.al.still' (Still.then h.al.still hS) (hS.block _ h.al.lt), rows_same h.rows fun x hx => hS.block x (h.rows.lt x hx).2, h.picks.still hS, h.n1, h.n2, h.n3⟩

theorem Rd.addRow {w1 wr w2 : World} {ga k i j : Nat} {vr vp : Value} {g cap : Nat} (h : Rd w1 ga k i j vr vp wr) (hown : w2.ownsRow w1.heap.size 22 1 (.slice (some ⟨g, 0, none⟩) (i + 1) cap) (i + 1) (List.replicate i (.slice (some ⟨ga, 0, none⟩) k k) ++ [.slice (some ⟨ga, 0, none⟩) k k])) (hg : wr.grownBy w2 vr.ownBlock) (hat : vr.ownBlock = some g ∨ g = wr.heap.size) :
    Rd w1 ga k (i + 1) j (.slice (some ⟨g, 0, none⟩) (i + 1) cap) vp w2 := by
  have hlt := h.al.lt
  refine ⟨h.al.still' (h.al.still.grown hg h.al.still.size (fun x hx => (h.rows.lt x hx).1)) (hg.block _ hlt fun e => h.n1 _ e.symm rfl), ?_, ?_, fun x hx => ?_, h.n2, fun x hx hy => ?_⟩
  · have := hown
    rwa [← List.replicate_succ'] at this
  · exact h.picks.same fun x hx => hg.block x (h.picks.block x hx).2 fun e => h.n3 x e.symm hx
  · simp only [Value.ownBlock, Option.some.injEq] at hx
    subst hx
    rcases hat with h1 | h1
    · exact h.n1 _ h1
    · omega
  · simp only [Value.ownBlock, Option.some.injEq] at hx
    subst hx
    rcases hat with h1 | h1
    · exact h.n3 _ h1 hy
    · have := (h.picks.block _ hy).2
      omega

theorem Rd.addPick {w1 wr w2 : World} {ga k i j : Nat} {vr vp : Value} {g cap n : Nat} (h : Rd w1 ga k i j vr vp wr) (hown : Own w2 w1.heap.size (.slice (some ⟨g, 0, none⟩) n cap) (rnd k (j + 1))) (hg : wr.grownBy w2 vp.ownBlock) (hat : vp.ownBlock = some g ∨ g = wr.heap.size) :
    Rd w1 ga k i (j + 1) vr (.slice (some ⟨g, 0, none⟩) n cap) w2 := by
  have hlt := h.al.lt
  refine ⟨h.al.still' (h.al.still.grown hg h.al.still.size (fun x hx => (h.picks.block x hx).1)) (hg.block _ hlt fun e => h.n2 _ e.symm rfl), ?_, hown, h.n1, fun x hx => ?_, fun x hx hy => ?_⟩
  · exact rows_same h.rows fun x hx => hg.block x (h.rows.lt x hx).2 fun e => h.n3 x hx e.symm
  · simp only [Value.ownBlock, Option.some.injEq] at hx
    subst hx
    rcases hat with h1 | h1
    · exact h.n2 _ h1
    · omega
  · simp only [Value.ownBlock, Option.some.injEq] at hy
    subst hy
    rcases hat with h1 | h1
    · exact h.n3 _ hx h1
    · have := (h.rows.lt _ hx).2
      omega

theorem Al.bl {w1 wr : World} {ga k : Nat} (h : Al w1 ga k k wr) : Bl wr (some ⟨ga, 0, none⟩) k (fun _ => true) := fun i hi => by
  obtain ⟨cs, h1, h2, h3, _⟩ := h.row
  exact ⟨ga, 0, rfl, by simp [World.cell?, h1, h3 i hi]⟩

/-- What Fair is handed. -/
theorem Rd.handed {w1 wr : World} {ga k m : Nat} {vr vp : Value} (h : Rd w1 ga k m m vr vp wr) (hm : 0 < m) : ∃ g cap a2 c2, vr = .slice (some ⟨g, 0, none⟩) m cap ∧ vp = .slice a2 m c2 ∧
    Gr wr (some ⟨g, 0, none⟩) m (fun _ => k) (fun _ _ => true) ∧ Il wr a2 m (fun s => ((s % k : Nat) : Int)) := by
  obtain ⟨g, cap, hv, _, _⟩ := h.rows.form hm
  obtain ⟨a2, c2, hp⟩ := h.picks.isSlice
  rw [rnd_length] at hp
  refine ⟨g, cap, a2, c2, hv, hp, fun r hr => ⟨g, 0, some ⟨ga, 0, none⟩, k, rfl, ?_, h.al.bl⟩, ?_⟩
  · have := h.rows.cells (g := g) (by rw [hv]; rfl) r (.slice (some ⟨ga, 0, none⟩) k k) (by simp [hr])
    rw [add_lit] at this
    simpa using this
  · have := h.picks
    rw [hp] at this
    exact this.il.2.congr fun i hi => rnd_get k m i hi

theorem places_all (k : Nat) : ∀ n j, j < n → (places (fun _ => true) n).length = n ∧ (places (fun _ => true) n).getD j 0 = (j : Int)
  | 0, j, h => by omega
  | n + 1, j, h => by
    by_cases e : j < n
    · obtain ⟨h1, h2⟩ := places_all k n j e
      simp only [places, if_true, List.length_append, h1, List.getD, List.getElem?_append]
      refine ⟨rfl, ?_⟩
      rw [if_pos e]
      exact h2
    · have : j = n := by omega
      subst this
      have hl : (places (fun _ => true) j).length = j := by
        cases j with
        | zero => rfl
        | succ j => exact (places_all k (j + 1) 0 (by omega)).1
      simp [places, hl]

theorem pick_round (k i : Nat) (hk : 1 ≤ k) (hi : i ≤ 1048576) : pickAns (places (fun _ => true) k) (i : Int) = .tuple #[.int .i64 ((i % k : Nat) : Int), .bool true] := by
  have hlt : i % k < k := Nat.mod_lt _ (by omega)
  obtain ⟨h1, h2⟩ := places_all k k (i % k) hlt
  have hne : places (fun _ => true) k ≠ [] := fun e => by rw [e] at h1; simp at h1; omega
  rw [pickAns_some hne]
  have : pickAt (places (fun _ => true) k) (i : Int) = ((i % k : Nat) : Int) := by
    have e : umod (i : Int) (k : Int) = ((i % k : Nat) : Int) := by
      rw [umod, Int.emod_eq_of_lt (a := (i : Int)) (b := 18446744073709551616) (by omega) (by omega)]
      rfl
    rw [pickAt, h1, e, Int.toNat_natCast, h2]
  rw [this]

theorem round_fair (k m : Nat) (hk : 1 ≤ k) : Fine (fun _ => k) (fun _ _ => true) (fun s => ((s % k : Nat) : Int)) m (k : Int) := by
  rw [fine_iff _ _ _ _ _ hk]
  intro i hi c hc hall
  have hlt : (c + k - i % k) % k < k := Nat.mod_lt _ (by omega)
  have hik : i % k < k := Nat.mod_lt _ (by omega)
  have key : (i + (c + k - i % k) % k) % k = c := by
    rw [Nat.add_mod_mod]
    have e : i + (c + k - i % k) = c + k * (i / k + 1) := by
      have := Nat.div_add_mod i k
      rw [Nat.mul_add, Nat.mul_one]
      omega
    rw [e, Nat.add_mul_mod_self_left]
    exact Nat.mod_eq_of_lt hc
  have hb := hall (i + (c + k - i % k) % k) (by omega) (by omega)
  exact hb.2.2 (show (((i + (c + k - i % k) % k) % k : Nat) : Int) = (c : Int) by rw [key])

theorem round_unfair (k m : Nat) (hk : 2 ≤ k) (hm : k ≤ m) : ¬ Fine (fun _ => k) (fun _ _ => true) (fun s => ((s % k : Nat) : Int)) m ((k : Int) - 1) := by
  intro h
  have h1 := h (k - 1) (by omega) (k - 1)
  have h2 := (run_ge (fun _ => k) (fun _ _ => true) (fun s => ((s % k : Nat) : Int)) (k - 1) (k - 1) (k - 1)).2 ⟨by omega, fun j _ hj => ⟨show k - 1 < k by omega, rfl, ?_⟩⟩
  · omega
  · show ((j % k : Nat) : Int) ≠ ((k - 1 : Nat) : Int)
    rw [Nat.mod_eq_of_lt (by omega)]
    omega

end Go.Proofs.Ytehfmmmkhjjjfaa
