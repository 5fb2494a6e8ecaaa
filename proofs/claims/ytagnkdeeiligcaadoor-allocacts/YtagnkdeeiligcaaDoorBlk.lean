/-
  Rows of blocks of a law; apart.
-/
import Derived.Test.YtagnkdeeiligcaaDoorStd
namespace Go.Proofs.YtagnkdeeiligcaaDoor
open Go.RowKit

/-- A block: whose, where, how long. -/
abbrev Blk := Nat × Nat × Nat

def bcells (bs : List Blk) : List Value := bs.flatMap fun x => [.int .i64 (x.1 : Int), .int .i64 (x.2.1 : Int), .int .i64 (x.2.2 : Int)]

theorem bcells_length (bs : List Blk) : (bcells bs).length = bs.length * 3 := by
  unfold bcells
  induction bs with
  | nil => rfl
  | cons x t ih => simp only [List.flatMap_cons, List.length_append, List.length_cons, List.length_nil] at *; omega

theorem bcells_append (s t : List Blk) : bcells (s ++ t) = bcells s ++ bcells t := by simp [bcells]

theorem bcells_get (bs : List Blk) : ∀ i x, bs[i]? = some x → (bcells bs)[i * 3]? = some (.int .i64 (x.1 : Int)) ∧ (bcells bs)[i * 3 + 1]? = some (.int .i64 (x.2.1 : Int)) ∧ (bcells bs)[i * 3 + 2]? = some (.int .i64 (x.2.2 : Int)) := by
  induction bs with
  | nil => intro i x h; simp at h
  | cons y t ih =>
    intro i x h
    cases i with
    | zero => simp at h; subst h; simp [bcells]
    | succ i =>
      have := ih i x (by simpa using h)
      have e : bcells (y :: t) = .int .i64 (y.1 : Int) :: .int .i64 (y.2.1 : Int) :: .int .i64 (y.2.2 : Int) :: bcells t := by simp [bcells]
      rw [e, show (i + 1) * 3 = i * 3 + 1 + 1 + 1 by omega]
      simpa using this

/-- A row of blocks of the law's own. -/
def BOwn (w : World) (H : Nat) (v : Value) (bs : List Blk) : Prop := w.ownsRow H 39 3 v bs.length (bcells bs)

theorem BOwn.nil (w : World) (H : Nat) : BOwn w H (.slice none 0 0) [] := World.ownsRow_nil w H 39 3

theorem BOwn.block {w : World} {H : Nat} {v : Value} {bs : List Blk} (h : BOwn w H v bs) : ∀ k, v.ownBlock = some k → H ≤ k ∧ k < w.heap.size := World.ownsRow.lt h

theorem BOwn.same {w w' : World} {H : Nat} {v : Value} {bs : List Blk} (h : BOwn w H v bs) (hk : ∀ k, v.ownBlock = some k → w'.heap[k]? = w.heap[k]?) : BOwn w' H v bs := by
  refine ⟨h.1, ?_⟩
  rcases h.2 with hn | ⟨g, cap, cur, rfl, hb, hgg, rest⟩
  · exact .inl hn
  · exact .inr ⟨g, cap, cur, rfl, hb, by rw [hk g rfl]; exact hgg, rest⟩

theorem BOwn.kept {w w' : World} {H : Nat} {v : Value} {bs : List Blk} (h : BOwn w H v bs) (k : Kept [] w w') : BOwn w' H v bs :=
  h.same fun x hx => k.block x (h.block x hx).2 (by simp)

theorem BOwn.mono {w : World} {H H' : Nat} {v : Value} {bs : List Blk} (h : BOwn w H v bs) (hH : H' ≤ H) : BOwn w H' v bs := by
  refine ⟨h.1, ?_⟩
  rcases h.2 with hn | ⟨g, cap, cur, hv, hb, rest⟩
  · exact .inl hn
  · exact .inr ⟨g, cap, cur, hv, by omega, rest⟩

/-- What such a row is to a reader. -/
theorem BOwn.read {w : World} {H : Nat} {v : Value} {bs : List Blk} (h : BOwn w H v bs) : ∃ a cap, v = .slice a bs.length cap ∧ ∀ i (hi : i < bs.length), ∃ g, a = some ⟨g, 0, none⟩ ∧ w.cell? ⟨g, i * 3, none⟩ = some (.int .i64 ((bs[i]).1 : Int)) ∧ w.cell? ⟨g, i * 3 + 1, none⟩ = some (.int .i64 ((bs[i]).2.1 : Int)) ∧ w.cell? ⟨g, i * 3 + 2, none⟩ = some (.int .i64 ((bs[i]).2.2 : Int)) := by
  rcases h.2 with ⟨hv, hx⟩ | ⟨g, cap, cur, hv, hb, hg, h4, h5, h6, h7⟩
  · subst hv
    obtain rfl := List.eq_nil_of_length_eq_zero hx
    exact ⟨none, 0, rfl, fun i hi => by simp at hi⟩
  · subst hv
    refine ⟨_, cap, rfl, fun i hi => ⟨g, rfl, ?_⟩⟩
    have key : ∀ j u, (bcells bs)[j]? = some u → w.cell? ⟨g, j, none⟩ = some u := fun j u hu => by
      have hj : j < bs.length * 3 := by
        rw [← bcells_length]
        exact (List.getElem?_eq_some_iff.1 hu).1
      have h8 : (cur.toList.take (bs.length * 3))[j]? = some u := by rw [h7]; exact hu
      rw [List.getElem?_take_of_lt hj] at h8
      have h9 : cur[j]? = some u := by simpa using h8
      simp [World.cell?, hg, h9]
    obtain ⟨b0, b1, b2⟩ := bcells_get bs i _ (List.getElem?_eq_getElem hi)
    exact ⟨key _ _ b0, key _ _ b1, key _ _ b2⟩

theorem info39 : (Tryd.prog.info? 39).map (fun i => (i.zero, i.size, i.bytes)) = some (some (.agg #[.int .i64 0, .int .i64 0, .int .i64 0]), 3, 24) := by kernel_rfl

theorem bcells_oneCell (bs : List Blk) : ∀ u ∈ bcells bs, u.oneCell' = true := by
  intro u hu
  simp only [bcells, List.mem_flatMap] at hu
  obtain ⟨a, _, hu⟩ := hu
  simp at hu
  rcases hu with rfl | rfl | rfl <;> rfl

/-- One block more. -/
theorem bappend {w : World} {H : Nat} {v : Value} {bs : List Blk} (h : BOwn w H v bs) (hH : H ≤ w.heap.size) (c t z : Nat) (hb : bs.length ≤ 100000) (ty : TypeId) :
    ∃ v' w', (Builtin.append_ #[31, 31] ty #[v, .slice (some ⟨w.heap.size, 0, none⟩) 1 1]).run Tryd.prog (w.alloc (.cells #[.int .i64 (c : Int), .int .i64 (t : Int), .int .i64 (z : Int)] 39)) = .ok v' w' ∧ BOwn w' H v' (bs ++ [(c, t, z)]) ∧ Grew (w.alloc (.cells #[.int .i64 (c : Int), .int .i64 (t : Int), .int .i64 (z : Int)] 39)) w' v v' := by
  obtain ⟨i0, hi, hz0, hz1, hz2⟩ := info_parts info39
  have e := Go.heap_alloc_new w (.cells #[.int .i64 (c : Int), .int .i64 (t : Int), .int .i64 (z : Int)] 39)
  have h' := h.kept ((Kept.refl [] w).alloc (.cells #[.int .i64 (c : Int), .int .i64 (t : Int), .int .i64 (z : Int)] 39))
  obtain ⟨v', w', hr, h2, h3, _, h5⟩ := run_append_own_at (P := Tryd.prog) (w.alloc (.cells #[.int .i64 (c : Int), .int .i64 (t : Int), .int .i64 (z : Int)] 39)) H 31 ty 39 i0 (.agg #[.int .i64 0, .int .i64 0, .int .i64 0]) 3 24 Tryd.underlying31 hi hz0 hz1 hz2 rfl (by omega) v bs.length (bcells bs) h' ⟨w.heap.size, 0, none⟩ 1 1 (bcells [(c, t, z)]) (by simp [bcells])
    (fun j u hu => by
      rw [add_lit, Nat.zero_add]
      rw [cellB e]
      simp only [bcells, List.flatMap_cons, List.flatMap_nil, List.append_nil] at hu
      simpa using hu)
    (bcells_oneCell _) (by unfold maxLen; omega) (by omega) (by simp; omega)
  refine ⟨v', w', hr, ?_, h3, fun k hk => ?_⟩
  · unfold BOwn
    rw [bcells_append, List.length_append]
    exact h2
  · rcases h5 with h5 | h5
    · exact Or.inl (h5 ▸ hk)
    · right
      rw [h5] at hk
      simp at hk
      simp
      omega

/-- A new block lies beside all others. -/
def Beside (bs : List Blk) (t z : Nat) : Prop := ∀ y ∈ bs, y.2.1 + y.2.2 ≤ t ∨ t + z ≤ y.2.1

set_option maxRecDepth 100000 in
set_option maxHeartbeats 4000000 in
theorem apart_any {w : World} {H : Nat} {v : Value} {bs : List Blk} (h : BOwn w H v bs) (c t z f W : Nat) (h1 : f ≤ t) (h2 : t + z ≤ f + W) (hW : f + W ≤ 100000) (hn : bs.length ≤ 100000) (hs : ∀ y ∈ bs, y.2.1 + y.2.2 ≤ 100000) (hb : Beside bs t z) :
    Calls Tryd.prog 12 #[v, bkv c t z, .int .i64 (f : Int), .int .i64 (W : Int)] w fun e w' => e = .returned (.bool true) ∧ Kept [] w w' := by
  have hK : Kept [] w (w.alloc (.cells #[.int .i64 (c : Int), .int .i64 (t : Int), .int .i64 (z : Int)] 39)) := (Kept.refl _ _).alloc _
  have hB := Go.heap_alloc_new w (.cells #[.int .i64 (c : Int), .int .i64 (t : Int), .int .i64 (z : Int)] 39)
  obtain ⟨a, cap, rfl, hrd⟩ := (h.kept hK).read
  have HX : Hid (_ ∧ _ ∧ _ ∧ _ ∧ _) := ⟨hK, hB, hrd, hs, hb⟩
  clear hK hB hrd hs hb h
  have i0 : decide ((t : Int) < (f : Int)) = false := by simp; omega
  have i1 : decide ((f : Int) + (W : Int) - (z : Int) < (t : Int)) = false := by simp; omega
  go_enter Tryd.func12, Tryd.ntmps12
  go_wp2_with fail
  go_loopw [9] (fun i wr => ∃ k : Nat, i = .int .i64 (k : Int) ∧ k ≤ bs.length ∧ Hid (Kept [] (w.alloc (.cells #[.int .i64 (c : Int), .int .i64 (t : Int), .int .i64 (z : Int)] 39)) wr)) (fun i _ => (bs.length - intOf i).toNat)
  case atStart => exact ⟨0, by simp, by omega, Kept.refl _ _⟩
  case round =>
    obtain ⟨k, rfl, hk, HK⟩ := hrel
    by_cases hlt : k < bs.length
    · have j0 : (0 : Int) ≤ (k : Int) := by omega
      have j1 : (k : Int) < (bs.length : Int) := by omega
      obtain ⟨g, ea, c0, c1, c2⟩ := HX.out.2.2.1 k hlt
      subst ea
      have y1 := HK.out.cell c1 (by simp)
      have y2 := HK.out.cell c2 (by simp)
      have b1 := HK.out.cell (cellB HX.out.2.1 (i := 1)) (by simp)
      have b2 := HK.out.cell (cellB HX.out.2.1 (i := 2)) (by simp)
      have hbe := HX.out.2.2.2.2 bs[k] (List.getElem_mem hlt)
      have hsm := HX.out.2.2.2.1 bs[k] (List.getElem_mem hlt)
      generalize (bs[k]).2.1 = ty at *
      generalize (bs[k]).2.2 = tz at *
      clear c0 c1 c2
      have b1' : wr.cell? ⟨w.heap.size, 1, none⟩ = some (.int .i64 (t : Int)) := b1
      have b2' : wr.cell? ⟨w.heap.size, 2, none⟩ = some (.int .i64 (z : Int)) := b2
      clear b1 b2
      have e1 : IntKind.i64.wrap ((ty : Int) + (tz : Int)) = (ty : Int) + (tz : Int) := by rw [IntKind.wrap_i64]; omega
      have e2 : IntKind.i64.wrap ((t : Int) + (z : Int)) = (t : Int) + (z : Int) := by rw [IntKind.wrap_i64]; omega
      by_cases hf : t < ty + tz
      · have d1 : decide ((t : Int) < (ty : Int) + (tz : Int)) = true := by simp; omega
        have d2 : decide ((ty : Int) < (t : Int) + (z : Int)) = false := by simp; omega
        clear hbe
        go_wp2_with fail
        go_quiet (fail)
        go_wp2
        go_roundw
        case rel => exact ⟨k + 1, by go_num, by omega, HK.out.drewN nq⟩
        case measure => simp [intOf]; omega
      · have d1 : decide ((t : Int) < (ty : Int) + (tz : Int)) = false := by simp; omega
        clear hbe
        go_wp2_with fail
        go_quiet (fail)
        go_wp2
        go_roundw
        case rel => exact ⟨k + 1, by go_num, by omega, HK.out.drewN nq⟩
        case measure => simp [intOf]; omega
    · have j1 : ¬ (k : Int) < (bs.length : Int) := by omega
      go_wp2
      go_ret
      exact ⟨rfl, HX.out.1.trans HK.out (by simp)⟩

end Go.Proofs.YtagnkdeeiligcaaDoor
