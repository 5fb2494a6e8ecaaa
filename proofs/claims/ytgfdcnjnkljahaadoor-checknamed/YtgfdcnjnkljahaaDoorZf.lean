/-
  A look with blocks of a call's own beside it; the greatest of a row of ints.
-/
import Derived.Test.YtgfdcnjnkljahaaDoorZe
namespace Go.Proofs.YtgfdcnjnkljahaaDoor
open Go.RowKit Go.Lib Go.Maps
set_option linter.unusedVariables false

/-- A look, and blocks beside it. -/
structure Mb (U : World) (h : Wh) (p : Pl) (S : Sta) (n : Nat) (wM w : World) (v : Value) (T : List Fi) (Bs : List (Nat × Obj)) : Prop where
  md : Md U h p S n wM w v T
  bs : ∀ b ∈ Bs, wM.heap.size ≤ b.1 ∧ v.ownBlock ≠ some b.1 ∧ w.heap[b.1]? = some b.2

theorem Md.alone {U : World} {h : Wh} {p : Pl} {S : Sta} {n : Nat} {wM w : World} {v : Value} {T : List Fi} (m : Md U h p S n wM w v T) : Mb U h p S n wM w v T [] := ⟨m, fun b hb => by simp at hb⟩

theorem Mb.fewer {U : World} {h : Wh} {p : Pl} {S : Sta} {n : Nat} {wM w : World} {v : Value} {T : List Fi} {Bs Cs : List (Nat × Obj)} (m : Mb U h p S n wM w v T Bs) (hc : ∀ b ∈ Cs, b ∈ Bs) : Mb U h p S n wM w v T Cs := ⟨m.md, fun b hb => m.bs b (hc b hb)⟩

theorem Mb.same {U : World} {h : Wh} {p : Pl} {S : Sta} {n : Nat} {wM w w' : World} {v : Value} {T : List Fi} {Bs : List (Nat × Obj)} (m : Mb U h p S n wM w v T Bs) (k : Kept [] w w') : Mb U h p S n wM w' v T Bs :=
  ⟨m.md.same k, fun b hb => ⟨(m.bs b hb).1, (m.bs b hb).2.1, by rw [k.block _ (lt_of_heap (m.bs b hb).2.2) (by simp)]; exact (m.bs b hb).2.2⟩⟩

/-- A block more. -/
theorem Mb.more {U : World} {h : Wh} {p : Pl} {S : Sta} {n : Nat} {wM w w' : World} {v : Value} {T : List Fi} {Bs : List (Nat × Obj)} (m : Mb U h p S n wM w v T Bs) (k : Kept [] w w') {Y : Nat} {o : Obj} (hY : w.heap.size ≤ Y) (hb : w'.heap[Y]? = some o) : Mb U h p S n wM w' v T ((Y, o) :: Bs) := by
  have m' := m.same k
  refine ⟨m'.md, fun b hB => ?_⟩
  rcases List.mem_cons.1 hB with rfl | hB
  · refine ⟨Nat.le_trans m.md.tl.kept.size hY, fun e => ?_, hb⟩
    have := m.md.tl.block Y e
    omega
  · exact m'.bs b hB

/-- The first block turns. -/
theorem Mb.turn {U : World} {h : Wh} {p : Pl} {S : Sta} {n : Nat} {wM w w' : World} {v : Value} {T : List Fi} {Bs : List (Nat × Obj)} {Q : Nat} {o o' : Obj} (m : Mb U h p S n wM w v T ((Q, o) :: Bs)) (k : Kept [Q] w w') (hb : w'.heap[Q]? = some o') (hd : ∀ b ∈ Bs, b.1 ≠ Q) : Mb U h p S n wM w' v T ((Q, o') :: Bs) := by
  have q := m.bs (Q, o) (by simp)
  have hX : h.X < wM.heap.size := lt_of_heap m.md.lk.blk
  have hXQ : h.X ≠ Q := by have := q.1; dsimp only at this; omega
  refine ⟨⟨m.md.lk, m.md.sv, m.md.tl.kept.trans k (fun x hx => by simp at hx; subst hx; exact Or.inr q.1), m.md.tl.inF, by rw [k.block _ (lt_of_heap m.md.tl.blk) (by simpa using hXQ)]; exact m.md.tl.blk, ⟨m.md.tl.row.1, ?_⟩, m.md.tl.own⟩, fun b hB => ?_⟩
  · rcases m.md.tl.row.2 with hn | ⟨g, cap, cur, rfl, hb2, hgg, rest⟩
    · exact .inl hn
    · refine .inr ⟨g, cap, cur, rfl, hb2, ?_, rest⟩
      rw [k.block g (lt_of_heap hgg) (fun e => ?_)]
      · exact hgg
      · simp at e; exact q.2.1 (by rw [← e]; rfl)
  · rcases List.mem_cons.1 hB with rfl | hB
    · exact ⟨q.1, q.2.1, hb⟩
    · have z := m.bs b (List.mem_cons_of_mem _ hB)
      exact ⟨z.1, z.2.1, by rw [k.block _ (lt_of_heap z.2.2) (by simpa using hd b hB)]; exact z.2.2⟩

theorem Mb.at {U : World} {h : Wh} {p : Pl} {S : Sta} {n : Nat} {wM w : World} {v : Value} {T : List Fi} {Bs : List (Nat × Obj)} (m : Mb U h p S n wM w v T Bs) {Y i : Nat} {cs : Array Value} {t : TypeId} {z : Nat × Nat} (hb : (Y, Obj.cells cs t z) ∈ Bs) : w.cell? ⟨Y, i, none⟩ = cs[i]? := cellB (m.bs _ hb).2.2

/-- A finding is put among the others. -/
theorem mb_add {U : World} {h : Wh} {p : Pl} {S : Sta} {n : Nat} {wM w : World} {v : Value} {T : List Fi} {Bs : List (Nat × Obj)} (m : Mb U h p S n wM w v T Bs) (kind num : Int) (name : ByteArray) (hl : T.length ≤ 1000000) :
    Calls Tryd.prog 29 #[.pointer (some ⟨h.X, 7, none⟩), .int .i64 kind, .int .i64 num, .string name] w fun e w' => e = .returned (.tuple #[]) ∧ ∃ v', Mb U h p S n wM w' v' (pushF T ⟨kind, num, name⟩) Bs := by
  have hm := m.md
  refine (t_add (hm.tl.rebase (G := h.X :: v.ownBlock.toList) (by simp) (fun k hk => by simp [hk])) kind num name (by omega)).mono ?_
  rintro e w' ⟨rfl, v', h'⟩
  have hown : ∀ x ∈ h.X :: v.ownBlock.toList, x ∈ [h.X] ∨ wM.heap.size ≤ x := by
    intro x hx
    rcases List.mem_cons.1 hx with rfl | hx
    · exact Or.inl (by simp)
    · exact (hm.tl.own x (by simpa using hx)).2
  refine ⟨rfl, v', ⟨hm.lk, hm.sv, hm.tl.kept.trans h'.kept hown, by simp, h'.blk, h'.row, fun k hk => ⟨(h'.own k hk).1, ?_⟩⟩, fun b hb => ?_⟩
  · rcases (h'.own k hk).2 with h1 | h1
    · exact hown k h1
    · exact Or.inr (Nat.le_trans hm.tl.kept.size h1)
  · have z := m.bs b hb
    have hX : h.X < wM.heap.size := lt_of_heap hm.lk.blk
    have hXb : b.1 ≠ h.X := by have := z.1; omega
    have hlt := lt_of_heap z.2.2
    refine ⟨z.1, fun e => ?_, ?_⟩
    · rcases (h'.own _ e).2 with h1 | h1
      · rcases List.mem_cons.1 h1 with h1 | h1
        · exact hXb h1
        · exact z.2.1 (by simpa using h1)
      · omega
    · rw [h'.kept.block _ hlt (fun hx => ?_)]
      · exact z.2.2
      · rcases List.mem_cons.1 hx with h1 | h1
        · exact hXb h1
        · exact z.2.1 (by simpa using h1)

/-- Ints as cells. -/
def icl (l : List Int) : Array Value := (l.map (Value.int .i64)).toArray

theorem icl_get {l : List Int} {i : Nat} (hi : i < l.length) : (icl l)[i]? = some (.int .i64 (l.getD i 0)) := by
  unfold icl; simp [hi]

theorem icl_set {w : World} {Q : Nat} {B : List Int} {t : TypeId} {k : Nat} {z : Int} (h : w.heap[Q]? = some (.cells (icl B) t (0, 0))) : (w.setCell ⟨Q, k, none⟩ (.int .i64 z)).heap[Q]? = some (.cells (icl (B.set k z)) t (0, 0)) := by
  rw [Go.heap_setCell_same w Q k _ _ _ h]
  congr 2
  unfold icl
  rw [List.map_set]
  simp

theorem maxL_drop {B : List Int} {k : Nat} (h : k < B.length) (m : Int) : maxL (B.drop k) m = maxL (B.drop (k + 1)) (max m (B.getD k 0)) := by
  rw [List.drop_eq_getElem_cons h, maxL]
  simp [h]

set_option maxHeartbeats 4000000 in
theorem s_max {w : World} {Q : Nat} {B : List Int} {t : TypeId} (hq : w.heap[Q]? = some (.cells (icl B) t (0, 0))) (h8 : B.length = 8) (c : Nat) :
    Calls Tryd.prog 45 #[.slice (some ⟨Q, 0, none⟩) 8 c] w fun e w' => e = .returned (.int .i64 (max8 B)) ∧ w' = w := by
  have h0 : w.cell? ⟨Q, 0, none⟩ = some (.int .i64 (B.getD 0 0)) := by rw [cellB hq]; exact icl_get (by omega)
  have HQ : Hid (∀ k, k < 8 → w.cell? ⟨Q, k, none⟩ = some (.int .i64 (B.getD k 0))) := fun k hk => by rw [cellB hq]; exact icl_get (by omega)
  have HL : Hid (B.length = 8) := h8
  have HM : Hid (max8 B = maxL (B.drop 1) (B.getD 0 0)) := rfl
  obtain ⟨m0, hm0⟩ : ∃ m0, m0 = B.getD 0 0 := ⟨_, rfl⟩
  rw [← hm0] at h0 HM
  clear hq h8 hm0
  go_enter Tryd.func45, Tryd.ntmps45
  go_wp2_with fail
  clear h0
  go_loopw [3, 4] (fun mv iv wr => wr = w ∧ ∃ (k : Nat) (m : Int), iv = .int .i64 (k : Int) ∧ mv = .int .i64 m ∧ k ≤ 8 ∧ Hid (maxL (B.drop k) m = max8 B)) (fun mv iv _ => (8 - intOf iv).toNat)
  case atStart => exact ⟨rfl, 1, m0, rfl, rfl, by omega, HM.out.symm⟩
  case round =>
    obtain ⟨hw, k, m, rfl, rfl, hk, HK⟩ := hrel
    subst hw
    by_cases hlt : k < 8
    · have HM2 : Hid (∀ y, (if m < y then y else m) = max m y) := fun y => by rw [Int.max_def]; split <;> split <;> omega
      have hc := HQ.out k hlt
      obtain ⟨y, hy⟩ : ∃ y, y = B.getD k 0 := ⟨_, rfl⟩
      have HK2 : Hid (maxL (B.drop (k + 1)) (max m y) = max8 B) := by show _ = _; rw [hy, ← maxL_drop (by rw [HL.out]; omega)]; exact HK.out
      rw [← hy] at hc
      have j0 : (0 : Int) ≤ (k : Int) := by omega
      have j1 : (k : Int) < 8 := by omega
      clear hy HK HM
      go_wp2_with fail
      go_roundw
      case rel => exact ⟨trivial, k + 1, _, by go_num, rfl, by omega, by rw [HM2.out]; exact HK2⟩
      case measure => simp [intOf]; omega
    · have ek : k = 8 := by omega
      have HE : Hid (m = max8 B) := by show _ = _; rw [← HK.out, ek, List.drop_of_length_le (by rw [HL.out]; omega)]; rfl
      have j1 : ¬ (k : Int) < 8 := by omega
      clear HK HM ek
      go_wp2_with fail
      go_ret
      exact ⟨by rw [HE.out]; rfl, rfl⟩

end Go.Proofs.YtgfdcnjnkljahaaDoor
