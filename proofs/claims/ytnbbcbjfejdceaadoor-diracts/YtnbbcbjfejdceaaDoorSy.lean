/-
  Package dir: a name spelled as two words.
-/
import Derived.Test.YtnbbcbjfejdceaaDoorSx
import Derived.Laws.IdiomStrings
namespace Go.Proofs.YtnbbcbjfejdceaaDoor
open Go.RowKit
set_option linter.unusedVariables false

theorem at8_ext {s : ByteArray} {j k i : Nat} (hi : i < k) (hk : j + k ≤ s.size) : at8 (s.extract j (j + k)) i = at8 s (j + i) := by
  unfold at8
  rw [get_data, get_data, ByteArray.data_extract, Array.getElem?_extract]
  have hs : s.data.size = s.size := rfl
  rw [if_pos (by omega)]

/-- '[]byte(s)'. -/
theorem conv_bytes (s : ByteArray) (w : World) : ∃ cap W', (convert 9 94 (.string s)).run Tryd.prog w = .ok (.slice (some ⟨w.heap.size, 0, none⟩) s.size cap) W' ∧ Kept [] w W' ∧ ∀ i, i < s.size → W'.cell? ⟨w.heap.size, i, none⟩ = some (.int .u8 (at8 s i : Int)) := by
  refine ⟨_, _, run_bytes_of_string w 9 94 5 s Tryd.underlying9 Tryd.underlying94 Tryd.underlying5, (Kept.refl [] w).drew.alloc _, fun i hi => ?_⟩
  have hh := heap_alloc_new w.drew (.cells (bytesRow s (grownCap w s.size 0 5)) 5 ((bytesRow s (grownCap w s.size 0 5)).size, (bytesRow s (grownCap w s.size 0 5)).size + 1))
  rw [cell_of_row _ w.heap.size _ _ _ _ hh, bytesRow_at s _ i hi]
  unfold at8
  rw [get_data, Array.getElem?_eq_getElem hi]
  rfl

/-- The worlds of spell: the answer's block, the words', the loop's. -/
structure Sw (s : ByteArray) (w wr : World) (j : Nat) (z0 z1 : Int) : Prop where
  kept : Kept [] w wr
  b0 : wr.heap[w.heap.size]? = some (.cells #[.int .i64 0, .int .i64 0] 69 (0, 0))
  b1 : wr.heap[w.heap.size + 1]? = some (.cells #[.int .i64 z0, .int .i64 z1] 69 (0, 0))
  it : wr.heap[w.heap.size + 2]? = some (.stringIter s j)

theorem Sw.still {s : ByteArray} {w wr w' : World} {j : Nat} {z0 z1 : Int} (h : Sw s w wr j z0 z1) (k : Kept [] wr w') : Sw s w w' j z0 z1 :=
  ⟨h.kept.trans k (by simp), (k.block _ (lt_of_heap h.b0) (by simp)).trans h.b0, (k.block _ (lt_of_heap h.b1) (by simp)).trans h.b1, (k.block _ (lt_of_heap h.it) (by simp)).trans h.it⟩

theorem Sw.next {s : ByteArray} {w wr : World} {j : Nat} {z0 z1 : Int} (h : Sw s w wr j z0 z1) (i : Nat) : Sw s w (iterTo wr (w.heap.size + 2) s i) i z0 z1 := by
  have hlt := lt_of_heap h.it
  refine ⟨⟨h.kept.os, h.kept.tape, h.kept.output, ?_, ?_⟩, ?_, ?_, ?_⟩
  · show w.heap.size ≤ (wr.heap.setIfInBounds _ _).size
    rw [Array.size_setIfInBounds]; exact h.kept.size
  · intro q hq hF
    show (wr.heap.setIfInBounds _ _)[q]? = _
    rw [Array.getElem?_setIfInBounds, if_neg (by omega)]
    exact h.kept.block q hq hF
  · show (wr.heap.setIfInBounds _ _)[_]? = _
    rw [Array.getElem?_setIfInBounds, if_neg (by omega)]; exact h.b0
  · show (wr.heap.setIfInBounds _ _)[_]? = _
    rw [Array.getElem?_setIfInBounds, if_neg (by omega)]; exact h.b1
  · show (wr.heap.setIfInBounds _ _)[_]? = _
    rw [Array.getElem?_setIfInBounds, if_pos rfl, if_pos hlt]

theorem Sw.set0 {s : ByteArray} {w wr : World} {j : Nat} {z0 z1 : Int} (h : Sw s w wr j z0 z1) (v : Int) : Sw s w (wr.setCell ⟨w.heap.size + 1, 0, none⟩ (.int .i64 v)) j v z1 :=
  ⟨h.kept.setCell (Or.inr (by simp)) _, (heap_setCell_other _ _ _ _ (by simp)).trans h.b0, heap_setCell_same _ _ _ _ _ _ h.b1, (heap_setCell_other _ _ _ _ (by simp)).trans h.it⟩

theorem Sw.set1 {s : ByteArray} {w wr : World} {j : Nat} {z0 z1 : Int} (h : Sw s w wr j z0 z1) (v : Int) : Sw s w (wr.setCell ⟨w.heap.size + 1, 1, none⟩ (.int .i64 v)) j z0 v :=
  ⟨h.kept.setCell (Or.inr (by simp)) _, (heap_setCell_other _ _ _ _ (by simp)).trans h.b0, heap_setCell_same _ _ _ _ _ _ h.b1, (heap_setCell_other _ _ _ _ (by simp)).trans h.it⟩

theorem Sw.pos {s : ByteArray} {w wr : World} {j : Nat} {z0 z1 : Int} (h : Sw s w wr j z0 z1) : wr.iterPos (w.heap.size + 2) = j := by simp [World.iterPos, h.it]

theorem Sw.begin (s : ByteArray) (w : World) : Sw s w (((w.alloc (.cells #[.int .i64 0, .int .i64 0] 69)).alloc (.cells #[.int .i64 0, .int .i64 0] 69)).iter s 0) 0 0 0 := by
  have k1 : Kept [] w (w.alloc (.cells #[.int .i64 0, .int .i64 0] 69)) := (Kept.refl [] w).alloc _
  have hh : ∀ v : World, v.iter s 0 = v.alloc (.stringIter s 0) := fun v => rfl
  rw [hh]
  have s2 : ((w.alloc (.cells #[.int .i64 0, .int .i64 0] 69)).alloc (.cells #[.int .i64 0, .int .i64 0] 69)).heap.size = w.heap.size + 2 := by simp
  refine ⟨(k1.alloc _).alloc _, ?_, ?_, ?_⟩
  · rw [heap_alloc_old _ _ (by omega)]; exact heap_alloc2_old _ _ _
  · rw [heap_alloc_old _ _ (by omega)]; exact heap_alloc2_new _ _ _
  · have := heap_alloc_new ((w.alloc (.cells #[.int .i64 0, .int .i64 0] 69)).alloc (.cells #[.int .i64 0, .int .i64 0] 69)) (.stringIter s 0)
    rwa [s2] at this

theorem pack_nil : pack [] = 0 := by unfold pack; rw [val_nil]; unfold wrap64; omega

/-- What the two words hold when j bytes were taken: all in the first, or the rest in the second. -/
def At2 (s : ByteArray) (j : Nat) (z0 z1 : Int) (d r : Nat) : Prop :=
  (d = 0 ∧ r = 8 - j ∧ j ≤ 8 ∧ z0 = pack ((nb s).take j) ∧ z1 = 0 ∧ cutAt (rs s j) j = cp s) ∨ (d = 1 ∧ r = 8 - (j - cp s) ∧ cp s ≤ j ∧ 5 ≤ cp s ∧ z0 = pack ((nb s).take (cp s)) ∧ z1 = pack (((nb s).take j).drop (cp s)))

theorem drop_more {s : ByteArray} {c j : Nat} (hc : c ≤ j) (hj : j < s.size) : ((nb s).take (j + 1)).drop c = ((nb s).take j).drop c ++ [(at8 s j : Int)] := by
  rw [nb_take hj, List.drop_append_of_le_length (by rw [List.length_take, nb_length]; omega)]

set_option maxRecDepth 100000 in
set_option maxHeartbeats 4000000 in
theorem d_spell (s : ByteArray) (w : World) (hs : chk s = 0) :
    Calls Tryd.prog 32 #[.string s] w fun e w' => e = .returned (.agg #[.int .i64 (sp0 s), .int .i64 (sp1 s)]) ∧ Kept [] w w' := by
  obtain ⟨h12, h1, hbad⟩ := chk_parts hs
  obtain ⟨c8, cr, c5⟩ := cp_room hs
  have HBad : Hid (_) := hbad
  clear hbad
  go_enter Tryd.func32, Tryd.ntmps32
  go_wp2_with fail
  go_loopw [4, 5] (fun u m wr => ∃ (j : Nat) (z0 z1 : Int) (d r : Nat), u = .int .i64 (d : Int) ∧ m = .int .i64 (r : Int) ∧ j ≤ s.size ∧ Hid (Sw s w wr j z0 z1 ∧ At2 s j z0 z1 d r ∧ (rs s j).any badR = false)) (fun _ _ wr => s.size - wr.iterPos (w.heap.size + 2))
  case atStart => exact ⟨0, 0, 0, 0, 8, rfl, rfl, by omega, Sw.begin s w, Or.inl ⟨rfl, rfl, by omega, pack_nil.symm, rfl, rfl⟩, HBad.out⟩
  case round =>
    obtain ⟨j, z0, z1, d, r, rfl, rfl, hj, HK⟩ := hrel
    by_cases hlt : j < s.size
    · have hnx := next_at HK.out.1.it hlt
      have hb := HK.out.2.2
      rw [rs_next hlt, List.any_cons, Bool.or_eq_false_iff] at hb
      have hne : (one s j).2 ≠ 0 := by
        intro h
        have := hb.1
        simp [badR, h] at this
      have hmx : max (one s j).2 1 = (one s j).2 := Nat.max_eq_left (by omega)
      have hjk := step_le hlt
      have hr := one_ranges s j
      have hw4 := (one_width s j hlt).1
      have hcut : cutAt (rs s j) j = if 8 < j + (one s j).2 then j else cutAt (rs s (j + (one s j).2)) (j + (one s j).2) := by
        rw [rs_next hlt, cutAt, hmx]
      obtain ⟨W1, hW1⟩ : ∃ W1, iterTo wr (w.heap.size + 2) s (j + max (one s j).2 1) = W1 := ⟨_, rfl⟩
      have HS : Hid (Sw s w W1 (j + (one s j).2) z0 z1) := by have := HK.out.1.next (j + max (one s j).2 1); rw [hW1, hmx] at this; exact this
      rw [hW1] at hnx
      have HA : Hid (At2 s j z0 z1 d r) := HK.out.2.1
      have HP : Hid (wr.iterPos (w.heap.size + 2) = j) := HK.out.1.pos
      rw [hmx] at hb hjk
      have hrk : ((one s j).2 = 1 ∧ 0 ≤ (one s j).1 ∧ (one s j).1 < 128) ∨ ((one s j).2 = 2 ∧ 128 ≤ (one s j).1 ∧ (one s j).1 ≤ 2047) ∨ ((one s j).2 = 3 ∧ 2048 ≤ (one s j).1 ∧ (one s j).1 ≤ 65535 ∧ ((one s j).1 < 55296 ∨ 57343 < (one s j).1)) ∨ ((one s j).2 = 4 ∧ 65536 ≤ (one s j).1 ∧ (one s j).1 ≤ 1114111) := by omega
      clear hr hW1 hmx HK
      generalize (one s j).1 = rr at *
      generalize (one s j).2 = k at *
      have HB : Hid ((rs s (j + k)).any badR = false) := hb.2
      have HC : Hid (_) := hcut
      clear hb hcut
      have HRK : Hid (_) := hrk
      clear hrk
      rcases HA.out with ⟨rfl, rfl, a3, a4, a5, a6⟩ | ⟨rfl, rfl, a3, a4, a5, a6⟩
      · by_cases hfit : 8 < j + k
        · have HX : Hid (cp s = j ∧ z0 = pack ((nb s).take j) ∧ z1 = 0) := ⟨by rw [← a6, HC.out, if_pos hfit], a4, a5⟩
          clear a4 a5 a6 HC HA
          have e5 : ((8 - j : Nat) : Int) = 8 - (j : Int) := by omega
          have i5 : (8 - (j : Int)) < (k : Int) := by omega
          rw [e5]
          go_wp2_with fail
          refine (rune_len (k := k) HRK.out W1).mono ?_
          rintro e w1 ⟨rfl, hw1⟩
          have hw1' := hw1.symm
          subst hw1'
          clear hw1
          have hz1 := HX.out.2.2; subst hz1; have hcj : cp s ≤ j := by (have := HX.out.1; omega)
          obtain ⟨cap, W2, hcv, hk2, hby⟩ := conv_bytes (s.extract j (j + k)) W1
          have hsz : (s.extract j (j + k)).size = k := by rw [ByteArray.size_extract]; omega
          rw [hsz] at hcv hby
          have HW2 : Hid (Sw s w W2 (j + k) z0 0 ∧ ∀ i, i < k → W2.cell? ⟨W1.heap.size, i, none⟩ = some (.int .u8 (at8 s (j + i) : Int))) := ⟨HS.out.still hk2, fun i hi => by rw [hby i hi, at8_ext hi hjk]⟩
          have hB : Hid (w.heap.size + 2 < W1.heap.size) := lt_of_heap HS.out.it
          clear hby hk2 HS
          go_wp2_with fail
          go_loopw [35] (fun i wr => ∃ (q : Nat) (y1 : Int), i = .int .i64 (q : Int) ∧ q ≤ k ∧ Hid (Sw s w wr (j + k) z0 y1 ∧ y1 = pack (((nb s).take (j + q)).drop (cp s)) ∧ ∀ i, i < k → wr.cell? ⟨W1.heap.size, i, none⟩ = some (.int .u8 (at8 s (j + i) : Int)))) (fun i _ => (k - intOf i).toNat)
          case atStart => exact ⟨0, 0, rfl, by omega, HW2.out.1, by rw [HX.out.1, List.drop_eq_nil_of_le (by rw [List.length_take]; omega), pack_nil], HW2.out.2⟩
          case round =>
            obtain ⟨q, y1, rfl, hq, HQ⟩ := hrel
            by_cases hqk : q < k
            · have i0 : (q : Int) < (k : Int) := by omega
              have i1 : (0 : Int) ≤ (q : Int) := by omega
              have c0 := HQ.out.2.2 q hqk
              have c1 : wr.cell? ⟨w.heap.size + 1, 1, none⟩ = some (.int .i64 y1) := by rw [cell_of_row _ _ _ _ _ _ HQ.out.1.b1]; rfl
              have c2 : wr.frozen? ⟨w.heap.size + 1, 1, none⟩ = false := frozen_of_row _ _ _ _ _ HQ.out.1.b1
              have hv := at8_lt s (j + q)
              obtain ⟨v, hvv⟩ : ∃ v : Nat, at8 s (j + q) = v := ⟨_, rfl⟩
              have hor : bits .or .i64 (wrap64 (y1 * 256)) (v : Int) = pack (((nb s).take (j + (q + 1))).drop (cp s)) := by
                rw [HQ.out.2.1, pack_snoc _ _ (by omega) (by omega), ← Nat.add_assoc, drop_more (by omega) (by omega), hvv]
              rw [hvv] at c0 hv
              have HO : Hid (_ ∧ _) := ⟨hor, HQ.out⟩
              clear HQ hvv hor
              go_wp2_with fail
              go_roundw
              case rel =>
                refine ⟨q + 1, _, by go_num, by omega, HO.out.2.1.set1 _, ?_, fun i hi => ?_⟩
                · exact HO.out.1
                · rw [World.cell?_of_block (a := ⟨W1.heap.size, i, none⟩) (heap_setCell_other _ _ _ _ (by have := hB.out; show W1.heap.size ≠ w.heap.size + 1; omega))]; exact HO.out.2.2.2 i hi
              case measure => simp [intOf]; omega
            · have i0 : ¬ (q : Int) < (k : Int) := by omega
              have eq : q = k := by omega
              have HE : Hid (Sw s w wr (j + k) z0 y1 ∧ At2 s (j + k) z0 y1 1 (8 - k) ∧ (rs s (j + k)).any badR = false) := ⟨HQ.out.1, Or.inr ⟨rfl, by rw [HX.out.1]; omega, by rw [HX.out.1]; omega, by rw [HX.out.1]; omega, by rw [HX.out.1]; exact HX.out.2.1, by rw [HQ.out.2.1, eq]⟩, HB.out⟩
              clear HQ eq
              go_wp2_with fail
              go_roundw
              case rel => exact ⟨j + k, _, _, 1, 8 - k, by go_num, by go_num, by omega, HE.out⟩
              case measure =>
                have m1 := HE.out.1.pos
                have m2 := HP.out
                simp only [m1, m2]
                omega
        · have HX : Hid (cutAt (rs s (j + k)) (j + k) = cp s ∧ z0 = pack ((nb s).take j) ∧ z1 = 0) := ⟨by rw [← a6, HC.out, if_neg hfit], a4, a5⟩
          clear a4 a5 a6 HC HA
          have e5 : ((8 - j : Nat) : Int) = 8 - (j : Int) := by omega
          have i5 : ¬ (8 - (j : Int)) < (k : Int) := by omega
          rw [e5]
          go_wp2_with fail
          refine (rune_len (k := k) HRK.out W1).mono ?_
          rintro e w1 ⟨rfl, hw1⟩
          have hw1' := hw1.symm
          subst hw1'
          clear hw1
          skip
          obtain ⟨cap, W2, hcv, hk2, hby⟩ := conv_bytes (s.extract j (j + k)) W1
          have hsz : (s.extract j (j + k)).size = k := by rw [ByteArray.size_extract]; omega
          rw [hsz] at hcv hby
          have HW2 : Hid (Sw s w W2 (j + k) z0 z1 ∧ ∀ i, i < k → W2.cell? ⟨W1.heap.size, i, none⟩ = some (.int .u8 (at8 s (j + i) : Int))) := ⟨HS.out.still hk2, fun i hi => by rw [hby i hi, at8_ext hi hjk]⟩
          have hB : Hid (w.heap.size + 2 < W1.heap.size) := lt_of_heap HS.out.it
          clear hby hk2 HS
          go_wp2_with fail
          go_loopw [35] (fun i wr => ∃ (q : Nat) (y0 : Int), i = .int .i64 (q : Int) ∧ q ≤ k ∧ Hid (Sw s w wr (j + k) y0 z1 ∧ y0 = pack (((nb s).take (j + q)).drop 0) ∧ ∀ i, i < k → wr.cell? ⟨W1.heap.size, i, none⟩ = some (.int .u8 (at8 s (j + i) : Int)))) (fun i _ => (k - intOf i).toNat)
          case atStart => exact ⟨0, z0, rfl, by omega, HW2.out.1, HX.out.2.1, HW2.out.2⟩
          case round =>
            obtain ⟨q, y0, rfl, hq, HQ⟩ := hrel
            by_cases hqk : q < k
            · have i0 : (q : Int) < (k : Int) := by omega
              have i1 : (0 : Int) ≤ (q : Int) := by omega
              have c0 := HQ.out.2.2 q hqk
              have c1 : wr.cell? ⟨w.heap.size + 1, 0, none⟩ = some (.int .i64 y0) := by rw [cell_of_row _ _ _ _ _ _ HQ.out.1.b1]; rfl
              have c2 : wr.frozen? ⟨w.heap.size + 1, 0, none⟩ = false := frozen_of_row _ _ _ _ _ HQ.out.1.b1
              have hv := at8_lt s (j + q)
              obtain ⟨v, hvv⟩ : ∃ v : Nat, at8 s (j + q) = v := ⟨_, rfl⟩
              have hor : bits .or .i64 (wrap64 (y0 * 256)) (v : Int) = pack (((nb s).take (j + (q + 1))).drop 0) := by
                rw [HQ.out.2.1, pack_snoc _ _ (by omega) (by omega), ← Nat.add_assoc, drop_more (by omega) (by omega), hvv]
              rw [hvv] at c0 hv
              have HO : Hid (_ ∧ _) := ⟨hor, HQ.out⟩
              clear HQ hvv hor
              go_wp2_with fail
              go_roundw
              case rel =>
                refine ⟨q + 1, _, by go_num, by omega, HO.out.2.1.set0 _, ?_, fun i hi => ?_⟩
                · exact HO.out.1
                · rw [World.cell?_of_block (a := ⟨W1.heap.size, i, none⟩) (heap_setCell_other _ _ _ _ (by have := hB.out; show W1.heap.size ≠ w.heap.size + 1; omega))]; exact HO.out.2.2.2 i hi
              case measure => simp [intOf]; omega
            · have i0 : ¬ (q : Int) < (k : Int) := by omega
              have eq : q = k := by omega
              have HE : Hid (Sw s w wr (j + k) y0 z1 ∧ At2 s (j + k) y0 z1 0 (8 - (j + k)) ∧ (rs s (j + k)).any badR = false) := ⟨HQ.out.1, Or.inl ⟨rfl, rfl, by omega, by rw [HQ.out.2.1, eq]; rfl, HX.out.2.2, HX.out.1⟩, HB.out⟩
              clear HQ eq
              go_wp2_with fail
              go_roundw
              case rel => exact ⟨j + k, _, _, 0, 8 - (j + k), by go_num, by go_num, by omega, HE.out⟩
              case measure =>
                have m1 := HE.out.1.pos
                have m2 := HP.out
                simp only [m1, m2]
                omega
      · have HX : Hid (z0 = pack ((nb s).take (cp s)) ∧ z1 = pack (((nb s).take j).drop (cp s))) := ⟨a5, a6⟩
        clear a5 a6 HC HA
        have e5 : ((8 - (j - cp s) : Nat) : Int) = 8 - ((j : Int) - (cp s : Int)) := by omega
        have i5 : ¬ (8 - ((j : Int) - (cp s : Int))) < (k : Int) := by omega
        rw [e5]
        go_wp2_with fail
        refine (rune_len (k := k) HRK.out W1).mono ?_
        rintro e w1 ⟨rfl, hw1⟩
        have hw1' := hw1.symm
        subst hw1'
        clear hw1
        skip
        obtain ⟨cap, W2, hcv, hk2, hby⟩ := conv_bytes (s.extract j (j + k)) W1
        have hsz : (s.extract j (j + k)).size = k := by rw [ByteArray.size_extract]; omega
        rw [hsz] at hcv hby
        have HW2 : Hid (Sw s w W2 (j + k) z0 z1 ∧ ∀ i, i < k → W2.cell? ⟨W1.heap.size, i, none⟩ = some (.int .u8 (at8 s (j + i) : Int))) := ⟨HS.out.still hk2, fun i hi => by rw [hby i hi, at8_ext hi hjk]⟩
        have hB : Hid (w.heap.size + 2 < W1.heap.size) := lt_of_heap HS.out.it
        clear hby hk2 HS
        go_wp2_with fail
        go_loopw [35] (fun i wr => ∃ (q : Nat) (y1 : Int), i = .int .i64 (q : Int) ∧ q ≤ k ∧ Hid (Sw s w wr (j + k) z0 y1 ∧ y1 = pack (((nb s).take (j + q)).drop (cp s)) ∧ ∀ i, i < k → wr.cell? ⟨W1.heap.size, i, none⟩ = some (.int .u8 (at8 s (j + i) : Int)))) (fun i _ => (k - intOf i).toNat)
        case atStart => exact ⟨0, z1, rfl, by omega, HW2.out.1, HX.out.2, HW2.out.2⟩
        case round =>
          obtain ⟨q, y1, rfl, hq, HQ⟩ := hrel
          by_cases hqk : q < k
          · have i0 : (q : Int) < (k : Int) := by omega
            have i1 : (0 : Int) ≤ (q : Int) := by omega
            have c0 := HQ.out.2.2 q hqk
            have c1 : wr.cell? ⟨w.heap.size + 1, 1, none⟩ = some (.int .i64 y1) := by rw [cell_of_row _ _ _ _ _ _ HQ.out.1.b1]; rfl
            have c2 : wr.frozen? ⟨w.heap.size + 1, 1, none⟩ = false := frozen_of_row _ _ _ _ _ HQ.out.1.b1
            have hv := at8_lt s (j + q)
            obtain ⟨v, hvv⟩ : ∃ v : Nat, at8 s (j + q) = v := ⟨_, rfl⟩
            have hor : bits .or .i64 (wrap64 (y1 * 256)) (v : Int) = pack (((nb s).take (j + (q + 1))).drop (cp s)) := by
              rw [HQ.out.2.1, pack_snoc _ _ (by omega) (by omega), ← Nat.add_assoc, drop_more (by omega) (by omega), hvv]
            rw [hvv] at c0 hv
            have HO : Hid (_ ∧ _) := ⟨hor, HQ.out⟩
            clear HQ hvv hor
            go_wp2_with fail
            go_roundw
            case rel =>
              refine ⟨q + 1, _, by go_num, by omega, HO.out.2.1.set1 _, ?_, fun i hi => ?_⟩
              · exact HO.out.1
              · rw [World.cell?_of_block (a := ⟨W1.heap.size, i, none⟩) (heap_setCell_other _ _ _ _ (by have := hB.out; show W1.heap.size ≠ w.heap.size + 1; omega))]; exact HO.out.2.2.2 i hi
            case measure => simp [intOf]; omega
          · have i0 : ¬ (q : Int) < (k : Int) := by omega
            have eq : q = k := by omega
            have HE : Hid (Sw s w wr (j + k) z0 y1 ∧ At2 s (j + k) z0 y1 1 (8 - (j + k - cp s)) ∧ (rs s (j + k)).any badR = false) := ⟨HQ.out.1, Or.inr ⟨rfl, rfl, by omega, a4, HX.out.1, by rw [HQ.out.2.1, eq]⟩, HB.out⟩
            clear HQ eq
            go_wp2_with fail
            go_roundw
            case rel => exact ⟨j + k, _, _, 1, 8 - (j + k - cp s), by go_num, by go_num, by omega, HE.out⟩
            case measure =>
              have m1 := HE.out.1.pos
              have m2 := HP.out
              simp only [m1, m2]
              omega
    · have hnx := next_none HK.out.1.it hlt
      have ej : j = s.size := by omega
      have HE : Hid (z0 = sp0 s ∧ z1 = sp1 s) := by
        have hl : (nb s).length = s.size := nb_length s
        rcases HK.out.2.1 with ⟨rfl, rfl, a3, a4, a5, a6⟩ | ⟨rfl, rfl, a3, a4, a5, a6⟩
        · rw [rs_end hlt, cutAt] at a6
          refine ⟨by rw [a4, a6]; rfl, ?_⟩
          rw [a5]
          unfold sp1
          rw [← a6, List.drop_eq_nil_of_le (by omega), pack_nil]
        · refine ⟨a5, ?_⟩
          rw [a6]
          unfold sp1
          rw [List.take_of_length_le (by omega)]
      have HK2 : Hid (_) := HK.out.1
      clear HK
      have d0 : wr.cell? ⟨w.heap.size + 1, 0, none⟩ = some (.int .i64 z0) := by rw [cell_of_row _ _ _ _ _ _ HK2.out.b1]; rfl
      have d1 : wr.cell? ⟨w.heap.size + 1, 1, none⟩ = some (.int .i64 z1) := by rw [cell_of_row _ _ _ _ _ _ HK2.out.b1]; rfl
      have e0 : wr.cell? ⟨w.heap.size, 0, none⟩ = some (.int .i64 0) := by rw [cell_of_row _ _ _ _ _ _ HK2.out.b0]; rfl
      have e1 : wr.cell? ⟨w.heap.size, 1, none⟩ = some (.int .i64 0) := by rw [cell_of_row _ _ _ _ _ _ HK2.out.b0]; rfl
      have f0 : wr.frozen? ⟨w.heap.size, 0, none⟩ = false := frozen_of_row _ _ _ _ _ HK2.out.b0
      have f1 : wr.frozen? ⟨w.heap.size, 1, none⟩ = false := frozen_of_row _ _ _ _ _ HK2.out.b0
      go_wp2_with fail
      (try simp only [Exit.inBlock, Exit.then])
      have hg : ((wr.setCell ⟨w.heap.size, 0, none⟩ (.int .i64 z0)).setCell ⟨w.heap.size, 1, none⟩ (.int .i64 z1)).heap[w.heap.size]? = some (.cells #[.int .i64 z0, .int .i64 z1] 69 (0, 0)) := heap_setCell_same _ _ _ _ _ _ (heap_setCell_same _ _ _ _ _ _ HK2.out.b0)
      refine bodyPost_ret (results_cell_row rfl _ _ w.heap.size 69 #[.int .i64 z0, .int .i64 z1] (0, 0) _ rfl hg Tryd.underlying69 rfl (by kernel_rfl)) rfl ⟨by rw [HE.out.1, HE.out.2], ?_⟩
      exact (HK2.out.kept.setCell (Or.inr (Nat.le_refl _)) _).setCell (Or.inr (Nat.le_refl _)) _

end Go.Proofs.YtnbbcbjfejdceaaDoor
