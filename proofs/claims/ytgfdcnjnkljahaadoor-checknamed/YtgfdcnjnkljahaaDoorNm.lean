/-
  Package name: May, Check, Hash, Bucket, Runes, each by what stands in the text.
-/
import Derived.Test.YtgfdcnjnkljahaaDoorDc
import Derived.Laws.RangeAny
namespace Go.Proofs.YtgfdcnjnkljahaaDoor
open Go.RowKit Go.Lib
set_option linter.unusedVariables false

/-! ### A loop over a text -/

/-- The world with the loop's place turned. -/
def iterTo (W : World) (b : Nat) (s : ByteArray) (j : Nat) : World := { W with heap := W.heap.setIfInBounds b (.stringIter s j) }

theorem next_at {W : World} {b : Nat} {s : ByteArray} {j : Nat} (hb : W.heap[b]? = some (.stringIter s j)) (h : j < s.size) (ty : TypeId) :
    (Instr.next (.pointer (some ⟨b, 0, none⟩)) true ty).run Tryd.prog W =
      .ok (.tuple #[.bool true, .int .i64 (j : Int), .int .i32 (one s j).1]) (iterTo W b s (j + max (one s j).2 1)) := by
  rw [← (decode_one s j).2, ← (decode_one s j).1]
  simp only [Instr.next, getObj, setObj, Sem.run_bind, Sem.run, hb, Result.andThen, h, if_true, iterTo]
  simp [goInt]

theorem next_none {W : World} {b : Nat} {s : ByteArray} {j : Nat} (hb : W.heap[b]? = some (.stringIter s j)) (h : ¬ j < s.size) (ty : TypeId) :
    (Instr.next (.pointer (some ⟨b, 0, none⟩)) true ty).run Tryd.prog W = .ok (.tuple #[.bool false]) W := by
  simp [Instr.next, getObj, Sem.run, hb, h]

/-- A world within a loop over s, that began in w0. -/
structure It (w0 W : World) (s : ByteArray) (j : Nat) : Prop where
  kept : Kept [] w0 W
  here : W.heap[w0.heap.size]? = some (.stringIter s j)

theorem It.begin (w : World) (s : ByteArray) : It w (w.iter s 0) s 0 := ⟨(Kept.refl [] w).alloc _, World.iter_heap w s 0⟩

theorem It.next {w0 W : World} {s : ByteArray} {j : Nat} (h : It w0 W s j) (k : Nat) : It w0 (iterTo W w0.heap.size s k) s k := by
  have hlt := lt_of_heap h.here
  refine ⟨⟨h.kept.os, h.kept.tape, h.kept.output, ?_, ?_⟩, ?_⟩
  · show w0.heap.size ≤ (W.heap.setIfInBounds _ _).size
    rw [Array.size_setIfInBounds]; exact h.kept.size
  · intro i hi hF
    show (W.heap.setIfInBounds _ _)[i]? = _
    rw [Array.getElem?_setIfInBounds, if_neg (by omega)]
    exact h.kept.block i hi hF
  · show (W.heap.setIfInBounds _ _)[_]? = _
    rw [Array.getElem?_setIfInBounds, if_pos rfl, if_pos hlt]

theorem It.turn {w0 W W' : World} {s : ByteArray} {j : Nat} (h : It w0 W s j) (k : Kept [] W W') : It w0 W' s j :=
  ⟨h.kept.trans k (by simp), (k.block _ (lt_of_heap h.here) (by simp)).trans h.here⟩

theorem It.pos {w0 W : World} {s : ByteArray} {j : Nat} (h : It w0 W s j) : W.iterPos w0.heap.size = j := by simp [World.iterPos, h.here]

/-! ### The functions -/

theorem may_stand (r : Int) (w : World) :
    Calls Tryd.prog 63 #[.int .i32 r] w fun e w' => e = .returned (.bool (!(decide (r < 32) || r == 127 || r == 47))) ∧ w' = w := by
  by_cases h1 : r < 32
  · have e1 : (!(decide (r < 32) || r == 127 || r == 47)) = false := by simp [h1]
    rw [e1]
    have i1 : ¬ (32 : Int) ≤ r := by omega
    go_enter Tryd.func63, Tryd.ntmps63
    go_wp2
    go_ret
    exact ⟨rfl, rfl⟩
  have i1 : (32 : Int) ≤ r := by omega
  by_cases h2 : r = 127
  · subst h2
    go_enter Tryd.func63, Tryd.ntmps63
    go_wp2
    go_ret
    exact ⟨rfl, rfl⟩
  have c2 : (r == 127) = false := by simpa using h2
  have c1 : decide (r < 32) = false := by simpa using h1
  have c3 : (r != 127) = true := by simpa using h2
  rw [c1, c2]
  by_cases h3 : r = 47
  · subst h3
    go_enter Tryd.func63, Tryd.ntmps63
    go_wp2
    go_ret
    exact ⟨rfl, rfl⟩
  have c4 : (r == 47) = false := by simpa using h3
  have c5 : (r != 47) = true := by simpa using h3
  rw [c4]
  go_enter Tryd.func63, Tryd.ntmps63
  go_wp2
  go_ret
  exact ⟨rfl, rfl⟩

theorem t_decode (s : ByteArray) (w : World) (hT : Tab w) (h0 : 0 < s.size) :
    Calls Tryd.prog 66 #[.string s] w fun e w' => e = .returned (.tuple #[.int .i32 (one s 0).1, .int .i64 ((max (one s 0).2 1 : Nat) : Int)]) ∧ Kept [] w w' := by
  have hne : s.toList.isEmpty = false := by
    rw [← Bool.not_eq_true, List.isEmpty_iff]
    intro h
    have : s.toList.length = s.size := by rw [ByteArray.toList_eq]; simp
    rw [h] at this
    simp at this
    omega
  have hz0 : (0 : Int) < (s.size : Int) := by omega
  have hs0 := at8_in h0
  by_cases ha : at8 s 0 < 128
  · have hd : one s 0 = ((at8 s 0 : Int), 1) := by unfold one; simp only []; rw [if_pos (by omega)]
    rw [hd]
    have haz : (at8 s 0 : Int) < 128 := by omega
    clear hT hd
    generalize at8 s 0 = x0 at *
    go_enter Tryd.func66, Tryd.ntmps66
    go_wp2
    go_ret2
    exact ⟨rfl, Kept.refl _ _⟩
  · have hsl := slow_any s w hT h0 (by omega)
    unfold Slow at hsl
    rw [(decode_one s 0).1, (decode_one s 0).2] at hsl
    have haz : ¬ (at8 s 0 : Int) < 128 := by omega
    have HS : Hid (_) := hsl
    clear hsl hT
    generalize at8 s 0 = x0 at *
    go_enter Tryd.func66, Tryd.ntmps66
    go_wp2_with fail
    refine Calls.mono HS.out ?_
    rintro e w1 ⟨rfl, hk⟩
    go_wp2_with fail
    go_ret2
    exact ⟨rfl, hk⟩

theorem one_cases (s : ByteArray) (i : Nat) : ((one s i).2 = 0 ∧ (one s i).1 = 65533) ∨ ((one s i).2 = 1 ∧ (one s i).1 < 128) ∨ 2 ≤ (one s i).2 := by
  unfold one
  simp only []
  repeat' split
  all_goals first
    | (left; exact ⟨rfl, rfl⟩)
    | (right; left; exact ⟨rfl, by assumption⟩)
    | (right; right; simp only []; omega)

theorem is_stray (s : ByteArray) (w : World) (hT : Tab w) (h0 : 0 < s.size) :
    Calls Tryd.prog 64 #[.string s] w fun e w' => e = .returned (.bool ((one s 0).2 == 0)) ∧ Kept [] w w' := by
  have hd := t_decode s w hT h0
  have hc := one_cases s 0
  generalize (one s 0).1 = r at *
  generalize (one s 0).2 = k at *
  have HS : Hid (_) := hd
  clear hd hT
  rcases hc with ⟨rfl, rfl⟩ | ⟨rfl, h⟩ | h
  · go_enter Tryd.func64, Tryd.ntmps64
    go_wp2_with fail
    refine Calls.mono HS.out ?_
    rintro e w1 ⟨rfl, hk⟩
    go_wp2_with fail
    go_ret
    exact ⟨rfl, hk⟩
  · have c : (r == 65533) = false := by simp; omega
    go_enter Tryd.func64, Tryd.ntmps64
    go_wp2_with fail
    refine Calls.mono HS.out ?_
    rintro e w1 ⟨rfl, hk⟩
    go_wp2_with fail
    go_ret
    exact ⟨rfl, hk⟩
  · have e1 : max k 1 = k := by omega
    rw [e1] at HS
    have c : (k == 0) = false := by simp; omega
    have c1 : ((k : Int) == 1) = false := by simp; omega
    rw [c]
    go_enter Tryd.func64, Tryd.ntmps64
    go_wp2_with fail
    refine Calls.mono HS.out ?_
    rintro e w1 ⟨rfl, hk⟩
    go_wp2_with fail
    all_goals (go_ret; exact ⟨rfl, hk⟩)

theorem ext_split (s : ByteArray) (j : Nat) (h : j ≤ s.size) : s.extract 0 j ++ s.extract j s.size = s := by
  rw [ByteArray.extract_append_extract, Nat.min_eq_left (by omega), Nat.max_eq_right h, ByteArray.extract_zero_size]

theorem one_from (s : ByteArray) (j : Nat) (h : j < s.size) : one (s.extract j s.size) 0 = one s j ∧ 0 < (s.extract j s.size).size := by
  have hs : (s.extract 0 j).size = j := by rw [ByteArray.size_extract]; omega
  refine ⟨?_, by rw [ByteArray.size_extract]; omega⟩
  have := one_right (s.extract 0 j) (s.extract j s.size) 0
  rw [ext_split s j (by omega), hs] at this
  exact this.symm

theorem stray_from (s : ByteArray) (j : Nat) (w : World) (hT : Tab w) (h : j < s.size) :
    Calls Tryd.prog 64 #[.string (s.extract j s.size)] w fun e w' => e = .returned (.bool ((one s j).2 == 0)) ∧ Kept [] w w' := by
  have := is_stray (s.extract j s.size) w hT (one_from s j h).2
  rw [(one_from s j h).1] at this
  exact this

set_option maxRecDepth 100000 in
set_option maxHeartbeats 2000000 in
theorem n_check (s : ByteArray) (w : World) (hT : Tab w) :
    Calls Tryd.prog 57 #[.string s] w fun e w' => e = .returned (.int .i64 (chk s)) ∧ Kept [] w w' := by
  obtain ⟨z, hz⟩ : ∃ z, chk s = z := ⟨_, rfl⟩
  rw [hz]
  by_cases hl : 12 < s.size
  · have i0 : (12 : Int) < (s.size : Int) := by omega
    have HZ : Hid (801 = z) := by show 801 = z; rw [← hz]; unfold chk; rw [if_pos hl]
    clear hz hT
    go_enter Tryd.func57, Tryd.ntmps57
    go_wp2_with fail
    go_ret
    exact ⟨ret_int HZ.out, Kept.refl _ _⟩
  have i0 : ¬ (12 : Int) < (s.size : Int) := by omega
  by_cases he : s.toList = [] ∨ s.toList = [46] ∨ s.toList = [46, 46]
  · have HZ : Hid (800 = z) := by show 800 = z; rw [← hz]; unfold chk; rw [if_neg hl, if_pos he]
    clear hz hT
    rcases he with he | he | he
    · have t1 : s.toList.isEmpty = true := by rw [he]; rfl
      go_enter Tryd.func57, Tryd.ntmps57
      go_wp2_with fail
      go_ret
      exact ⟨ret_int HZ.out, Kept.refl _ _⟩
    · have t1 : s.toList.isEmpty = false := by rw [he]; rfl
      have t2 : (s.toList == [46]) = true := by rw [he]; rfl
      go_enter Tryd.func57, Tryd.ntmps57
      go_wp2_with fail
      go_ret
      exact ⟨ret_int HZ.out, Kept.refl _ _⟩
    · have t1 : s.toList.isEmpty = false := by rw [he]; rfl
      have t2 : (s.toList == [46]) = false := by rw [he]; rfl
      have t3 : (s.toList == [46, 46]) = true := by rw [he]; rfl
      go_enter Tryd.func57, Tryd.ntmps57
      go_wp2_with fail
      go_ret
      exact ⟨ret_int HZ.out, Kept.refl _ _⟩
  have HZ : Hid ((if (rs s 0).any badR then 800 else 0) = z) := by show _ = z; rw [← hz]; unfold chk; rw [if_neg hl, if_neg he]
  clear hz
  have n1 : ¬ s.toList = [] := fun h => he (Or.inl h)
  have n2 : ¬ s.toList = [46] := fun h => he (Or.inr (Or.inl h))
  have n3 : ¬ s.toList = [46, 46] := fun h => he (Or.inr (Or.inr h))
  have t1 : s.toList.isEmpty = false := by rw [← Bool.not_eq_true, List.isEmpty_iff]; exact n1
  have t2 : (s.toList == [46]) = false := by simpa using n2
  have t3 : (s.toList == [46, 46]) = false := by simpa using n3
  clear he
  have HT : Hid (Tab w) := hT
  clear hT
  go_enter Tryd.func57, Tryd.ntmps57
  go_wp2_with fail
  go_loopw [] (fun wr => ∃ (j : Nat), Hid (It w wr s j) ∧ j ≤ s.size ∧ Hid ((rs s j).any badR = (rs s 0).any badR)) (fun wr => s.size - wr.iterPos w.heap.size)
  case atStart => exact ⟨0, It.begin w s, by omega, rfl⟩
  case round =>
    obtain ⟨j, HI, hj, HH⟩ := hrel
    by_cases hlt : j < s.size
    · have hnx := next_at HI.out.here hlt
      have hst := step_le hlt
      have hj1 : (0 : Int) ≤ (j : Int) := by omega
      have hj2 : (j : Int) ≤ (s.size : Int) := by omega
      obtain ⟨W1, hW1⟩ : ∃ W1, iterTo wr w.heap.size s (j + max (one s j).2 1) = W1 := ⟨_, rfl⟩
      have hI1 : It w W1 s (j + max (one s j).2 1) := by rw [← hW1]; exact HI.out.next _
      rw [hW1] at hnx
      have HJ : Hid (It w W1 s (j + max (one s j).2 1) ∧ Tab W1 ∧ wr.iterPos w.heap.size = j) := ⟨hI1, HT.out.kept hI1.kept, HI.out.pos⟩
      clear hI1 hW1 HI
      go_wp2_with fail
      refine (may_stand (one s j).1 W1).mono ?_
      rintro e w1 ⟨rfl, rfl⟩
      by_cases hb : badR (one s j) = true
      · have HE : Hid (800 = z) := by
          show 800 = z
          have h1 := bad_yes hlt hb
          rw [HH.out] at h1
          rw [← HZ.out, h1]; rfl
        clear HH HZ
        by_cases hm : (decide ((one s j).1 < 32) || (one s j).1 == 127 || (one s j).1 == 47) = true
        · rw [hm]
          go_wp2_with fail
          go_ret
          exact ⟨ret_int HE.out, HJ.out.1.kept⟩
        · have hm2 : (decide ((one s j).1 < 32) || (one s j).1 == 127 || (one s j).1 == 47) = false := by simpa using hm
          rw [hm2]
          have hk0 : ((one s j).2 == 0) = true := by
            unfold badR at hb
            simp only [Bool.or_eq_true, beq_iff_eq, decide_eq_true_eq] at hb hm ⊢
            omega
          clear hm hm2 hb
          go_wp2_with fail
          refine (stray_from s j w1 HJ.out.2.1 hlt).mono ?_
          rintro e w2 ⟨rfl, hk⟩
          rw [hk0]
          have HK : Hid (_) := HJ.out.1.kept.trans hk (by simp)
          clear hk
          go_wp2_with fail
          go_ret
          exact ⟨ret_int HE.out, HK.out⟩
      · have hb2 : badR (one s j) = false := by simpa using hb
        obtain ⟨h1, h2⟩ := bad_no hlt hb2
        have e1 : max (one s j).2 1 = (one s j).2 := by omega
        have HN : Hid ((rs s (j + (one s j).2)).any badR = (rs s 0).any badR) := h1.trans HH.out
        clear HH h1 hb2
        rw [e1] at HJ hst
        unfold badR at hb
        simp only [Bool.or_eq_true, beq_iff_eq, decide_eq_true_eq] at hb
        have hm2 : (decide ((one s j).1 < 32) || (one s j).1 == 127 || (one s j).1 == 47) = false := by
          rw [← Bool.not_eq_true]
          simp only [Bool.or_eq_true, beq_iff_eq, decide_eq_true_eq]
          omega
        have hk0 : ((one s j).2 == 0) = false := by simp; omega
        rw [hm2]
        clear hb hm2
        go_wp2_with fail
        refine (stray_from s j w1 HJ.out.2.1 hlt).mono ?_
        rintro e w2 ⟨rfl, hk⟩
        rw [hk0]
        have HK : Hid (_) := HJ.out.1.turn hk
        clear hk
        go_wp2_with fail
        go_roundw
        case rel => exact ⟨j + (one s j).2, HK.out, hst, HN.out⟩
        case measure =>
          have m1 := HK.out.pos
          have m2 := HJ.out.2.2
          simp only [m1, m2]
          omega
    · have hnx := next_none HI.out.here hlt
      have HE : Hid (0 = z) := by
        have := HH.out
        rw [rs_end hlt] at this
        show 0 = z
        rw [← HZ.out, ← this]; rfl
      clear HH HZ
      go_wp2_with fail
      go_ret
      exact ⟨ret_int HE.out, HI.out.kept⟩

theorem n_may (s : ByteArray) (w : World) (hT : Tab w) :
    Calls Tryd.prog 43 #[.string s] w fun e w' => e = .returned (.bool (chk s == 0)) ∧ Kept [] w w' := by
  have HC : Hid (_) := n_check s w hT
  clear hT
  obtain ⟨z, hz⟩ : ∃ z, chk s = z := ⟨_, rfl⟩
  rw [hz] at HC ⊢
  clear hz
  go_enter Tryd.func43, Tryd.ntmps43
  go_wp2_with fail
  refine Calls.mono HC.out ?_
  rintro e w1 ⟨rfl, hk⟩
  have HK : Hid (_) := hk
  clear hk
  go_wp2_with fail
  go_ret
  exact ⟨rfl, HK.out⟩

theorem u32_add (z r : Int) (h1 : 0 ≤ r) (h2 : r < 4294967296) : (z * 31 % 4294967296 + r % 4294967296) % 4294967296 = (31 * z + r) % 4294967296 := by omega

end Go.Proofs.YtgfdcnjnkljahaaDoor
