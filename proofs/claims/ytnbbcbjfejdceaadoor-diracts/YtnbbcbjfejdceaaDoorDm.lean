/-
  The document's Decimal of small numbers; slices of texts of a call's own.
-/
import Derived.Test.YtnbbcbjfejdceaaDoorWk
import Derived.Test.YtnbbcbjfejdceaaDoorDn
namespace Go.Proofs.YtnbbcbjfejdceaaDoor
open Go.RowKit
set_option linter.unusedVariables false

theorem digs_low {m : Nat} (h : m / 10 = 0) : digs m = [48 + ((m % 10 : Nat) : Int)] := by
  unfold digs
  rw [if_pos (by omega), show m % 10 = m by omega]

theorem digs_high {m : Nat} (h : m / 10 ≠ 0) (hm : m < 1000) : digs m = digs (m / 10) ++ [48 + ((m % 10 : Nat) : Int)] := by
  unfold digs
  rw [if_neg (by omega)]
  by_cases h2 : m < 100
  · rw [if_pos h2, if_pos (by omega)]
    rfl
  · rw [if_neg h2, if_neg (by omega), if_pos (by omega), show m / 10 / 10 = m / 100 by omega]
    rfl

/-- What is told so far, and what is left. -/
def dz (m : Nat) (xs : List Int) : List Int := if m = 0 ∧ xs ≠ [] then xs else digs m ++ xs

theorem dz_step {m : Nat} {xs : List Int} (hm : m < 1000) (h : 0 < m ∨ xs = []) : dz (m / 10) ((48 + ((m % 10 : Nat) : Int)) :: xs) = dz m xs := by
  unfold dz
  rw [if_neg (show ¬ (m = 0 ∧ xs ≠ []) by rintro ⟨h1, h2⟩; exact h.elim (fun h => by omega) h2)]
  by_cases h0 : m / 10 = 0
  · rw [if_pos ⟨h0, by simp⟩, digs_low h0]
    rfl
  · rw [if_neg (fun h => h0 h.1), digs_high h0 hm, List.append_assoc]
    rfl

theorem dz_len {m n : Nat} {xs : List Int} (h : dz m xs = digs n) : xs.length ≤ 3 := by
  have h1 : xs.length ≤ (dz m xs).length := by
    unfold dz
    split
    · exact Nat.le_refl _
    · rw [List.length_append]; omega
  rw [h] at h1
  have := (digs_length n).2
  omega

theorem run_append_nothing (ty : TypeId) (w : World) (g : Nat) : (Builtin.append_ #[94, 94] ty #[.slice (some ⟨g, 0, none⟩) 1 1, .slice none 0 0]).run Tryd.prog w = .ok (.slice (some ⟨g, 0, none⟩) 1 1) w := by
  obtain ⟨i, hi, -⟩ := info_parts info5
  simp [Builtin.append_, run_underlying Tryd.underlying94, sizeOf, typeInfo, hi, Builtin.lenOf, Builtin.firstCells, storeCells]

/-- A byte ahead of others. -/
theorem prepend {w : World} {H : Nat} {v : Value} {xs : List Int} (h : Br w H v xs) (hn : xs = [] → v = .slice none 0 0) (hH : H ≤ w.heap.size) (y : Int) (hb : xs.length + 1 ≤ 1000000) (ty : TypeId) :
    ∃ v' w', (Builtin.append_ #[94, 94] ty #[.slice (some ⟨w.heap.size, 0, none⟩) 1 1, v]).run Tryd.prog (w.alloc (.cells #[.int .u8 y] 5)) = .ok v' w' ∧ Br w' H v' (y :: xs) ∧ Kept [] w w' := by
  have hk : Kept [] w (w.alloc (.cells #[.int .u8 y] 5)) := (Kept.refl [] w).alloc _
  have hY : Br (w.alloc (.cells #[.int .u8 y] 5)) H (.slice (some ⟨w.heap.size, 0, none⟩) 1 1) [y] := ⟨rfl, Or.inr ⟨w.heap.size, 1, #[.int .u8 y], rfl, hH, heap_alloc_new _ _, Nat.le_refl _, by unfold maxLen; omega, rfl, rfl⟩⟩
  by_cases hx : xs = []
  · subst hx
    rw [hn rfl]
    exact ⟨_, _, run_append_nothing ty _ _, hY, hk⟩
  · have h2 := h.kept hk
    rcases h2.2 with ⟨h3, h4⟩ | ⟨g, cap, cur, rfl, hbb, hgg, h4, h5, h6, h7⟩
    · exact absurd (List.eq_nil_of_length_eq_zero h4) hx
    · obtain ⟨i0, hi, hz0, hz1, hz2⟩ := info_parts info5
      obtain ⟨v', w', hr, h8, h9, _, _⟩ := run_append_own_at (P := Tryd.prog) (w.alloc (.cells #[.int .u8 y] 5)) H 94 ty 5 i0 (.int .u8 0) 1 1 Tryd.underlying94 hi hz0 hz1 hz2 rfl (by omega) (.slice (some ⟨w.heap.size, 0, none⟩) 1 1) 1 ([y].map (Value.int .u8)) hY ⟨g, 0, none⟩ xs.length cap (xs.map (Value.int .u8)) (by simp)
        (fun j u hu => by
          have hj : j < xs.length := by
            have := (List.getElem?_eq_some_iff.1 hu).1
            simpa using this
          have ea : (⟨g, 0, none⟩ : Addr).add j = ⟨g, j, none⟩ := by unfold Addr.add; split <;> simp_all
          rw [ea, cell_of_row _ _ _ _ _ _ hgg]
          have h10 : (cur.toList.take (xs.length * 1))[j]? = some u := by rw [h7]; exact hu
          rw [List.getElem?_take_of_lt (by omega), Array.getElem?_toList] at h10
          exact h10)
        (bytes_oneCell xs) (by unfold maxLen; omega) (by omega) (by simp; omega)
      refine ⟨v', w', hr, ?_, hk.grown h9 fun x hx => ?_⟩
      · have e : (y :: xs).length = 1 + xs.length := by simp; omega
        unfold Br
        rw [e]
        exact h8
      · right
        simp [Value.ownBlock] at hx
        omega

/-- Is it nil? -/
def isn (v : Value) : Nat := match v with
  | .slice none _ _ => 1
  | _ => 0

theorem Br.sliceL {w : World} {H : Nat} {v : Value} {xs : List Int} (h : Br w H v xs) : ∃ a c, v = .slice a xs.length c := by
  rcases h.2 with ⟨h1, h2⟩ | ⟨g, cap, cur, rfl, -⟩
  · exact ⟨none, 0, by rw [h1, h2]⟩
  · exact ⟨_, _, rfl⟩

theorem Br.some {w : World} {H : Nat} {v : Value} {y : Int} {xs : List Int} (h : Br w H v (y :: xs)) : ∃ g n c, v = .slice (some ⟨g, 0, none⟩) n c := by
  rcases h.2 with ⟨h1, h2⟩ | ⟨g, cap, cur, rfl, -⟩
  · simp at h2
  · exact ⟨_, _, _, rfl⟩

set_option maxRecDepth 100000 in
set_option maxHeartbeats 4000000 in
theorem f_decimal (n : Nat) (x : Int) (hx : x = (n : Int)) (w : World) (hn : n < 1000) :
    Calls Tryd.prog 25 #[.int .i64 x] w fun e w' => e = .returned (.string (strOfNums (digs n))) ∧ Kept [] w w' := by
  subst hx
  have i0 : ¬ (n : Int) < 0 := by omega
  have hw : IntKind.u64.wrap (n : Int) = (n : Int) := by rw [IntKind.wrap_u64]; omega
  go_enter Tryd.func25, Tryd.ntmps25
  go_wp2_with fail
  go_loopw [3, 4] (fun i v wr => ∃ (m : Nat) (xs : List Int), i = .int .u64 (m : Int) ∧ m < 1000 ∧ Hid (Br wr w.heap.size v xs ∧ (xs = [] → v = .slice none 0 0) ∧ Kept [] w wr ∧ dz m xs = digs n) ∧ v = v) (fun i v _ => (intOf i).toNat * 2 + isn v)
  case atStart => exact ⟨n, [], by simp, hn, ⟨Br.nil _ _, fun _ => rfl, Kept.refl _ _, by unfold dz; simp⟩, rfl⟩
  case round =>
    obtain ⟨m, xs, rfl, hm, HM, -⟩ := hrel
    by_cases h0 : 0 < m
    · have j0 : (0 : Int) < (m : Int) := by omega
      have d0 : decide ((0 : Int) < (m : Int)) = true := by simp; omega
      obtain ⟨v', w', hr, hB, hK⟩ := prepend HM.out.1 HM.out.2.1 HM.out.2.2.1.size (48 + ((m % 10 : Nat) : Int)) (by have := dz_len HM.out.2.2.2; omega) 94
      have HA : Hid (_) := hr
      obtain ⟨vg, vn, vc, rfl⟩ := hB.some
      have HE : Hid (Br w' w.heap.size (.slice (some ⟨vg, 0, none⟩) vn vc) ((48 + ((m % 10 : Nat) : Int)) :: xs) ∧ (((48 + ((m % 10 : Nat) : Int)) :: xs) = [] → Value.slice (some ⟨vg, 0, none⟩) vn vc = .slice none 0 0) ∧ Kept [] w w' ∧ dz (m / 10) ((48 + ((m % 10 : Nat) : Int)) :: xs) = digs n) := ⟨hB, fun h => (by cases h), HM.out.2.2.1.trans hK (by simp), by rw [dz_step hm (Or.inl h0)]; exact HM.out.2.2.2⟩
      clear hr hB hK HM
      go_wp2_with (at_builtin; refine wpList_append_run _ rfl _ _ 94 94 rfl _ _ rfl rfl _ _ HA.out ?_)
      refine ⟨⟨m / 10, _, by go_num, by omega, HE.out, trivial⟩, ?_⟩
      simp [intOf, isn]; omega
    · have e0 : m = 0 := by omega
      subst e0
      by_cases hx : xs = []
      · subst hx
        have hv := HM.out.2.1 rfl
        subst hv
        obtain ⟨v', w', hr, hB, hK⟩ := prepend HM.out.1 HM.out.2.1 HM.out.2.2.1.size ((48 : Int) + ((0 % 10 : Nat) : Int)) (by have := dz_len HM.out.2.2.2; omega) 94
        have HA : Hid (_) := hr
        obtain ⟨vg, vn, vc, rfl⟩ := hB.some
        have HE : Hid (Br w' w.heap.size (.slice (some ⟨vg, 0, none⟩) vn vc) (((48 : Int) + ((0 % 10 : Nat) : Int)) :: []) ∧ ((((48 : Int) + ((0 % 10 : Nat) : Int)) :: []) = [] → Value.slice (some ⟨vg, 0, none⟩) vn vc = .slice none 0 0) ∧ Kept [] w w' ∧ dz (0 / 10) (((48 : Int) + ((0 % 10 : Nat) : Int)) :: []) = digs n) := ⟨hB, fun h => (by cases h), HM.out.2.2.1.trans hK (by simp), by rw [dz_step hm (Or.inr rfl)]; exact HM.out.2.2.2⟩
        clear hr hB hK HM
        go_wp2_with (at_builtin; refine wpList_append_run _ rfl _ _ 94 94 rfl _ _ rfl rfl _ _ HA.out ?_)
        refine ⟨⟨0 / 10, _, by go_num, by omega, HE.out, trivial⟩, ?_⟩
        simp [intOf, isn]

      · have HE : Hid (xs = digs n ∧ Kept [] w wr) := ⟨by have := HM.out.2.2.2; unfold dz at this; rw [if_pos ⟨rfl, hx⟩] at this; exact this, HM.out.2.2.1⟩
        have hcv := conv_str HM.out.1
        rw [HE.out.1] at hcv
        obtain ⟨va, vc, rfl⟩ := HM.out.1.sliceL
        have hl : ((xs.length : Int) == 0) = false := by
          have : xs.length ≠ 0 := fun h => hx (List.eq_nil_of_length_eq_zero h)
          simp; omega
        have hl2 : ¬ ((xs.length : Int) = 0) := by
          have : xs.length ≠ 0 := fun h => hx (List.eq_nil_of_length_eq_zero h)
          omega
        clear HM hx
        go_wp2_with fail
        go_ret
        exact ⟨rfl, HE.out.2⟩

end Go.Proofs.YtnbbcbjfejdceaaDoor
