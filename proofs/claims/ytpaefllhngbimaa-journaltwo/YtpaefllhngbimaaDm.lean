/-
  Rows of bytes of a call's own; the document's Decimal of small numbers.
-/
import Derived.Test.YtpaefllhngbimaaJd
import Derived.Laws.BytesArg
import Derived.Laws.Rows
namespace Go.Proofs.Ytpaefllhngbimaa
open Go.RowKit Go.Lib
set_option linter.unusedVariables false

/-- The digits of a number below 1000, as bytes. -/
def digs (n : Nat) : List Int := if n < 10 then [48 + (n : Int)] else if n < 100 then [48 + ((n / 10 : Nat) : Int), 48 + ((n % 10 : Nat) : Int)] else [48 + ((n / 100 : Nat) : Int), 48 + ((n / 10 % 10 : Nat) : Int), 48 + ((n % 10 : Nat) : Int)]

theorem digs_length (n : Nat) : 1 ≤ (digs n).length ∧ (digs n).length ≤ 3 := by unfold digs; split <;> (try split) <;> simp

theorem Kept.grown {F : List Nat} {a w w' : World} {r : Option Nat} (h : Kept F a w) (hg : w.grownBy w' r) (hr : ∀ k, r = some k → k ∈ F ∨ a.heap.size ≤ k) : Kept F a w' :=
  ⟨hg.os.trans h.os, hg.tape.trans h.tape, hg.output.trans h.output, Nat.le_trans h.size hg.size, fun i hi hF => by
    rw [hg.block i (Nat.lt_of_lt_of_le hi h.size) (fun e => nor hF hi (hr i e.symm))]; exact h.block i hi hF⟩

theorem wpList_append_run {P : Program} (w : World) {ops : Array Oper} {rest : List Oper} {o : Oper} {a : Act} {Q : Exit → Act → World → Prop} (hgd : o.guard = none) (s x : Operand) (t1 t2 : TypeId)
    (ho : o.op = .call { callee := .builtin .append, args := #[s, x], argTypes := #[t1, t2] }) (v u : Value) (hs : a.eval s = v) (hx : a.eval x = u) (v' : Value) (w' : World)
    (hr : (Builtin.append_ #[t1, t2] o.type #[v, u]).run P w = .ok v' w') (h : wpList P ops Q rest (a.put o.dst v') w') : wpList P ops Q (o :: rest) a w := by
  refine wpList_plain hgd fun K hK => ?_
  unfold Oper.wp execOp
  simp only [ho, resolve, invoke, builtin, Sem.run_bind, Sem.run_pure, Result.andThen_ok, List.map_toArray, List.map_cons, List.map_nil, hs, hx, hr]
  exact hK _ _ h

/-- A row of bytes of the call's own, in a block from H on. -/
def Br (w : World) (H : Nat) (v : Value) (xs : List Int) : Prop := w.ownsRow H 5 1 v xs.length (xs.map (Value.int .u8))

theorem Br.nil (w : World) (H : Nat) : Br w H (.slice none 0 0) [] := World.ownsRow_nil w H 5 1

theorem Br.same {w w' : World} {H : Nat} {v : Value} {xs : List Int} (h : Br w H v xs) (hk : ∀ k, v.ownBlock = some k → w'.heap[k]? = w.heap[k]?) : Br w' H v xs := by
  refine ⟨h.1, ?_⟩
  rcases h.2 with hn | ⟨g, cap, cur, rfl, hb, hgg, rest⟩
  · exact .inl hn
  · exact .inr ⟨g, cap, cur, rfl, hb, by rw [hk g rfl]; exact hgg, rest⟩

theorem Br.block {w : World} {H : Nat} {v : Value} {xs : List Int} (h : Br w H v xs) : ∀ k, v.ownBlock = some k → H ≤ k ∧ k < w.heap.size := World.ownsRow.lt h

theorem Br.kept {w w' : World} {H : Nat} {v : Value} {xs : List Int} (h : Br w H v xs) (k : Kept [] w w') : Br w' H v xs :=
  h.same fun x hx => k.block x (h.block x hx).2 (by simp)

theorem bytes_oneCell (xs : List Int) : ∀ u ∈ xs.map (Value.int .u8), u.oneCell' = true := by
  intro u hu
  simp only [List.mem_map] at hu
  obtain ⟨a, _, rfl⟩ := hu
  rfl

/-- 'string(b)'. -/
theorem conv_str {w : World} {H : Nat} {v : Value} {xs : List Int} (h : Br w H v xs) : (convert 46 9 v).run Try.prog w = .ok (.string (strOfNums xs)) w := by
  rcases h.2 with ⟨h1, h2⟩ | ⟨g, cap, cur, rfl, hb, hgg, h4, h5, h6, h7⟩
  · have : xs = [] := List.eq_nil_of_length_eq_zero h2
    subst this
    rw [h1, run_convert_bytes_nil (P := Try.prog) w 46 5 Try.underlying46 Try.underlying5 _ _ 9 Try.underlying9]
    rfl
  · refine run_convert_bytes_arg (P := Try.prog) w 46 5 Try.underlying46 Try.underlying5 g 0 xs.length cap xs rfl (fun i hi => ?_) 9 Try.underlying9
    rw [Nat.zero_add, cell_of_row _ _ _ _ _ _ hgg]
    have h8 : (cur.toList.take (xs.length * 1))[i]? = (xs.map (Value.int .u8))[i]? := by rw [h7]
    rw [List.getElem?_take_of_lt (by omega), Array.getElem?_toList] at h8
    rw [h8]
    simp [hi]

theorem digs_low {m : Nat} (h : m / 10 = 0) : digs m = [48 + ((m % 10 : Nat) : Int)] := by
  unfold digs
  rw [if_pos (by omega), show m % 10 = m by omega]

theorem digs_high {m : Nat} (h : m / 10 ≠ 0) (hm : m < 1000) : digs m = digs (m / 10) ++ [48 + ((m % 10 : Nat) : Int)] := by
  unfold digs
  rw [if_neg (by omega)]
  by_cases h2 : m < 100
  · rw [if_pos h2, if_pos (by omega)]
    rfl
  · rw [if_neg h2, if_neg (by omega), if_pos (by omega), show m / 10 / 10 = m / 100 by omega]
    rfl

/-- What is told so far, and what is left. -/
def dz (m : Nat) (xs : List Int) : List Int := if m = 0 ∧ xs ≠ [] then xs else digs m ++ xs

theorem dz_step {m : Nat} {xs : List Int} (hm : m < 1000) (h : 0 < m ∨ xs = []) : dz (m / 10) ((48 + ((m % 10 : Nat) : Int)) :: xs) = dz m xs := by
  unfold dz
  rw [if_neg (show ¬ (m = 0 ∧ xs ≠ []) by rintro ⟨h1, h2⟩; exact h.elim (fun h => by omega) h2)]
  by_cases h0 : m / 10 = 0
  · rw [if_pos ⟨h0, by simp⟩, digs_low h0]
    rfl
  · rw [if_neg (fun h => h0 h.1), digs_high h0 hm, List.append_assoc]
    rfl

theorem dz_len {m n : Nat} {xs : List Int} (h : dz m xs = digs n) : xs.length ≤ 3 := by
  have h1 : xs.length ≤ (dz m xs).length := by
    unfold dz
    split
    · exact Nat.le_refl _
    · rw [List.length_append]; omega
  rw [h] at h1
  have := (digs_length n).2
  omega

theorem run_append_nothing (ty : TypeId) (w : World) (g : Nat) : (Builtin.append_ #[46, 46] ty #[.slice (some ⟨g, 0, none⟩) 1 1, .slice none 0 0]).run Try.prog w = .ok (.slice (some ⟨g, 0, none⟩) 1 1) w := by
  obtain ⟨i, hi, -⟩ := info_parts info5
  simp [Builtin.append_, run_underlying Try.underlying46, sizeOf, typeInfo, hi, Builtin.lenOf, Builtin.firstCells, storeCells]

/-- A byte ahead of others. -/
theorem prepend {w : World} {H : Nat} {v : Value} {xs : List Int} (h : Br w H v xs) (hn : xs = [] → v = .slice none 0 0) (hH : H ≤ w.heap.size) (y : Int) (hb : xs.length + 1 ≤ 1000000) (ty : TypeId) :
    ∃ v' w', (Builtin.append_ #[46, 46] ty #[.slice (some ⟨w.heap.size, 0, none⟩) 1 1, v]).run Try.prog (w.alloc (.cells #[.int .u8 y] 5)) = .ok v' w' ∧ Br w' H v' (y :: xs) ∧ Kept [] w w' := by
  have hk : Kept [] w (w.alloc (.cells #[.int .u8 y] 5)) := (Kept.refl [] w).alloc _
  have hY : Br (w.alloc (.cells #[.int .u8 y] 5)) H (.slice (some ⟨w.heap.size, 0, none⟩) 1 1) [y] := ⟨rfl, Or.inr ⟨w.heap.size, 1, #[.int .u8 y], rfl, hH, heap_alloc_new _ _, Nat.le_refl _, by unfold maxLen; omega, rfl, rfl⟩⟩
  by_cases hx : xs = []
  · subst hx
    rw [hn rfl]
    exact ⟨_, _, run_append_nothing ty _ _, hY, hk⟩
  · have h2 := h.kept hk
    rcases h2.2 with ⟨h3, h4⟩ | ⟨g, cap, cur, rfl, hbb, hgg, h4, h5, h6, h7⟩
    · exact absurd (List.eq_nil_of_length_eq_zero h4) hx
    · obtain ⟨i0, hi, hz0, hz1, hz2⟩ := info_parts info5
      obtain ⟨v', w', hr, h8, h9, _, _⟩ := run_append_own_at (P := Try.prog) (w.alloc (.cells #[.int .u8 y] 5)) H 46 ty 5 i0 (.int .u8 0) 1 1 Try.underlying46 hi hz0 hz1 hz2 rfl (by omega) (.slice (some ⟨w.heap.size, 0, none⟩) 1 1) 1 ([y].map (Value.int .u8)) hY ⟨g, 0, none⟩ xs.length cap (xs.map (Value.int .u8)) (by simp)
        (fun j u hu => by
          have hj : j < xs.length := by
            have := (List.getElem?_eq_some_iff.1 hu).1
            simpa using this
          have ea : (⟨g, 0, none⟩ : Addr).add j = ⟨g, j, none⟩ := by unfold Addr.add; split <;> simp_all
          rw [ea, cell_of_row _ _ _ _ _ _ hgg]
          have h10 : (cur.toList.take (xs.length * 1))[j]? = some u := by rw [h7]; exact hu
          rw [List.getElem?_take_of_lt (by omega), Array.getElem?_toList] at h10
          exact h10)
        (bytes_oneCell xs) (by unfold maxLen; omega) (by omega) (by simp; omega)
      refine ⟨v', w', hr, ?_, hk.grown h9 fun x hx => ?_⟩
      · have e : (y :: xs).length = 1 + xs.length := by simp; omega
        unfold Br
        rw [e]
        exact h8
      · right
        simp [Value.ownBlock] at hx
        omega

/-- Is it nil? -/
def isn (v : Value) : Nat := match v with
  | .slice none _ _ => 1
  | _ => 0

theorem Br.sliceL {w : World} {H : Nat} {v : Value} {xs : List Int} (h : Br w H v xs) : ∃ a c, v = .slice a xs.length c := by
  rcases h.2 with ⟨h1, h2⟩ | ⟨g, cap, cur, rfl, -⟩
  · exact ⟨none, 0, by rw [h1, h2]⟩
  · exact ⟨_, _, rfl⟩

theorem Br.some {w : World} {H : Nat} {v : Value} {y : Int} {xs : List Int} (h : Br w H v (y :: xs)) : ∃ g n c, v = .slice (some ⟨g, 0, none⟩) n c := by
  rcases h.2 with ⟨h1, h2⟩ | ⟨g, cap, cur, rfl, -⟩
  · simp at h2
  · exact ⟨_, _, _, rfl⟩

set_option maxRecDepth 100000 in
set_option maxHeartbeats 4000000 in
theorem f_decimal (n : Nat) (x : Int) (hx : x = (n : Int)) (w : World) (hn : n < 1000) :
    Calls Try.prog 25 #[.int .i64 x] w fun e w' => e = .returned (.string (strOfNums (digs n))) ∧ Kept [] w w' := by
  subst hx
  have i0 : ¬ (n : Int) < 0 := by omega
  have hw : IntKind.u64.wrap (n : Int) = (n : Int) := by rw [IntKind.wrap_u64]; omega
  go_enter Try.func25, Try.ntmps25
  go_wp2_with fail
  go_loopw [3, 4] (fun i v wr => ∃ (m : Nat) (xs : List Int), i = .int .u64 (m : Int) ∧ m < 1000 ∧ Hid (Br wr w.heap.size v xs ∧ (xs = [] → v = .slice none 0 0) ∧ Kept [] w wr ∧ dz m xs = digs n) ∧ v = v) (fun i v _ => (intOf i).toNat * 2 + isn v)
  case atStart => exact ⟨n, [], by simp, hn, ⟨Br.nil _ _, fun _ => rfl, Kept.refl _ _, by unfold dz; simp⟩, rfl⟩
  case round =>
    obtain ⟨m, xs, rfl, hm, HM, -⟩ := hrel
    by_cases h0 : 0 < m
    · have j0 : (0 : Int) < (m : Int) := by omega
      have d0 : decide ((0 : Int) < (m : Int)) = true := by simp; omega
      obtain ⟨v', w', hr, hB, hK⟩ := prepend HM.out.1 HM.out.2.1 HM.out.2.2.1.size (48 + ((m % 10 : Nat) : Int)) (by have := dz_len HM.out.2.2.2; omega) 46
      have HA : Hid (_) := hr
      obtain ⟨vg, vn, vc, rfl⟩ := hB.some
      have HE : Hid (Br w' w.heap.size (.slice (some ⟨vg, 0, none⟩) vn vc) ((48 + ((m % 10 : Nat) : Int)) :: xs) ∧ (((48 + ((m % 10 : Nat) : Int)) :: xs) = [] → Value.slice (some ⟨vg, 0, none⟩) vn vc = .slice none 0 0) ∧ Kept [] w w' ∧ dz (m / 10) ((48 + ((m % 10 : Nat) : Int)) :: xs) = digs n) := ⟨hB, fun h => (by cases h), HM.out.2.2.1.trans hK (by simp), by rw [dz_step hm (Or.inl h0)]; exact HM.out.2.2.2⟩
      clear hr hB hK HM
      go_wp2_with (at_builtin; refine wpList_append_run _ rfl _ _ 46 46 rfl _ _ rfl rfl _ _ HA.out ?_)
      refine ⟨⟨m / 10, _, by go_num, by omega, HE.out, trivial⟩, ?_⟩
      simp [intOf, isn]; omega
    · have e0 : m = 0 := by omega
      subst e0
      by_cases hx : xs = []
      · subst hx
        have hv := HM.out.2.1 rfl
        subst hv
        obtain ⟨v', w', hr, hB, hK⟩ := prepend HM.out.1 HM.out.2.1 HM.out.2.2.1.size ((48 : Int) + ((0 % 10 : Nat) : Int)) (by have := dz_len HM.out.2.2.2; omega) 46
        have HA : Hid (_) := hr
        obtain ⟨vg, vn, vc, rfl⟩ := hB.some
        have HE : Hid (Br w' w.heap.size (.slice (some ⟨vg, 0, none⟩) vn vc) (((48 : Int) + ((0 % 10 : Nat) : Int)) :: []) ∧ ((((48 : Int) + ((0 % 10 : Nat) : Int)) :: []) = [] → Value.slice (some ⟨vg, 0, none⟩) vn vc = .slice none 0 0) ∧ Kept [] w w' ∧ dz (0 / 10) (((48 : Int) + ((0 % 10 : Nat) : Int)) :: []) = digs n) := ⟨hB, fun h => (by cases h), HM.out.2.2.1.trans hK (by simp), by rw [dz_step hm (Or.inr rfl)]; exact HM.out.2.2.2⟩
        clear hr hB hK HM
        go_wp2_with (at_builtin; refine wpList_append_run _ rfl _ _ 46 46 rfl _ _ rfl rfl _ _ HA.out ?_)
        refine ⟨⟨0 / 10, _, by go_num, by omega, HE.out, trivial⟩, ?_⟩
        simp [intOf, isn]

      · have HE : Hid (xs = digs n ∧ Kept [] w wr) := ⟨by have := HM.out.2.2.2; unfold dz at this; rw [if_pos ⟨rfl, hx⟩] at this; exact this, HM.out.2.2.1⟩
        have hcv := conv_str HM.out.1
        rw [HE.out.1] at hcv
        obtain ⟨va, vc, rfl⟩ := HM.out.1.sliceL
        have hl : ((xs.length : Int) == 0) = false := by
          have : xs.length ≠ 0 := fun h => hx (List.eq_nil_of_length_eq_zero h)
          simp; omega
        have hl2 : ¬ ((xs.length : Int) = 0) := by
          have : xs.length ≠ 0 := fun h => hx (List.eq_nil_of_length_eq_zero h)
          omega
        clear HM hx
        go_wp2_with fail
        go_ret
        exact ⟨rfl, HE.out.2⟩

end Go.Proofs.Ytpaefllhngbimaa
