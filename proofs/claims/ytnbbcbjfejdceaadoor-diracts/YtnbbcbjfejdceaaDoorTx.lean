/-
  Package dir: a spelling read back; rows of bytes of a call's own.
-/
import Derived.Test.YtnbbcbjfejdceaaDoorSx
import Derived.Test.YtnbbcbjfejdceaaDoorEr
import Derived.Laws.BytesArg
namespace Go.Proofs.YtnbbcbjfejdceaaDoor
open Go.RowKit
set_option linter.unusedVariables false

/-- A row of bytes of the call's own, in a block from H on. -/
def Br (w : World) (H : Nat) (v : Value) (xs : List Int) : Prop := w.ownsRow H 5 1 v xs.length (xs.map (Value.int .u8))

theorem Br.nil (w : World) (H : Nat) : Br w H (.slice none 0 0) [] := World.ownsRow_nil w H 5 1

theorem info5 : (Tryd.prog.info? 5).map (fun i => (i.zero, i.size, i.bytes)) = some (some (.int .u8 0), 1, 1) := by kernel_rfl

theorem Br.same {w w' : World} {H : Nat} {v : Value} {xs : List Int} (h : Br w H v xs) (hk : ∀ k, v.ownBlock = some k → w'.heap[k]? = w.heap[k]?) : Br w' H v xs := by
  refine ⟨h.1, ?_⟩
  rcases h.2 with hn | ⟨g, cap, cur, rfl, hb, hgg, rest⟩
  · exact .inl hn
  · exact .inr ⟨g, cap, cur, rfl, hb, by rw [hk g rfl]; exact hgg, rest⟩

theorem Br.block {w : World} {H : Nat} {v : Value} {xs : List Int} (h : Br w H v xs) : ∀ k, v.ownBlock = some k → H ≤ k ∧ k < w.heap.size := World.ownsRow.lt h

theorem Br.kept {w w' : World} {H : Nat} {v : Value} {xs : List Int} (h : Br w H v xs) (k : Kept [] w w') : Br w' H v xs :=
  h.same fun x hx => k.block x (h.block x hx).2 (by simp)

theorem bytes_oneCell (xs : List Int) : ∀ u ∈ xs.map (Value.int .u8), u.oneCell' = true := by
  intro u hu
  simp only [List.mem_map] at hu
  obtain ⟨a, _, rfl⟩ := hu
  rfl

/-- An append of one byte that lies in a block of its own. -/
theorem append_byte {w : World} {H : Nat} {v : Value} {xs : List Int} (h : Br w H v xs) (hH : H ≤ w.heap.size) (b : Nat) (y : Int) (hy : w.cell? ⟨b, 0, none⟩ = some (.int .u8 y)) (hb : xs.length + 1 ≤ 1000000) (ty : TypeId) :
    ∃ v' w', (Builtin.append_ #[94, 94] ty #[v, .slice (some ⟨b, 0, none⟩) 1 1]).run Tryd.prog w = .ok v' w' ∧ Br w' H v' (xs ++ [y]) ∧ w.grownBy w' v.ownBlock := by
  obtain ⟨i0, hi, hz0, hz1, hz2⟩ := info_parts info5
  obtain ⟨v', w', hr, h2, h3, _, h5⟩ := run_append_own_at (P := Tryd.prog) w H 94 ty 5 i0 (.int .u8 0) 1 1 Tryd.underlying94 hi hz0 hz1 hz2 rfl (by omega) v xs.length (xs.map (Value.int .u8)) h ⟨b, 0, none⟩ 1 1 ([y].map (Value.int .u8)) (by simp)
    (fun j u hu => by
      have hj : j = 0 := by
        rcases Nat.lt_or_ge j 1 with h1 | h1
        · omega
        · rw [List.getElem?_eq_none (by simpa using h1)] at hu; cases hu
      subst hj
      have ea : (⟨b, 0, none⟩ : Addr).add 0 = ⟨b, 0, none⟩ := by unfold Addr.add; split <;> simp_all
      rw [ea, hy, ← hu]
      rfl)
    (bytes_oneCell [y]) (by unfold maxLen; omega) (by omega) hH
  refine ⟨v', w', hr, ?_, h3⟩
  unfold Br
  rw [List.length_append, List.map_append]
  exact h2

/-- 'string(b)'. -/
theorem conv_str {w : World} {H : Nat} {v : Value} {xs : List Int} (h : Br w H v xs) : (convert 94 9 v).run Tryd.prog w = .ok (.string (strOfNums xs)) w := by
  rcases h.2 with ⟨h1, h2⟩ | ⟨g, cap, cur, rfl, hb, hgg, h4, h5, h6, h7⟩
  · have : xs = [] := List.eq_nil_of_length_eq_zero h2
    subst this
    rw [h1, run_convert_bytes_nil (P := Tryd.prog) w 94 5 Tryd.underlying94 Tryd.underlying5 _ _ 9 Tryd.underlying9]
    rfl
  · refine run_convert_bytes_arg (P := Tryd.prog) w 94 5 Tryd.underlying94 Tryd.underlying5 g 0 xs.length cap xs rfl (fun i hi => ?_) 9 Tryd.underlying9
    rw [Nat.zero_add, cell_of_row _ _ _ _ _ _ hgg]
    have h8 : (cur.toList.take (xs.length * 1))[i]? = (xs.map (Value.int .u8))[i]? := by rw [h7]
    rw [List.getElem?_take_of_lt (by omega), Array.getElem?_toList] at h8
    rw [h8]
    simp [hi]

/-- At an append: whatever it does, by its run. -/
theorem wpList_append_run {P : Program} (w : World) {ops : Array Oper} {rest : List Oper} {o : Oper} {a : Act} {Q : Exit → Act → World → Prop} (hgd : o.guard = none) (s x : Operand) (t1 t2 : TypeId)
    (ho : o.op = .call { callee := .builtin .append, args := #[s, x], argTypes := #[t1, t2] }) (v u : Value) (hs : a.eval s = v) (hx : a.eval x = u) (v' : Value) (w' : World)
    (hr : (Builtin.append_ #[t1, t2] o.type #[v, u]).run P w = .ok v' w') (h : wpList P ops Q rest (a.put o.dst v') w') : wpList P ops Q (o :: rest) a w := by
  refine wpList_plain hgd fun K hK => ?_
  unfold Oper.wp execOp
  simp only [ho, resolve, invoke, builtin, Sem.run_bind, Sem.run_pure, Result.andThen_ok, List.map_toArray, List.map_cons, List.map_nil, hs, hx, hr]
  exact hK _ _ h

theorem Br.slice {w : World} {H : Nat} {v : Value} {xs : List Int} (h : Br w H v xs) : ∃ a n c, v = .slice a n c := by
  rcases h.2 with ⟨h1, h2⟩ | ⟨g, cap, cur, rfl, -⟩
  · exact ⟨_, _, _, h1⟩
  · exact ⟨_, _, _, rfl⟩

theorem own_none (w : World) (v : Value) {H : Nat} {xs : List Int} (h : Br w H v xs) (x : Nat) (hx : x < H) : v.ownBlock ≠ some x := fun e => by have := (h.block x e).1; omega

/-- The bytes that are not 0. -/
def fz (l : List Int) : List Int := l.filter fun b => b != 0

theorem fz_step (m : Nat) (n : Int) (hm : m < 8) : fz (dg (8 - m) (n / 256 ^ m)) = fz (dg (8 - (m + 1)) (n / 256 ^ (m + 1))) ++ (if n / 256 ^ m % 256 != 0 then [n / 256 ^ m % 256] else []) := by
  rw [show 8 - m = (8 - (m + 1)) + 1 by omega, dg_step]
  unfold fz
  rw [List.filter_append]
  have e : n / 256 ^ m / 256 = n / 256 ^ (m + 1) := by
    rw [Int.pow_succ, Int.ediv_ediv_of_nonneg (Int.pow_nonneg (by omega))]
  rw [e]
  congr 1
  rcases h : (n / 256 ^ m % 256 != 0) with _ | _
  · simp [h]
  · simp [h]

theorem fz_len (l : List Int) (k : Nat) (h : l.length ≤ k) : (fz l).length ≤ k := Nat.le_trans (List.length_filter_le ..) h

theorem dg_len (k : Nat) : ∀ n, (dg k n).length = k := by
  induction k with
  | zero => intro n; rfl
  | succ k ih => intro n; rw [dg, List.length_append, ih]; rfl

set_option maxRecDepth 100000 in
set_option maxHeartbeats 4000000 in
theorem d_text (z0 z1 : Int) (w : World) :
    Calls Tryd.prog 35 #[.agg #[.int .i64 z0, .int .i64 z1]] w fun e w' => e = .returned (.string (strOfNums (unp z0 ++ unp z1))) ∧ Kept [] w w' := by
  have x0 : ∀ W : World, (Instr.index 69 (.agg #[.int .i64 z0, .int .i64 z1]) (.int .i64 0)).run Tryd.prog W = .ok (.int .i64 z0) W := fun W => by kernel_rfl
  have x1 : ∀ W : World, (Instr.index 69 (.agg #[.int .i64 z0, .int .i64 z1]) (.int .i64 1)).run Tryd.prog W = .ok (.int .i64 z1) W := fun W => by kernel_rfl
  go_enter Tryd.func35, Tryd.ntmps35
  go_wp2_with fail
  go_loopw [9, 3] (fun i v wr => ∃ (j : Nat) (xs : List Int), i = .int .i64 (j : Int) ∧ j ≤ 2 ∧ Hid (Br wr w.heap.size v xs ∧ Kept [] w wr ∧ ((j = 0 ∧ xs = []) ∨ (j = 1 ∧ xs = unp z0) ∨ (j = 2 ∧ xs = unp z0 ++ unp z1)))) (fun i _ _ => (2 - intOf i).toNat)
  case atStart => exact ⟨0, [], rfl, by omega, Br.nil _ _, (Kept.refl [] w).alloc _, Or.inl ⟨rfl, rfl⟩⟩
  case round =>
    obtain ⟨j, xs, rfl, hj, HJ⟩ := hrel
    rcases (show j = 0 ∨ j = 1 ∨ j = 2 by omega) with rfl | rfl | rfl
    · have HX : Hid (xs = []) := by
        rcases HJ.out.2.2 with ⟨-, h⟩ | ⟨h, -⟩ | ⟨h, -⟩
        · exact h
        · omega
        · omega
      have hxl : xs.length ≤ 8 := by rw [HX.out]; simp
      go_wp2_with fail
      go_loopw [6, 3] (fun i v wr => ∃ (m : Nat) (ys : List Int), i = .int .i64 (8 * (m : Int) - 8) ∧ m ≤ 8 ∧ Hid (Br wr w.heap.size v ys ∧ Kept [] w wr ∧ ys = xs ++ fz (dg (8 - m) (z0 / 256 ^ m)))) (fun i _ _ => (intOf i + 8).toNat)
      case atStart => exact ⟨8, xs, rfl, by omega, HJ.out.1, HJ.out.2.1, by rw [show fz (dg (8 - 8) (z0 / 256 ^ 8)) = [] from rfl, List.append_nil]⟩
      case round =>
        clear HJ
        obtain ⟨m, ys, rfl, hm, HM⟩ := hrel
        rcases (show m = 0 ∨ m = 1 ∨ m = 2 ∨ m = 3 ∨ m = 4 ∨ m = 5 ∨ m = 6 ∨ m = 7 ∨ m = 8 by omega) with rfl | rfl | rfl | rfl | rfl | rfl | rfl | rfl | rfl
        · have HE : Hid (_) := HM.out
          clear HM
          go_wp2_with fail
          go_roundw
          case rel => exact ⟨1, _, by go_num, by omega, HE.out.1, HE.out.2.1, Or.inr (Or.inl ⟨rfl, by rw [HE.out.2.2, HX.out, List.nil_append, Int.pow_zero, Int.ediv_one]; rfl⟩)⟩
          case measure => simp [intOf]
        · have ey : z0 / 256 ^ 0 % 256 = z0 % 256 := by first | rfl | (rw [Int.pow_zero, Int.ediv_one]) | (rw [show (256 : Int) ^ 0 = 1 by decide])
          have hst := fz_step 0 z0 (by omega)
          rw [ey] at hst
          rcases hy : (z0 % 256 != 0) with _ | _
          · rw [hy] at hst
            have HE : Hid (_ ∧ _ ∧ _) := ⟨HM.out.1, HM.out.2.1, HM.out.2.2.trans (congrArg (xs ++ ·) (hst.trans (by simp)).symm)⟩
            clear HM hst ey
            go_wp2_with fail
            go_roundw
            case rel => exact ⟨0, ys, by go_num, by omega, HE.out⟩
            case measure => simp [intOf]
          · rw [hy] at hst
            have hk1 : Kept [] wr (wr.alloc (.cells #[.int .u8 (z0 % 256)] 5)) := (Kept.refl [] wr).alloc _
            have hl := HM.out.2.2
            have hlen : ys.length + 1 ≤ 1000000 := by rw [hl, List.length_append]; have := fz_len _ _ (Nat.le_of_eq (dg_len (8 - 1) (z0 / 256 ^ 1))); omega
            obtain ⟨v', w', hr, h2, h3⟩ := append_byte (HM.out.1.kept hk1) (by have := HM.out.2.1.size; simp; omega) wr.heap.size (z0 % 256) (by rw [cell_of_row _ _ _ _ _ _ (heap_alloc_new wr _)]; rfl) hlen 94
            have hkk : Kept [] w w' := (HM.out.2.1.trans hk1 (by simp)).grown h3 fun x hx => Or.inr (HM.out.1.block x hx).1
            have HE : Hid (_ ∧ _ ∧ _) := ⟨h2, hkk, by
              show ys ++ [z0 % 256] = xs ++ fz (dg (8 - 0) (z0 / 256 ^ 0))
              rw [hl, hst, List.append_assoc]
              rfl⟩
            obtain ⟨va, vn, vc, rfl⟩ := h2.slice
            have HA : Hid (_) := hr
            clear HM hst ey hr h2 h3 hk1 hkk hl hlen
            go_wp2_with (at_builtin; refine wpList_append_run _ rfl _ _ 94 94 rfl _ _ rfl rfl _ _ HA.out ?_)
            go_roundw
            case rel => exact ⟨0, _, by go_num, by omega, HE.out⟩
            case measure => simp [intOf]
        · have ey : z0 / 256 ^ 1 % 256 = z0 / 256 % 256 := by first | rfl | (rw [Int.pow_zero, Int.ediv_one]) | (rw [show (256 : Int) ^ 1 = 256 by decide])
          have hst := fz_step 1 z0 (by omega)
          rw [ey] at hst
          rcases hy : (z0 / 256 % 256 != 0) with _ | _
          · rw [hy] at hst
            have HE : Hid (_ ∧ _ ∧ _) := ⟨HM.out.1, HM.out.2.1, HM.out.2.2.trans (congrArg (xs ++ ·) (hst.trans (by simp)).symm)⟩
            clear HM hst ey
            go_wp2_with fail
            go_roundw
            case rel => exact ⟨1, ys, by go_num, by omega, HE.out⟩
            case measure => simp [intOf]
          · rw [hy] at hst
            have hk1 : Kept [] wr (wr.alloc (.cells #[.int .u8 (z0 / 256 % 256)] 5)) := (Kept.refl [] wr).alloc _
            have hl := HM.out.2.2
            have hlen : ys.length + 1 ≤ 1000000 := by rw [hl, List.length_append]; have := fz_len _ _ (Nat.le_of_eq (dg_len (8 - 2) (z0 / 256 ^ 2))); omega
            obtain ⟨v', w', hr, h2, h3⟩ := append_byte (HM.out.1.kept hk1) (by have := HM.out.2.1.size; simp; omega) wr.heap.size (z0 / 256 % 256) (by rw [cell_of_row _ _ _ _ _ _ (heap_alloc_new wr _)]; rfl) hlen 94
            have hkk : Kept [] w w' := (HM.out.2.1.trans hk1 (by simp)).grown h3 fun x hx => Or.inr (HM.out.1.block x hx).1
            have HE : Hid (_ ∧ _ ∧ _) := ⟨h2, hkk, by
              show ys ++ [z0 / 256 % 256] = xs ++ fz (dg (8 - 1) (z0 / 256 ^ 1))
              rw [hl, hst, List.append_assoc]
              rfl⟩
            obtain ⟨va, vn, vc, rfl⟩ := h2.slice
            have HA : Hid (_) := hr
            clear HM hst ey hr h2 h3 hk1 hkk hl hlen
            go_wp2_with (at_builtin; refine wpList_append_run _ rfl _ _ 94 94 rfl _ _ rfl rfl _ _ HA.out ?_)
            go_roundw
            case rel => exact ⟨1, _, by go_num, by omega, HE.out⟩
            case measure => simp [intOf]
        · have ey : z0 / 256 ^ 2 % 256 = z0 / 65536 % 256 := by first | rfl | (rw [Int.pow_zero, Int.ediv_one]) | (rw [show (256 : Int) ^ 2 = 65536 by decide])
          have hst := fz_step 2 z0 (by omega)
          rw [ey] at hst
          rcases hy : (z0 / 65536 % 256 != 0) with _ | _
          · rw [hy] at hst
            have HE : Hid (_ ∧ _ ∧ _) := ⟨HM.out.1, HM.out.2.1, HM.out.2.2.trans (congrArg (xs ++ ·) (hst.trans (by simp)).symm)⟩
            clear HM hst ey
            go_wp2_with fail
            go_roundw
            case rel => exact ⟨2, ys, by go_num, by omega, HE.out⟩
            case measure => simp [intOf]
          · rw [hy] at hst
            have hk1 : Kept [] wr (wr.alloc (.cells #[.int .u8 (z0 / 65536 % 256)] 5)) := (Kept.refl [] wr).alloc _
            have hl := HM.out.2.2
            have hlen : ys.length + 1 ≤ 1000000 := by rw [hl, List.length_append]; have := fz_len _ _ (Nat.le_of_eq (dg_len (8 - 3) (z0 / 256 ^ 3))); omega
            obtain ⟨v', w', hr, h2, h3⟩ := append_byte (HM.out.1.kept hk1) (by have := HM.out.2.1.size; simp; omega) wr.heap.size (z0 / 65536 % 256) (by rw [cell_of_row _ _ _ _ _ _ (heap_alloc_new wr _)]; rfl) hlen 94
            have hkk : Kept [] w w' := (HM.out.2.1.trans hk1 (by simp)).grown h3 fun x hx => Or.inr (HM.out.1.block x hx).1
            have HE : Hid (_ ∧ _ ∧ _) := ⟨h2, hkk, by
              show ys ++ [z0 / 65536 % 256] = xs ++ fz (dg (8 - 2) (z0 / 256 ^ 2))
              rw [hl, hst, List.append_assoc]
              rfl⟩
            obtain ⟨va, vn, vc, rfl⟩ := h2.slice
            have HA : Hid (_) := hr
            clear HM hst ey hr h2 h3 hk1 hkk hl hlen
            go_wp2_with (at_builtin; refine wpList_append_run _ rfl _ _ 94 94 rfl _ _ rfl rfl _ _ HA.out ?_)
            go_roundw
            case rel => exact ⟨2, _, by go_num, by omega, HE.out⟩
            case measure => simp [intOf]
        · have ey : z0 / 256 ^ 3 % 256 = z0 / 16777216 % 256 := by first | rfl | (rw [Int.pow_zero, Int.ediv_one]) | (rw [show (256 : Int) ^ 3 = 16777216 by decide])
          have hst := fz_step 3 z0 (by omega)
          rw [ey] at hst
          rcases hy : (z0 / 16777216 % 256 != 0) with _ | _
          · rw [hy] at hst
            have HE : Hid (_ ∧ _ ∧ _) := ⟨HM.out.1, HM.out.2.1, HM.out.2.2.trans (congrArg (xs ++ ·) (hst.trans (by simp)).symm)⟩
            clear HM hst ey
            go_wp2_with fail
            go_roundw
            case rel => exact ⟨3, ys, by go_num, by omega, HE.out⟩
            case measure => simp [intOf]
          · rw [hy] at hst
            have hk1 : Kept [] wr (wr.alloc (.cells #[.int .u8 (z0 / 16777216 % 256)] 5)) := (Kept.refl [] wr).alloc _
            have hl := HM.out.2.2
            have hlen : ys.length + 1 ≤ 1000000 := by rw [hl, List.length_append]; have := fz_len _ _ (Nat.le_of_eq (dg_len (8 - 4) (z0 / 256 ^ 4))); omega
            obtain ⟨v', w', hr, h2, h3⟩ := append_byte (HM.out.1.kept hk1) (by have := HM.out.2.1.size; simp; omega) wr.heap.size (z0 / 16777216 % 256) (by rw [cell_of_row _ _ _ _ _ _ (heap_alloc_new wr _)]; rfl) hlen 94
            have hkk : Kept [] w w' := (HM.out.2.1.trans hk1 (by simp)).grown h3 fun x hx => Or.inr (HM.out.1.block x hx).1
            have HE : Hid (_ ∧ _ ∧ _) := ⟨h2, hkk, by
              show ys ++ [z0 / 16777216 % 256] = xs ++ fz (dg (8 - 3) (z0 / 256 ^ 3))
              rw [hl, hst, List.append_assoc]
              rfl⟩
            obtain ⟨va, vn, vc, rfl⟩ := h2.slice
            have HA : Hid (_) := hr
            clear HM hst ey hr h2 h3 hk1 hkk hl hlen
            go_wp2_with (at_builtin; refine wpList_append_run _ rfl _ _ 94 94 rfl _ _ rfl rfl _ _ HA.out ?_)
            go_roundw
            case rel => exact ⟨3, _, by go_num, by omega, HE.out⟩
            case measure => simp [intOf]
        · have ey : z0 / 256 ^ 4 % 256 = z0 / 4294967296 % 256 := by first | rfl | (rw [Int.pow_zero, Int.ediv_one]) | (rw [show (256 : Int) ^ 4 = 4294967296 by decide])
          have hst := fz_step 4 z0 (by omega)
          rw [ey] at hst
          rcases hy : (z0 / 4294967296 % 256 != 0) with _ | _
          · rw [hy] at hst
            have HE : Hid (_ ∧ _ ∧ _) := ⟨HM.out.1, HM.out.2.1, HM.out.2.2.trans (congrArg (xs ++ ·) (hst.trans (by simp)).symm)⟩
            clear HM hst ey
            go_wp2_with fail
            go_roundw
            case rel => exact ⟨4, ys, by go_num, by omega, HE.out⟩
            case measure => simp [intOf]
          · rw [hy] at hst
            have hk1 : Kept [] wr (wr.alloc (.cells #[.int .u8 (z0 / 4294967296 % 256)] 5)) := (Kept.refl [] wr).alloc _
            have hl := HM.out.2.2
            have hlen : ys.length + 1 ≤ 1000000 := by rw [hl, List.length_append]; have := fz_len _ _ (Nat.le_of_eq (dg_len (8 - 5) (z0 / 256 ^ 5))); omega
            obtain ⟨v', w', hr, h2, h3⟩ := append_byte (HM.out.1.kept hk1) (by have := HM.out.2.1.size; simp; omega) wr.heap.size (z0 / 4294967296 % 256) (by rw [cell_of_row _ _ _ _ _ _ (heap_alloc_new wr _)]; rfl) hlen 94
            have hkk : Kept [] w w' := (HM.out.2.1.trans hk1 (by simp)).grown h3 fun x hx => Or.inr (HM.out.1.block x hx).1
            have HE : Hid (_ ∧ _ ∧ _) := ⟨h2, hkk, by
              show ys ++ [z0 / 4294967296 % 256] = xs ++ fz (dg (8 - 4) (z0 / 256 ^ 4))
              rw [hl, hst, List.append_assoc]
              rfl⟩
            obtain ⟨va, vn, vc, rfl⟩ := h2.slice
            have HA : Hid (_) := hr
            clear HM hst ey hr h2 h3 hk1 hkk hl hlen
            go_wp2_with (at_builtin; refine wpList_append_run _ rfl _ _ 94 94 rfl _ _ rfl rfl _ _ HA.out ?_)
            go_roundw
            case rel => exact ⟨4, _, by go_num, by omega, HE.out⟩
            case measure => simp [intOf]
        · have ey : z0 / 256 ^ 5 % 256 = z0 / 1099511627776 % 256 := by first | rfl | (rw [Int.pow_zero, Int.ediv_one]) | (rw [show (256 : Int) ^ 5 = 1099511627776 by decide])
          have hst := fz_step 5 z0 (by omega)
          rw [ey] at hst
          rcases hy : (z0 / 1099511627776 % 256 != 0) with _ | _
          · rw [hy] at hst
            have HE : Hid (_ ∧ _ ∧ _) := ⟨HM.out.1, HM.out.2.1, HM.out.2.2.trans (congrArg (xs ++ ·) (hst.trans (by simp)).symm)⟩
            clear HM hst ey
            go_wp2_with fail
            go_roundw
            case rel => exact ⟨5, ys, by go_num, by omega, HE.out⟩
            case measure => simp [intOf]
          · rw [hy] at hst
            have hk1 : Kept [] wr (wr.alloc (.cells #[.int .u8 (z0 / 1099511627776 % 256)] 5)) := (Kept.refl [] wr).alloc _
            have hl := HM.out.2.2
            have hlen : ys.length + 1 ≤ 1000000 := by rw [hl, List.length_append]; have := fz_len _ _ (Nat.le_of_eq (dg_len (8 - 6) (z0 / 256 ^ 6))); omega
            obtain ⟨v', w', hr, h2, h3⟩ := append_byte (HM.out.1.kept hk1) (by have := HM.out.2.1.size; simp; omega) wr.heap.size (z0 / 1099511627776 % 256) (by rw [cell_of_row _ _ _ _ _ _ (heap_alloc_new wr _)]; rfl) hlen 94
            have hkk : Kept [] w w' := (HM.out.2.1.trans hk1 (by simp)).grown h3 fun x hx => Or.inr (HM.out.1.block x hx).1
            have HE : Hid (_ ∧ _ ∧ _) := ⟨h2, hkk, by
              show ys ++ [z0 / 1099511627776 % 256] = xs ++ fz (dg (8 - 5) (z0 / 256 ^ 5))
              rw [hl, hst, List.append_assoc]
              rfl⟩
            obtain ⟨va, vn, vc, rfl⟩ := h2.slice
            have HA : Hid (_) := hr
            clear HM hst ey hr h2 h3 hk1 hkk hl hlen
            go_wp2_with (at_builtin; refine wpList_append_run _ rfl _ _ 94 94 rfl _ _ rfl rfl _ _ HA.out ?_)
            go_roundw
            case rel => exact ⟨5, _, by go_num, by omega, HE.out⟩
            case measure => simp [intOf]
        · have ey : z0 / 256 ^ 6 % 256 = z0 / 281474976710656 % 256 := by first | rfl | (rw [Int.pow_zero, Int.ediv_one]) | (rw [show (256 : Int) ^ 6 = 281474976710656 by decide])
          have hst := fz_step 6 z0 (by omega)
          rw [ey] at hst
          rcases hy : (z0 / 281474976710656 % 256 != 0) with _ | _
          · rw [hy] at hst
            have HE : Hid (_ ∧ _ ∧ _) := ⟨HM.out.1, HM.out.2.1, HM.out.2.2.trans (congrArg (xs ++ ·) (hst.trans (by simp)).symm)⟩
            clear HM hst ey
            go_wp2_with fail
            go_roundw
            case rel => exact ⟨6, ys, by go_num, by omega, HE.out⟩
            case measure => simp [intOf]
          · rw [hy] at hst
            have hk1 : Kept [] wr (wr.alloc (.cells #[.int .u8 (z0 / 281474976710656 % 256)] 5)) := (Kept.refl [] wr).alloc _
            have hl := HM.out.2.2
            have hlen : ys.length + 1 ≤ 1000000 := by rw [hl, List.length_append]; have := fz_len _ _ (Nat.le_of_eq (dg_len (8 - 7) (z0 / 256 ^ 7))); omega
            obtain ⟨v', w', hr, h2, h3⟩ := append_byte (HM.out.1.kept hk1) (by have := HM.out.2.1.size; simp; omega) wr.heap.size (z0 / 281474976710656 % 256) (by rw [cell_of_row _ _ _ _ _ _ (heap_alloc_new wr _)]; rfl) hlen 94
            have hkk : Kept [] w w' := (HM.out.2.1.trans hk1 (by simp)).grown h3 fun x hx => Or.inr (HM.out.1.block x hx).1
            have HE : Hid (_ ∧ _ ∧ _) := ⟨h2, hkk, by
              show ys ++ [z0 / 281474976710656 % 256] = xs ++ fz (dg (8 - 6) (z0 / 256 ^ 6))
              rw [hl, hst, List.append_assoc]
              rfl⟩
            obtain ⟨va, vn, vc, rfl⟩ := h2.slice
            have HA : Hid (_) := hr
            clear HM hst ey hr h2 h3 hk1 hkk hl hlen
            go_wp2_with (at_builtin; refine wpList_append_run _ rfl _ _ 94 94 rfl _ _ rfl rfl _ _ HA.out ?_)
            go_roundw
            case rel => exact ⟨6, _, by go_num, by omega, HE.out⟩
            case measure => simp [intOf]
        · have ey : z0 / 256 ^ 7 % 256 = z0 / 72057594037927936 % 256 := by first | rfl | (rw [Int.pow_zero, Int.ediv_one]) | (rw [show (256 : Int) ^ 7 = 72057594037927936 by decide])
          have hst := fz_step 7 z0 (by omega)
          rw [ey] at hst
          rcases hy : (z0 / 72057594037927936 % 256 != 0) with _ | _
          · rw [hy] at hst
            have HE : Hid (_ ∧ _ ∧ _) := ⟨HM.out.1, HM.out.2.1, HM.out.2.2.trans (congrArg (xs ++ ·) (hst.trans (by simp)).symm)⟩
            clear HM hst ey
            go_wp2_with fail
            go_roundw
            case rel => exact ⟨7, ys, by go_num, by omega, HE.out⟩
            case measure => simp [intOf]
          · rw [hy] at hst
            have hk1 : Kept [] wr (wr.alloc (.cells #[.int .u8 (z0 / 72057594037927936 % 256)] 5)) := (Kept.refl [] wr).alloc _
            have hl := HM.out.2.2
            have hlen : ys.length + 1 ≤ 1000000 := by rw [hl, List.length_append]; have := fz_len _ _ (Nat.le_of_eq (dg_len (8 - 8) (z0 / 256 ^ 8))); omega
            obtain ⟨v', w', hr, h2, h3⟩ := append_byte (HM.out.1.kept hk1) (by have := HM.out.2.1.size; simp; omega) wr.heap.size (z0 / 72057594037927936 % 256) (by rw [cell_of_row _ _ _ _ _ _ (heap_alloc_new wr _)]; rfl) hlen 94
            have hkk : Kept [] w w' := (HM.out.2.1.trans hk1 (by simp)).grown h3 fun x hx => Or.inr (HM.out.1.block x hx).1
            have HE : Hid (_ ∧ _ ∧ _) := ⟨h2, hkk, by
              show ys ++ [z0 / 72057594037927936 % 256] = xs ++ fz (dg (8 - 7) (z0 / 256 ^ 7))
              rw [hl, hst, List.append_assoc]
              rfl⟩
            obtain ⟨va, vn, vc, rfl⟩ := h2.slice
            have HA : Hid (_) := hr
            clear HM hst ey hr h2 h3 hk1 hkk hl hlen
            go_wp2_with (at_builtin; refine wpList_append_run _ rfl _ _ 94 94 rfl _ _ rfl rfl _ _ HA.out ?_)
            go_roundw
            case rel => exact ⟨7, _, by go_num, by omega, HE.out⟩
            case measure => simp [intOf]
    · have HX : Hid (xs = unp z0) := by
        rcases HJ.out.2.2 with ⟨h, -⟩ | ⟨-, h⟩ | ⟨h, -⟩
        · omega
        · exact h
        · omega
      have hxl : xs.length ≤ 8 := by rw [HX.out]; exact fz_len _ _ (Nat.le_of_eq (dg_len 8 z0))
      go_wp2_with fail
      go_loopw [6, 3] (fun i v wr => ∃ (m : Nat) (ys : List Int), i = .int .i64 (8 * (m : Int) - 8) ∧ m ≤ 8 ∧ Hid (Br wr w.heap.size v ys ∧ Kept [] w wr ∧ ys = xs ++ fz (dg (8 - m) (z1 / 256 ^ m)))) (fun i _ _ => (intOf i + 8).toNat)
      case atStart => exact ⟨8, xs, rfl, by omega, HJ.out.1, HJ.out.2.1, by rw [show fz (dg (8 - 8) (z1 / 256 ^ 8)) = [] from rfl, List.append_nil]⟩
      case round =>
        clear HJ
        obtain ⟨m, ys, rfl, hm, HM⟩ := hrel
        rcases (show m = 0 ∨ m = 1 ∨ m = 2 ∨ m = 3 ∨ m = 4 ∨ m = 5 ∨ m = 6 ∨ m = 7 ∨ m = 8 by omega) with rfl | rfl | rfl | rfl | rfl | rfl | rfl | rfl | rfl
        · have HE : Hid (_) := HM.out
          clear HM
          go_wp2_with fail
          go_roundw
          case rel => exact ⟨2, _, by go_num, by omega, HE.out.1, HE.out.2.1, Or.inr (Or.inr ⟨rfl, by rw [HE.out.2.2, HX.out, Int.pow_zero, Int.ediv_one]; rfl⟩)⟩
          case measure => simp [intOf]
        · have ey : z1 / 256 ^ 0 % 256 = z1 % 256 := by first | rfl | (rw [Int.pow_zero, Int.ediv_one]) | (rw [show (256 : Int) ^ 0 = 1 by decide])
          have hst := fz_step 0 z1 (by omega)
          rw [ey] at hst
          rcases hy : (z1 % 256 != 0) with _ | _
          · rw [hy] at hst
            have HE : Hid (_ ∧ _ ∧ _) := ⟨HM.out.1, HM.out.2.1, HM.out.2.2.trans (congrArg (xs ++ ·) (hst.trans (by simp)).symm)⟩
            clear HM hst ey
            go_wp2_with fail
            go_roundw
            case rel => exact ⟨0, ys, by go_num, by omega, HE.out⟩
            case measure => simp [intOf]
          · rw [hy] at hst
            have hk1 : Kept [] wr (wr.alloc (.cells #[.int .u8 (z1 % 256)] 5)) := (Kept.refl [] wr).alloc _
            have hl := HM.out.2.2
            have hlen : ys.length + 1 ≤ 1000000 := by rw [hl, List.length_append]; have := fz_len _ _ (Nat.le_of_eq (dg_len (8 - 1) (z1 / 256 ^ 1))); omega
            obtain ⟨v', w', hr, h2, h3⟩ := append_byte (HM.out.1.kept hk1) (by have := HM.out.2.1.size; simp; omega) wr.heap.size (z1 % 256) (by rw [cell_of_row _ _ _ _ _ _ (heap_alloc_new wr _)]; rfl) hlen 94
            have hkk : Kept [] w w' := (HM.out.2.1.trans hk1 (by simp)).grown h3 fun x hx => Or.inr (HM.out.1.block x hx).1
            have HE : Hid (_ ∧ _ ∧ _) := ⟨h2, hkk, by
              show ys ++ [z1 % 256] = xs ++ fz (dg (8 - 0) (z1 / 256 ^ 0))
              rw [hl, hst, List.append_assoc]
              rfl⟩
            obtain ⟨va, vn, vc, rfl⟩ := h2.slice
            have HA : Hid (_) := hr
            clear HM hst ey hr h2 h3 hk1 hkk hl hlen
            go_wp2_with (at_builtin; refine wpList_append_run _ rfl _ _ 94 94 rfl _ _ rfl rfl _ _ HA.out ?_)
            go_roundw
            case rel => exact ⟨0, _, by go_num, by omega, HE.out⟩
            case measure => simp [intOf]
        · have ey : z1 / 256 ^ 1 % 256 = z1 / 256 % 256 := by first | rfl | (rw [Int.pow_zero, Int.ediv_one]) | (rw [show (256 : Int) ^ 1 = 256 by decide])
          have hst := fz_step 1 z1 (by omega)
          rw [ey] at hst
          rcases hy : (z1 / 256 % 256 != 0) with _ | _
          · rw [hy] at hst
            have HE : Hid (_ ∧ _ ∧ _) := ⟨HM.out.1, HM.out.2.1, HM.out.2.2.trans (congrArg (xs ++ ·) (hst.trans (by simp)).symm)⟩
            clear HM hst ey
            go_wp2_with fail
            go_roundw
            case rel => exact ⟨1, ys, by go_num, by omega, HE.out⟩
            case measure => simp [intOf]
          · rw [hy] at hst
            have hk1 : Kept [] wr (wr.alloc (.cells #[.int .u8 (z1 / 256 % 256)] 5)) := (Kept.refl [] wr).alloc _
            have hl := HM.out.2.2
            have hlen : ys.length + 1 ≤ 1000000 := by rw [hl, List.length_append]; have := fz_len _ _ (Nat.le_of_eq (dg_len (8 - 2) (z1 / 256 ^ 2))); omega
            obtain ⟨v', w', hr, h2, h3⟩ := append_byte (HM.out.1.kept hk1) (by have := HM.out.2.1.size; simp; omega) wr.heap.size (z1 / 256 % 256) (by rw [cell_of_row _ _ _ _ _ _ (heap_alloc_new wr _)]; rfl) hlen 94
            have hkk : Kept [] w w' := (HM.out.2.1.trans hk1 (by simp)).grown h3 fun x hx => Or.inr (HM.out.1.block x hx).1
            have HE : Hid (_ ∧ _ ∧ _) := ⟨h2, hkk, by
              show ys ++ [z1 / 256 % 256] = xs ++ fz (dg (8 - 1) (z1 / 256 ^ 1))
              rw [hl, hst, List.append_assoc]
              rfl⟩
            obtain ⟨va, vn, vc, rfl⟩ := h2.slice
            have HA : Hid (_) := hr
            clear HM hst ey hr h2 h3 hk1 hkk hl hlen
            go_wp2_with (at_builtin; refine wpList_append_run _ rfl _ _ 94 94 rfl _ _ rfl rfl _ _ HA.out ?_)
            go_roundw
            case rel => exact ⟨1, _, by go_num, by omega, HE.out⟩
            case measure => simp [intOf]
        · have ey : z1 / 256 ^ 2 % 256 = z1 / 65536 % 256 := by first | rfl | (rw [Int.pow_zero, Int.ediv_one]) | (rw [show (256 : Int) ^ 2 = 65536 by decide])
          have hst := fz_step 2 z1 (by omega)
          rw [ey] at hst
          rcases hy : (z1 / 65536 % 256 != 0) with _ | _
          · rw [hy] at hst
            have HE : Hid (_ ∧ _ ∧ _) := ⟨HM.out.1, HM.out.2.1, HM.out.2.2.trans (congrArg (xs ++ ·) (hst.trans (by simp)).symm)⟩
            clear HM hst ey
            go_wp2_with fail
            go_roundw
            case rel => exact ⟨2, ys, by go_num, by omega, HE.out⟩
            case measure => simp [intOf]
          · rw [hy] at hst
            have hk1 : Kept [] wr (wr.alloc (.cells #[.int .u8 (z1 / 65536 % 256)] 5)) := (Kept.refl [] wr).alloc _
            have hl := HM.out.2.2
            have hlen : ys.length + 1 ≤ 1000000 := by rw [hl, List.length_append]; have := fz_len _ _ (Nat.le_of_eq (dg_len (8 - 3) (z1 / 256 ^ 3))); omega
            obtain ⟨v', w', hr, h2, h3⟩ := append_byte (HM.out.1.kept hk1) (by have := HM.out.2.1.size; simp; omega) wr.heap.size (z1 / 65536 % 256) (by rw [cell_of_row _ _ _ _ _ _ (heap_alloc_new wr _)]; rfl) hlen 94
            have hkk : Kept [] w w' := (HM.out.2.1.trans hk1 (by simp)).grown h3 fun x hx => Or.inr (HM.out.1.block x hx).1
            have HE : Hid (_ ∧ _ ∧ _) := ⟨h2, hkk, by
              show ys ++ [z1 / 65536 % 256] = xs ++ fz (dg (8 - 2) (z1 / 256 ^ 2))
              rw [hl, hst, List.append_assoc]
              rfl⟩
            obtain ⟨va, vn, vc, rfl⟩ := h2.slice
            have HA : Hid (_) := hr
            clear HM hst ey hr h2 h3 hk1 hkk hl hlen
            go_wp2_with (at_builtin; refine wpList_append_run _ rfl _ _ 94 94 rfl _ _ rfl rfl _ _ HA.out ?_)
            go_roundw
            case rel => exact ⟨2, _, by go_num, by omega, HE.out⟩
            case measure => simp [intOf]
        · have ey : z1 / 256 ^ 3 % 256 = z1 / 16777216 % 256 := by first | rfl | (rw [Int.pow_zero, Int.ediv_one]) | (rw [show (256 : Int) ^ 3 = 16777216 by decide])
          have hst := fz_step 3 z1 (by omega)
          rw [ey] at hst
          rcases hy : (z1 / 16777216 % 256 != 0) with _ | _
          · rw [hy] at hst
            have HE : Hid (_ ∧ _ ∧ _) := ⟨HM.out.1, HM.out.2.1, HM.out.2.2.trans (congrArg (xs ++ ·) (hst.trans (by simp)).symm)⟩
            clear HM hst ey
            go_wp2_with fail
            go_roundw
            case rel => exact ⟨3, ys, by go_num, by omega, HE.out⟩
            case measure => simp [intOf]
          · rw [hy] at hst
            have hk1 : Kept [] wr (wr.alloc (.cells #[.int .u8 (z1 / 16777216 % 256)] 5)) := (Kept.refl [] wr).alloc _
            have hl := HM.out.2.2
            have hlen : ys.length + 1 ≤ 1000000 := by rw [hl, List.length_append]; have := fz_len _ _ (Nat.le_of_eq (dg_len (8 - 4) (z1 / 256 ^ 4))); omega
            obtain ⟨v', w', hr, h2, h3⟩ := append_byte (HM.out.1.kept hk1) (by have := HM.out.2.1.size; simp; omega) wr.heap.size (z1 / 16777216 % 256) (by rw [cell_of_row _ _ _ _ _ _ (heap_alloc_new wr _)]; rfl) hlen 94
            have hkk : Kept [] w w' := (HM.out.2.1.trans hk1 (by simp)).grown h3 fun x hx => Or.inr (HM.out.1.block x hx).1
            have HE : Hid (_ ∧ _ ∧ _) := ⟨h2, hkk, by
              show ys ++ [z1 / 16777216 % 256] = xs ++ fz (dg (8 - 3) (z1 / 256 ^ 3))
              rw [hl, hst, List.append_assoc]
              rfl⟩
            obtain ⟨va, vn, vc, rfl⟩ := h2.slice
            have HA : Hid (_) := hr
            clear HM hst ey hr h2 h3 hk1 hkk hl hlen
            go_wp2_with (at_builtin; refine wpList_append_run _ rfl _ _ 94 94 rfl _ _ rfl rfl _ _ HA.out ?_)
            go_roundw
            case rel => exact ⟨3, _, by go_num, by omega, HE.out⟩
            case measure => simp [intOf]
        · have ey : z1 / 256 ^ 4 % 256 = z1 / 4294967296 % 256 := by first | rfl | (rw [Int.pow_zero, Int.ediv_one]) | (rw [show (256 : Int) ^ 4 = 4294967296 by decide])
          have hst := fz_step 4 z1 (by omega)
          rw [ey] at hst
          rcases hy : (z1 / 4294967296 % 256 != 0) with _ | _
          · rw [hy] at hst
            have HE : Hid (_ ∧ _ ∧ _) := ⟨HM.out.1, HM.out.2.1, HM.out.2.2.trans (congrArg (xs ++ ·) (hst.trans (by simp)).symm)⟩
            clear HM hst ey
            go_wp2_with fail
            go_roundw
            case rel => exact ⟨4, ys, by go_num, by omega, HE.out⟩
            case measure => simp [intOf]
          · rw [hy] at hst
            have hk1 : Kept [] wr (wr.alloc (.cells #[.int .u8 (z1 / 4294967296 % 256)] 5)) := (Kept.refl [] wr).alloc _
            have hl := HM.out.2.2
            have hlen : ys.length + 1 ≤ 1000000 := by rw [hl, List.length_append]; have := fz_len _ _ (Nat.le_of_eq (dg_len (8 - 5) (z1 / 256 ^ 5))); omega
            obtain ⟨v', w', hr, h2, h3⟩ := append_byte (HM.out.1.kept hk1) (by have := HM.out.2.1.size; simp; omega) wr.heap.size (z1 / 4294967296 % 256) (by rw [cell_of_row _ _ _ _ _ _ (heap_alloc_new wr _)]; rfl) hlen 94
            have hkk : Kept [] w w' := (HM.out.2.1.trans hk1 (by simp)).grown h3 fun x hx => Or.inr (HM.out.1.block x hx).1
            have HE : Hid (_ ∧ _ ∧ _) := ⟨h2, hkk, by
              show ys ++ [z1 / 4294967296 % 256] = xs ++ fz (dg (8 - 4) (z1 / 256 ^ 4))
              rw [hl, hst, List.append_assoc]
              rfl⟩
            obtain ⟨va, vn, vc, rfl⟩ := h2.slice
            have HA : Hid (_) := hr
            clear HM hst ey hr h2 h3 hk1 hkk hl hlen
            go_wp2_with (at_builtin; refine wpList_append_run _ rfl _ _ 94 94 rfl _ _ rfl rfl _ _ HA.out ?_)
            go_roundw
            case rel => exact ⟨4, _, by go_num, by omega, HE.out⟩
            case measure => simp [intOf]
        · have ey : z1 / 256 ^ 5 % 256 = z1 / 1099511627776 % 256 := by first | rfl | (rw [Int.pow_zero, Int.ediv_one]) | (rw [show (256 : Int) ^ 5 = 1099511627776 by decide])
          have hst := fz_step 5 z1 (by omega)
          rw [ey] at hst
          rcases hy : (z1 / 1099511627776 % 256 != 0) with _ | _
          · rw [hy] at hst
            have HE : Hid (_ ∧ _ ∧ _) := ⟨HM.out.1, HM.out.2.1, HM.out.2.2.trans (congrArg (xs ++ ·) (hst.trans (by simp)).symm)⟩
            clear HM hst ey
            go_wp2_with fail
            go_roundw
            case rel => exact ⟨5, ys, by go_num, by omega, HE.out⟩
            case measure => simp [intOf]
          · rw [hy] at hst
            have hk1 : Kept [] wr (wr.alloc (.cells #[.int .u8 (z1 / 1099511627776 % 256)] 5)) := (Kept.refl [] wr).alloc _
            have hl := HM.out.2.2
            have hlen : ys.length + 1 ≤ 1000000 := by rw [hl, List.length_append]; have := fz_len _ _ (Nat.le_of_eq (dg_len (8 - 6) (z1 / 256 ^ 6))); omega
            obtain ⟨v', w', hr, h2, h3⟩ := append_byte (HM.out.1.kept hk1) (by have := HM.out.2.1.size; simp; omega) wr.heap.size (z1 / 1099511627776 % 256) (by rw [cell_of_row _ _ _ _ _ _ (heap_alloc_new wr _)]; rfl) hlen 94
            have hkk : Kept [] w w' := (HM.out.2.1.trans hk1 (by simp)).grown h3 fun x hx => Or.inr (HM.out.1.block x hx).1
            have HE : Hid (_ ∧ _ ∧ _) := ⟨h2, hkk, by
              show ys ++ [z1 / 1099511627776 % 256] = xs ++ fz (dg (8 - 5) (z1 / 256 ^ 5))
              rw [hl, hst, List.append_assoc]
              rfl⟩
            obtain ⟨va, vn, vc, rfl⟩ := h2.slice
            have HA : Hid (_) := hr
            clear HM hst ey hr h2 h3 hk1 hkk hl hlen
            go_wp2_with (at_builtin; refine wpList_append_run _ rfl _ _ 94 94 rfl _ _ rfl rfl _ _ HA.out ?_)
            go_roundw
            case rel => exact ⟨5, _, by go_num, by omega, HE.out⟩
            case measure => simp [intOf]
        · have ey : z1 / 256 ^ 6 % 256 = z1 / 281474976710656 % 256 := by first | rfl | (rw [Int.pow_zero, Int.ediv_one]) | (rw [show (256 : Int) ^ 6 = 281474976710656 by decide])
          have hst := fz_step 6 z1 (by omega)
          rw [ey] at hst
          rcases hy : (z1 / 281474976710656 % 256 != 0) with _ | _
          · rw [hy] at hst
            have HE : Hid (_ ∧ _ ∧ _) := ⟨HM.out.1, HM.out.2.1, HM.out.2.2.trans (congrArg (xs ++ ·) (hst.trans (by simp)).symm)⟩
            clear HM hst ey
            go_wp2_with fail
            go_roundw
            case rel => exact ⟨6, ys, by go_num, by omega, HE.out⟩
            case measure => simp [intOf]
          · rw [hy] at hst
            have hk1 : Kept [] wr (wr.alloc (.cells #[.int .u8 (z1 / 281474976710656 % 256)] 5)) := (Kept.refl [] wr).alloc _
            have hl := HM.out.2.2
            have hlen : ys.length + 1 ≤ 1000000 := by rw [hl, List.length_append]; have := fz_len _ _ (Nat.le_of_eq (dg_len (8 - 7) (z1 / 256 ^ 7))); omega
            obtain ⟨v', w', hr, h2, h3⟩ := append_byte (HM.out.1.kept hk1) (by have := HM.out.2.1.size; simp; omega) wr.heap.size (z1 / 281474976710656 % 256) (by rw [cell_of_row _ _ _ _ _ _ (heap_alloc_new wr _)]; rfl) hlen 94
            have hkk : Kept [] w w' := (HM.out.2.1.trans hk1 (by simp)).grown h3 fun x hx => Or.inr (HM.out.1.block x hx).1
            have HE : Hid (_ ∧ _ ∧ _) := ⟨h2, hkk, by
              show ys ++ [z1 / 281474976710656 % 256] = xs ++ fz (dg (8 - 6) (z1 / 256 ^ 6))
              rw [hl, hst, List.append_assoc]
              rfl⟩
            obtain ⟨va, vn, vc, rfl⟩ := h2.slice
            have HA : Hid (_) := hr
            clear HM hst ey hr h2 h3 hk1 hkk hl hlen
            go_wp2_with (at_builtin; refine wpList_append_run _ rfl _ _ 94 94 rfl _ _ rfl rfl _ _ HA.out ?_)
            go_roundw
            case rel => exact ⟨6, _, by go_num, by omega, HE.out⟩
            case measure => simp [intOf]
        · have ey : z1 / 256 ^ 7 % 256 = z1 / 72057594037927936 % 256 := by first | rfl | (rw [Int.pow_zero, Int.ediv_one]) | (rw [show (256 : Int) ^ 7 = 72057594037927936 by decide])
          have hst := fz_step 7 z1 (by omega)
          rw [ey] at hst
          rcases hy : (z1 / 72057594037927936 % 256 != 0) with _ | _
          · rw [hy] at hst
            have HE : Hid (_ ∧ _ ∧ _) := ⟨HM.out.1, HM.out.2.1, HM.out.2.2.trans (congrArg (xs ++ ·) (hst.trans (by simp)).symm)⟩
            clear HM hst ey
            go_wp2_with fail
            go_roundw
            case rel => exact ⟨7, ys, by go_num, by omega, HE.out⟩
            case measure => simp [intOf]
          · rw [hy] at hst
            have hk1 : Kept [] wr (wr.alloc (.cells #[.int .u8 (z1 / 72057594037927936 % 256)] 5)) := (Kept.refl [] wr).alloc _
            have hl := HM.out.2.2
            have hlen : ys.length + 1 ≤ 1000000 := by rw [hl, List.length_append]; have := fz_len _ _ (Nat.le_of_eq (dg_len (8 - 8) (z1 / 256 ^ 8))); omega
            obtain ⟨v', w', hr, h2, h3⟩ := append_byte (HM.out.1.kept hk1) (by have := HM.out.2.1.size; simp; omega) wr.heap.size (z1 / 72057594037927936 % 256) (by rw [cell_of_row _ _ _ _ _ _ (heap_alloc_new wr _)]; rfl) hlen 94
            have hkk : Kept [] w w' := (HM.out.2.1.trans hk1 (by simp)).grown h3 fun x hx => Or.inr (HM.out.1.block x hx).1
            have HE : Hid (_ ∧ _ ∧ _) := ⟨h2, hkk, by
              show ys ++ [z1 / 72057594037927936 % 256] = xs ++ fz (dg (8 - 7) (z1 / 256 ^ 7))
              rw [hl, hst, List.append_assoc]
              rfl⟩
            obtain ⟨va, vn, vc, rfl⟩ := h2.slice
            have HA : Hid (_) := hr
            clear HM hst ey hr h2 h3 hk1 hkk hl hlen
            go_wp2_with (at_builtin; refine wpList_append_run _ rfl _ _ 94 94 rfl _ _ rfl rfl _ _ HA.out ?_)
            go_roundw
            case rel => exact ⟨7, _, by go_num, by omega, HE.out⟩
            case measure => simp [intOf]
    · have HX : Hid (xs = unp z0 ++ unp z1) := by
        rcases HJ.out.2.2 with ⟨h, -⟩ | ⟨h, -⟩ | ⟨-, h⟩
        · omega
        · omega
        · exact h
      have hcv := conv_str HJ.out.1
      rw [HX.out] at hcv
      have HE : Hid (_) := HJ.out.2.1
      clear HJ HX
      go_wp2_with fail
      go_ret
      exact ⟨rfl, HE.out⟩

end Go.Proofs.YtnbbcbjfejdceaaDoor
