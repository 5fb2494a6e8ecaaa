/-
  Rows of bytes of a call's own; strings.Clone.
-/
import Derived.Test.YtlecpeofjabndaaSa
import Derived.Laws.BytesArg
import Derived.Laws.Rows
import Derived.Laws.MakeOwn
import Derived.Lib.LazyBuf
import Derived.Lib.UnsafeStr
import Derived.Laws.Externs
import Derived.BigRegion
namespace Go.Proofs.Ytlecpeofjabndaa
open Go.RowKit Go.Lib
set_option linter.unusedVariables false

/-! ### Rows of bytes -/

/-- A row of bytes of the call's own. -/
structure Bs (w0 W : World) (B : Nat) (xs : List Int) : Prop where
  kept : Kept [] w0 W
  new : w0.heap.size ≤ B
  here : W.heap[B]? = some (.cells (xs.map (Value.int .u8)).toArray 5 (0, 0))

theorem Bs.cell {w0 W : World} {B : Nat} {xs : List Int} (h : Bs w0 W B xs) {i : Nat} (hi : i < xs.length) : W.cell? ⟨B, i, none⟩ = some (.int .u8 (xs.getD i 0)) := by
  simp [World.cell?, h.here, hi]

theorem Bs.frozen {w0 W : World} {B : Nat} {xs : List Int} (h : Bs w0 W B xs) (i : Nat) : W.frozen? ⟨B, i, none⟩ = false := by
  simp [World.frozen?, h.here]

theorem Bs.set {w0 W : World} {B : Nat} {xs : List Int} (h : Bs w0 W B xs) (i : Nat) (v : Int) : Bs w0 (W.setCell ⟨B, i, none⟩ (.int .u8 v)) B (xs.set i v) := by
  refine ⟨h.kept.setCell (Or.inr h.new) _, h.new, ?_⟩
  rw [heap_setCell_same W B i _ 5 _ h.here]
  simp [List.map_set]

theorem Bs.turn {w0 W W' : World} {B : Nat} {xs : List Int} (h : Bs w0 W B xs) (k : Kept [] W W') : Bs w0 W' B xs :=
  ⟨h.kept.trans k (by simp), h.new, (k.block B (lt_of_heap h.here) (by simp)).trans h.here⟩

theorem Bs.conv {w0 W : World} {B : Nat} {xs : List Int} (h : Bs w0 W B xs) (n : Nat) (hn : xs.length = n) (c : Nat) : (convert 78 9 (.slice (some ⟨B, 0, none⟩) n c)).run Try.prog W = .ok (.string (strOfNums xs)) W :=
  run_convert_bytes_arg (P := Try.prog) W 78 5 Try.underlying78 Try.underlying5 B 0 n c xs hn (fun i hi => by rw [Nat.zero_add]; exact h.cell (by omega)) 9 Try.underlying9

theorem info5 : (Try.prog.info? 5).map (fun i => (i.zero, i.size, i.bytes)) = some (some (.int .u8 0), 1, 1) := by kernel_rfl

theorem make_bytes (n : Nat) (h : n ≤ 140737488351232) (w : World) : (Instr.makeSlice 78 (.int .i64 (n : Int)) (.int .i64 (n : Int))).run Try.prog w = .ok (.slice (some ⟨w.heap.size, 0, none⟩) n n) (w.alloc (.cells ((List.replicate n (0 : Int)).map (Value.int .u8)).toArray 5)) := by
  obtain ⟨i0, hi, hx⟩ : ∃ i0, Try.prog.info? 5 = some i0 ∧ (i0.zero, i0.size, i0.bytes) = (some (Value.int .u8 0), 1, 1) := by
    cases hi : Try.prog.info? 5 with
    | none => have := info5; rw [hi] at this; cases this
    | some i0 => have := info5; rw [hi] at this; exact ⟨i0, rfl, Option.some.inj this⟩
  obtain ⟨hz0, hz1, hz2⟩ : i0.zero = some (Value.int .u8 0) ∧ i0.size = 1 ∧ i0.bytes = 1 := by simpa using hx
  have := run_make (P := Try.prog) w 78 5 i0 (.int .u8 0) Try.underlying78 hi hz0 .i64 .i64 n n (by omega) (by omega) (by rw [hz2]; omega) (by omega)
  rw [this]
  have e : madeCells (Value.int .u8 0).cells ((n : Int).toNat * i0.size) = ((List.replicate n (0 : Int)).map (Value.int .u8)).toArray := by
    apply Array.ext'
    rw [hz1]
    simp [toList_madeCells_one, Value.cells]
  rw [e]
  simp

theorem Bs.made {w0 w : World} (h : Kept [] w0 w) (n : Nat) : Bs w0 (w.alloc (.cells ((List.replicate n (0 : Int)).map (Value.int .u8)).toArray 5)) w.heap.size (List.replicate n 0) :=
  ⟨h.alloc _, h.size, by show (w.heap.push _)[w.heap.size]? = _; simp⟩

theorem kept_of_below {w w' : World} (h : Below w.heap.size w w') : Kept [] w w' := ⟨h.os, h.tape, h.output, h.size, fun k hk _ => h.block k hk⟩

theorem shape_setCell (w : World) (a : Addr) (v : Value) (r : Nat) : (w.setCell a v).shape? r = w.shape? r := by
  unfold World.shape? World.setCell
  simp only [Array.getElem?_modify]
  by_cases h : a.block = r
  · subst h
    rw [if_pos rfl]
    cases w.heap[a.block]? with
    | none => rfl
    | some o =>
      cases o with
      | cells c e f => simp only [Option.map_some]; split <;> simp
      | _ => rfl
  · rw [if_neg h]

theorem shape_setCells (b r : Nat) : ∀ (vs : List Value) (o : Nat) (w : World), (w.setCells b o vs).shape? r = w.shape? r
  | [], _, _ => rfl
  | v :: l, o, w => by rw [World.setCells, shape_setCells b r l, shape_setCell]

theorem kept_setCells {w0 : World} {b : Nat} (hb : w0.heap.size ≤ b) : ∀ (vs : List Value) (o : Nat) (w : World), Kept [] w0 w → Kept [] w0 (w.setCells b o vs)
  | [], _, _, h => h
  | v :: l, o, w, h => kept_setCells hb l (o + 1) _ (h.setCell (Or.inr hb) v)

theorem size5 : ∀ w : World, (Go.sizeOf 5).run Try.prog w = .ok 1 w := fun w => by kernel_rfl
theorem cells5 : Try.prog.cellsOf 5 = 1 := by kernel_rfl

set_option maxRecDepth 100000 in
set_option maxHeartbeats 2000000 in
theorem lite_clone (s : ByteArray) (w : World) (hs : s.size ≤ 140737488351232) :
    Calls Try.prog 36 #[.string s] w fun e w' => e = .returned (.string s) ∧ Kept [] w w' := by
  by_cases h0 : s.size = 0
  · have HS : Hid (s = ⟨#[]⟩) := ByteArray.ext (Array.eq_empty_of_size_eq_zero h0)
    have i0 : (s.size : Int) = 0 := by omega
    go_enter Try.func36, Try.ntmps36
    go_wp2_with fail
    go_ret
    exact ⟨congrArg (fun z => Ending.returned (.string z)) HS.out.symm, Kept.refl _ _⟩
  · have i0 : ¬ (s.size : Int) = 0 := by omega
    have i1 : (0 : Int) < (s.size : Int) := by omega
    have hl : s.data.toList.length = s.size := by simp
    obtain ⟨n, hn⟩ : ∃ n, s.size = n := ⟨_, rfl⟩
    have hmk := make_bytes n (by omega)
    obtain ⟨W1, hW1⟩ : ∃ W1, w.alloc (.cells ((List.replicate n (0 : Int)).map (Value.int .u8)).toArray 5) = W1 := ⟨_, rfl⟩
    have hmk1 := hmk w
    rw [hW1] at hmk1
    have hB := Bs.made (Kept.refl [] w) n
    rw [hW1] at hB
    have hc : ∀ j, j < s.size → (W1.cell? ⟨w.heap.size, 0 + j, none⟩).isSome = true := fun j hj => by
      rw [Nat.zero_add, hB.cell (by simp; omega)]; rfl
    have hcp := run_copy_string (P := Try.prog) W1 78 9 3 5 w.heap.size 0 n n s Try.underlying78 size5 (by omega) hc (fun j hj => hB.frozen _)
    obtain ⟨W2, hW2⟩ : ∃ W2, W1.setCells w.heap.size 0 (s.data.toList.map fun x => Value.int .u8 (x.toNat : Int)) = W2 := ⟨_, rfl⟩
    rw [hW2] at hcp
    have hsh : W2.shape? w.heap.size = some (5, n) := by
      rw [← hW2, shape_setCells]
      unfold World.shape?
      rw [hB.here]
      simp
    have hus := Lib.run_unsafeString_row (P := Try.prog) W2 79 3 9 5 Try.underlying79 cells5 w.heap.size n hsh s.data.toList (by intro e; rw [e] at hl; simp at hl; omega) (by omega) (by omega) (fun j x hx => by
      have hj : j < s.size := by
        rcases Nat.lt_or_ge j s.data.toList.length with h | h
        · omega
        · rw [List.getElem?_eq_none h] at hx; cases hx
      have ea : (⟨w.heap.size, 0, none⟩ : Addr).add j = ⟨w.heap.size, 0 + j, none⟩ := by unfold Addr.add; split <;> simp_all
      rw [ea, ← hW2, World.cell?_setCells_in w.heap.size _ 0 W1 (fun i hi => hc i (by simpa using hi)) j (by simpa using hj)]
      congr 1
      rw [List.getElem_map]
      rw [List.getElem?_eq_getElem (by omega)] at hx
      rw [Option.some.inj hx])
    rw [hl, hn] at hus
    rw [hn, show goInt n = .int .i64 (n : Int) from rfl] at hcp
    have es : (⟨s.data.toList.toArray⟩ : ByteArray) = s := rfl
    rw [es] at hus
    obtain ⟨W3, hW3⟩ : ∃ W3, W2.freeze ⟨w.heap.size, 0, none⟩ n = W3 := ⟨_, rfl⟩
    rw [hW3] at hus
    have HK : Hid (Kept [] w W3) := by
      have h2 : Kept [] w W2 := by rw [← hW2]; exact kept_setCells (Nat.le_refl _) _ _ _ hB.kept
      have h3 := Lib.below_freeze (B := w.heap.size) (Kept.below h2 (Nat.le_refl _) (by simp)) (p := ⟨w.heap.size, 0, none⟩) (Nat.le_refl _) n
      rw [hW3] at h3
      exact kept_of_below h3
    rw [hn] at i0 i1
    have hn2 : s.size = n := hn
    have hn63 : n ≤ 9223372036854775807 := by omega
    clear hW1 hW2 hW3 hB hc hsh hmk es hl h0 hn
    go_enter Try.func36, Try.ntmps36
    go_wp2_with fail
    go_ret
    exact ⟨rfl, HK.out⟩

set_option maxRecDepth 100000 in
set_option maxHeartbeats 2000000 in
theorem s_clone (s : ByteArray) (w : World) (hs : s.size ≤ 140737488351232) :
    Calls Try.prog 34 #[.string s] w fun e w' => e = .returned (.string s) ∧ Kept [] w w' := by
  go_enter Try.func34, Try.ntmps34
  go_wp2_with fail
  refine (lite_clone s _ hs).mono ?_
  rintro e w1 ⟨rfl, hk⟩
  have HK : Hid (_) := hk
  clear hk
  go_wp2_with fail
  go_ret
  exact ⟨rfl, HK.out⟩

end Go.Proofs.Ytlecpeofjabndaa
