/-
  strings.Clone; strings.Builder as path.join uses it.
-/
import Derived.Test.YtgfdcnjnkljahaaDoorSr
import Derived.Test.YtgfdcnjnkljahaaDoorBy
import Derived.Lib.LazyBuf
import Derived.Lib.UnsafeStr
import Derived.Lib.Builder
import Derived.Lib.AppendStr
import Derived.Laws.Externs
import Derived.BigRegion
namespace Go.Proofs.YtgfdcnjnkljahaaDoor
open Go.RowKit
set_option linter.unusedVariables false

theorem kept_of_below {w w' : World} (h : Below w.heap.size w w') : Kept [] w w' := ⟨h.os, h.tape, h.output, h.size, fun k hk _ => h.block k hk⟩

theorem shape_setCell (w : World) (a : Addr) (v : Value) (r : Nat) : (w.setCell a v).shape? r = w.shape? r := by
  unfold World.shape? World.setCell
  simp only [Array.getElem?_modify]
  by_cases h : a.block = r
  · subst h
    rw [if_pos rfl]
    cases w.heap[a.block]? with
    | none => rfl
    | some o =>
      cases o with
      | cells c e f => simp only [Option.map_some]; split <;> simp
      | _ => rfl
  · rw [if_neg h]

theorem shape_setCells (b r : Nat) : ∀ (vs : List Value) (o : Nat) (w : World), (w.setCells b o vs).shape? r = w.shape? r
  | [], _, _ => rfl
  | v :: l, o, w => by rw [World.setCells, shape_setCells b r l, shape_setCell]

theorem kept_setCells {w0 : World} {b : Nat} (hb : w0.heap.size ≤ b) : ∀ (vs : List Value) (o : Nat) (w : World), Kept [] w0 w → Kept [] w0 (w.setCells b o vs)
  | [], _, _, h => h
  | v :: l, o, w, h => kept_setCells hb l (o + 1) _ (h.setCell (Or.inr hb) v)

theorem size5 : ∀ w : World, (Go.sizeOf 5).run Tryd.prog w = .ok 1 w := fun w => by kernel_rfl
theorem cells5 : Tryd.prog.cellsOf 5 = 1 := by kernel_rfl

set_option maxRecDepth 100000 in
set_option maxHeartbeats 2000000 in
theorem lite_clone (s : ByteArray) (w : World) (hs : s.size ≤ 140737488351232) :
    Calls Tryd.prog 48 #[.string s] w fun e w' => e = .returned (.string s) ∧ Kept [] w w' := by
  by_cases h0 : s.size = 0
  · have HS : Hid (s = ⟨#[]⟩) := ByteArray.ext (Array.eq_empty_of_size_eq_zero h0)
    have i0 : (s.size : Int) = 0 := by omega
    go_enter Tryd.func48, Tryd.ntmps48
    go_wp2_with fail
    go_ret
    exact ⟨congrArg (fun z => Ending.returned (.string z)) HS.out.symm, Kept.refl _ _⟩
  · have i0 : ¬ (s.size : Int) = 0 := by omega
    have i1 : (0 : Int) < (s.size : Int) := by omega
    have hl : s.data.toList.length = s.size := by simp
    obtain ⟨n, hn⟩ : ∃ n, s.size = n := ⟨_, rfl⟩
    have hmk := make_bytes n (by omega)
    obtain ⟨W1, hW1⟩ : ∃ W1, w.alloc (.cells ((List.replicate n (0 : Int)).map (Value.int .u8)).toArray 5) = W1 := ⟨_, rfl⟩
    have hmk1 := hmk w
    rw [hW1] at hmk1
    have hB := Bs.made (Kept.refl [] w) n
    rw [hW1] at hB
    have hc : ∀ j, j < s.size → (W1.cell? ⟨w.heap.size, 0 + j, none⟩).isSome = true := fun j hj => by
      rw [Nat.zero_add, hB.cell (by simp; omega)]; rfl
    have hcp := run_copy_string (P := Tryd.prog) W1 91 9 3 5 w.heap.size 0 n n s Tryd.underlying91 size5 (by omega) hc (fun j hj => hB.frozen _)
    obtain ⟨W2, hW2⟩ : ∃ W2, W1.setCells w.heap.size 0 (s.data.toList.map fun x => Value.int .u8 (x.toNat : Int)) = W2 := ⟨_, rfl⟩
    rw [hW2] at hcp
    have hsh : W2.shape? w.heap.size = some (5, n) := by
      rw [← hW2, shape_setCells]
      unfold World.shape?
      rw [hB.here]
      simp
    have hus := Lib.run_unsafeString_row (P := Tryd.prog) W2 102 3 9 5 Tryd.underlying102 cells5 w.heap.size n hsh s.data.toList (by intro e; rw [e] at hl; simp at hl; omega) (by omega) (by omega) (fun j x hx => by
      have hj : j < s.size := by
        rcases Nat.lt_or_ge j s.data.toList.length with h | h
        · omega
        · rw [List.getElem?_eq_none h] at hx; cases hx
      have ea : (⟨w.heap.size, 0, none⟩ : Addr).add j = ⟨w.heap.size, 0 + j, none⟩ := by unfold Addr.add; split <;> simp_all
      rw [ea, ← hW2, World.cell?_setCells_in w.heap.size _ 0 W1 (fun i hi => hc i (by simpa using hi)) j (by simpa using hj)]
      congr 1
      rw [List.getElem_map]
      rw [List.getElem?_eq_getElem (by omega)] at hx
      rw [Option.some.inj hx])
    rw [hl, hn] at hus
    rw [hn, show goInt n = .int .i64 (n : Int) from rfl] at hcp
    have es : (⟨s.data.toList.toArray⟩ : ByteArray) = s := rfl
    rw [es] at hus
    obtain ⟨W3, hW3⟩ : ∃ W3, W2.freeze ⟨w.heap.size, 0, none⟩ n = W3 := ⟨_, rfl⟩
    rw [hW3] at hus
    have HK : Hid (Kept [] w W3) := by
      have h2 : Kept [] w W2 := by rw [← hW2]; exact kept_setCells (Nat.le_refl _) _ _ _ hB.kept
      have h3 := Lib.below_freeze (B := w.heap.size) (Kept.below h2 (Nat.le_refl _) (by simp)) (p := ⟨w.heap.size, 0, none⟩) (Nat.le_refl _) n
      rw [hW3] at h3
      exact kept_of_below h3
    rw [hn] at i0 i1
    have hn2 : s.size = n := hn
    have hn63 : n ≤ 9223372036854775807 := by omega
    clear hW1 hW2 hW3 hB hc hsh hmk es hl h0 hn
    go_enter Tryd.func48, Tryd.ntmps48
    go_wp2_with fail
    go_ret
    exact ⟨rfl, HK.out⟩

set_option maxRecDepth 100000 in
set_option maxHeartbeats 2000000 in
theorem s_clone (s : ByteArray) (w : World) (hs : s.size ≤ 140737488351232) :
    Calls Tryd.prog 37 #[.string s] w fun e w' => e = .returned (.string s) ∧ Kept [] w w' := by
  go_enter Tryd.func37, Tryd.ntmps37
  go_wp2_with fail
  refine (lite_clone s _ hs).mono ?_
  rintro e w1 ⟨rfl, hk⟩
  have HK : Hid (_) := hk
  clear hk
  go_wp2_with fail
  go_ret
  exact ⟨rfl, HK.out⟩

end Go.Proofs.YtgfdcnjnkljahaaDoor
