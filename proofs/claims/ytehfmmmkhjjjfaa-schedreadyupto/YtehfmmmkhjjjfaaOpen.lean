/-
  What is handed in: slices of bools, of ints, of slices of bools, and how large they are.
-/
import Derived.Test.YtehfmmmkhjjjfaaBase
import Derived.OpenShut
import Derived.Deep.Grids
namespace Go.Proofs.Ytehfmmmkhjjjfaa
open Go.ChangeShapes Go.WideShapes Go.Deep
set_option linter.unusedVariables false

theorem cell_plain {w : World} {a : Addr} {n : Nat} {V : Nat → Value} (h : ∀ i, i < n → w.cell? (a.add i) = some (V i)) (hp : 0 < n) : ∃ b off, a = ⟨b, off, none⟩ ∧ ∀ j, j < n → w.cell? ⟨b, off + j, none⟩ = some (V j) := by
  obtain ⟨b, off, spot⟩ := a
  have hspot : spot = none := by simpa [Addr.add] using World.cell?_spot (h 0 hp)
  subst hspot
  exact ⟨b, off, rfl, fun j hj => by rw [← Go.WideShapes.add_plain]; exact h j hj⟩

theorem bulk_pos {H : Type} (d : DataW H) : 1 ≤ Rows.uptoBulk d := by
  cases d with
  | lit l => cases l <;> simp [Rows.uptoBulk]
  | _ => simp [Rows.uptoBulk]

theorem bulk_mem {H : Type} {d : DataW H} {l : List (DataW H)} (h : d ∈ l) : Rows.uptoBulk d ≤ Rows.uptoBulkAll l := by
  induction l with
  | nil => cases h
  | cons x l ih =>
    rcases List.mem_cons.1 h with rfl | h2
    · simp only [Rows.uptoBulkAll]; omega
    · have := ih h2
      simp only [Rows.uptoBulkAll]; omega

theorem bulk_many {H : Type} (l : List (DataW H)) : l.length ≤ Rows.uptoBulkAll l := by
  induction l with
  | nil => exact Nat.zero_le _
  | cons x l ih =>
    have := bulk_pos x
    simp only [Rows.uptoBulkAll, List.length_cons]; omega

theorem bulk_slice {H : Type} (l r : List (DataW H)) : l.length + 1 ≤ Rows.uptoBulk (.slice l r) ∧ ∀ d ∈ l, Rows.uptoBulk d ≤ Rows.uptoBulk (.slice l r) := by
  have h1 := bulk_many l
  refine ⟨by simp only [Rows.uptoBulk]; omega, fun d hd => ?_⟩
  have := bulk_mem hd
  simp only [Rows.uptoBulk]; omega

theorem small_of {H : Type} {l : List (DataW H)} (hk : Rows.uptoSmall H l = true) : Rows.uptoBulkAll l ≤ 1048576 := of_decide_eq_true hk

section
variable {H : Type} {enc : TypeId × Value → H} {w : World} {d : DataW H} {p : List MemPlace} {a : Option Addr} {len cap : Nat}

theorem open_bl (h : DataW.Trod enc Try.prog w 0 (fun _ => true) true 22 (.slice a len cap) d p) : len + 1 ≤ Rows.uptoBulk d ∧ ∃ B, Bl w a len B := by
  obtain ⟨fuel, hf⟩ := h
  rcases open_bools Try.underlying22 Try.underlying4 (by kernel_rfl) hf with ⟨hcs, hx⟩ | ⟨x, l, c, B, hcs, _, hl, hm, hx, hcell⟩
  · simp [Value.cells] at hcs
    obtain ⟨rfl, rfl, rfl⟩ := hcs
    exact ⟨bulk_pos d, fun _ => false, fun i hi => by omega⟩
  · simp [Value.cells] at hcs
    obtain ⟨rfl, rfl, rfl⟩ := hcs
    simp only [Prod.mk.injEq] at hx
    obtain ⟨rfl, -⟩ := hx
    refine ⟨?_, B, fun i hi => ?_⟩
    · have := (bulk_slice ((List.range len).map fun i => (DataW.lit (H := H) (.bool (B i)))) ((List.range (cap - len)).map fun j => .lit (.bool (B (len + j))))).1
      simpa [boolRow] using this
    · obtain ⟨b, off, rfl, hc⟩ := cell_plain (n := cap) hcell (by omega)
      exact ⟨b, off, rfl, hc i (by omega)⟩

theorem open_il (h : DataW.Trod enc Try.prog w 0 (fun _ => true) true 23 (.slice a len cap) d p) : len + 1 ≤ Rows.uptoBulk d ∧ ∃ Z, Il w a len Z := by
  obtain ⟨fuel, hf⟩ := h
  rcases open_ints Try.underlying23 Try.underlying3 (by kernel_rfl) hf with ⟨hcs, hx⟩ | ⟨x, l, c, zs, hcs, _, hl, hm, hz, hx, hcell, hwz⟩
  · simp [Value.cells] at hcs
    obtain ⟨rfl, rfl, rfl⟩ := hcs
    exact ⟨bulk_pos d, fun _ => 0, fun i hi => by omega⟩
  · simp [Value.cells] at hcs
    obtain ⟨rfl, rfl, rfl⟩ := hcs
    simp only [Prod.mk.injEq] at hx
    obtain ⟨rfl, -⟩ := hx
    have hz2 : zs.length = cap := by simpa using hz
    refine ⟨?_, fun i => zs.getD i 0, fun i hi => ?_⟩
    · have := (bulk_slice (lits (H := H) .i64 (zs.take len)) (lits .i64 (zs.drop len))).1
      have e : (lits (H := H) .i64 (zs.take len)).length = len := by simp [lits]; omega
      omega
    · obtain ⟨b, off, rfl, hc⟩ := cell_plain (n := zs.length) hcell (by omega)
      exact ⟨b, off, rfl, hc i (by omega)⟩

theorem open_gr (h : DataW.Trod enc Try.prog w 0 (fun _ => true) true 32 (.slice a len cap) d p) : len + 1 ≤ Rows.uptoBulk d ∧ ∃ L B, Gr w a len L B ∧ ∀ r, r < len → L r + 1 ≤ Rows.uptoBulk d := by
  obtain ⟨fuel, hf⟩ := h
  rcases open_bool_rows Try.underlying32 Try.underlying22 Try.underlying4 (by kernel_rfl) (by kernel_rfl) hf with ⟨hcs, hx⟩ | ⟨x, l, c, A, L, C, B, hcs, _, hl, hm, hx, hcell⟩
  · simp [Value.cells] at hcs
    obtain ⟨rfl, rfl, rfl⟩ := hcs
    exact ⟨bulk_pos d, fun _ => 0, fun _ _ => false, fun i hi => by omega, fun i hi => by omega⟩
  · simp [Value.cells] at hcs
    obtain ⟨rfl, rfl, rfl⟩ := hcs
    simp only [Prod.mk.injEq] at hx
    obtain ⟨rfl, -⟩ := hx
    have hb := bulk_slice ((List.range len).map fun r => boolRow (H := H) (A r) (L r) (C r) (B r)) ((List.range (cap - len)).map fun j => boolRow (A (len + j)) (L (len + j)) (C (len + j)) (B (len + j)))
    refine ⟨by simpa using hb.1, L, B, fun r hr => ?_, fun r hr => ?_⟩
    · obtain ⟨b, off, rfl, hc⟩ := cell_plain (n := cap) (fun i hi => (hcell i hi).1) (by omega)
      obtain ⟨_, h1, h2, h3, h4⟩ := hcell r (by omega)
      refine ⟨b, off, A r, C r, rfl, hc r (by omega), fun i hi => ?_⟩
      cases hA : A r with
      | none => have := h3 hA; omega
      | some a' =>
        obtain ⟨_, h5⟩ := h4 a' hA
        obtain ⟨b', off', rfl, hc'⟩ := cell_plain (n := C r) h5 (by omega)
        exact ⟨b', off', rfl, hc' i (by omega)⟩
    · have h1 := hb.2 _ (List.mem_map.2 ⟨r, List.mem_range.2 hr, rfl⟩)
      have h2 : L r + 1 ≤ Rows.uptoBulk (boolRow (H := H) (A r) (L r) (C r) (B r)) := by
        cases hA : A r with
        | none =>
          obtain ⟨_, h1, _, h3, _⟩ := hcell r (by omega)
          have := h3 hA
          simp [boolRow, Rows.uptoBulk]; omega
        | some a' =>
          have := (bulk_slice ((List.range (L r)).map fun i => (DataW.lit (H := H) (.bool (B r i)))) ((List.range (C r - L r)).map fun j => .lit (.bool (B r (L r + j))))).1
          simpa [boolRow] using this
      omega

end
end Go.Proofs.Ytehfmmmkhjjjfaa
