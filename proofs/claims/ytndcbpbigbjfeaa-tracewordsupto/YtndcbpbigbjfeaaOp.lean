/-
  What is handed in: slices of accesses, how large they are.
-/
import Derived.Test.YtndcbpbigbjfeaaAc
import Derived.OpenShut
import Derived.SizedLaws
import Derived.Deep.Grids
namespace Go.Proofs.Ytndcbpbigbjfeaa
open Go.RowKit Go.ChangeShapes Go.WideShapes
set_option linter.unusedVariables false

theorem bulk_pos {H : Type} (d : DataW H) : 1 ≤ Rows.uptoBulk d := by
  cases d with
  | lit l => cases l <;> simp [Rows.uptoBulk]
  | _ => simp [Rows.uptoBulk]

theorem bulk_many {H : Type} (l : List (DataW H)) : l.length ≤ Rows.uptoBulkAll l := by
  induction l with
  | nil => exact Nat.zero_le _
  | cons x l ih =>
    have := bulk_pos x
    simp only [Rows.uptoBulkAll, List.length_cons]; omega

theorem bulk_slice {H : Type} (l r : List (DataW H)) : l.length + 1 ≤ Rows.uptoBulk (.slice l r) := by
  have h1 := bulk_many l
  simp only [Rows.uptoBulk]; omega

theorem small_of {H : Type} {l : List (DataW H)} (hk : Rows.uptoSmall H l = true) : Rows.uptoBulkAll l ≤ 1048576 := of_decide_eq_true hk

theorem open_acc {H : Type} {enc : TypeId × Value → H} {w : World} {base : Nat} {spare : Nat → Bool} {held : Bool} {fuel : Nat} {a : Option Addr} {len cap : Nat} {x : DataW H × List MemPlace}
    (h : DataW.trod enc Try.prog w base spare held fuel 22 [.slice a len cap] = some x) : (∃ X : List (Int × Bool), X.length = len ∧ Al w a X) ∧ ((∀ n ∈ x.1.weights Try.prog 22, n ≤ reachBytes) → len * 16 ≤ reachBytes) ∧ len + 1 ≤ Rows.uptoBulk x.1 := by
  rcases Deep.open_slice Try.underlying22 h with ⟨hcs, rfl⟩ | ⟨a', len', cap', m, n, D, Pl, hcs, hb, hl, hm, hmm, hx0, hx⟩
  · simp at hcs
    obtain ⟨rfl, rfl, rfl⟩ := hcs
    exact ⟨⟨[], rfl, fun i p q hi => by simp at hi⟩, fun _ => by unfold reachBytes; omega, bulk_pos _⟩
  · simp at hcs
    obtain ⟨rfl, rfl, rfl⟩ := hcs
    have hlm : len ≤ m := by rw [hmm]; split <;> omega
    refine ⟨?_, fun hw => ?_, ?_⟩
    · have ce : Try.prog.cellsOf 35 = 2 := by kernel_rfl
      rw [ce] at hx
      have each : ∀ i, i < len → ∃ q : Int × Bool, w.cell? (a'.add (i * 2)) = some (.int .i64 q.1) ∧ w.cell? (a'.add (i * 2 + 1)) = some (.bool q.2) := by
        intro i hi
        obtain ⟨cs', h1, h2⟩ := hx i (by omega)
        obtain ⟨_, hlen, hcell⟩ := World.cells?_some h1
        obtain ⟨xs, k, hk, hxy, _, hxl, hf⟩ := DataW.trod_struct Try.underlying35 h2
        match xs, hxl, cs', hlen with
        | [y0, y1], _, [v0, v1], _ =>
          have g0 := hf 0 _ rfl
          have g1 := hf 1 _ rfl
          simp [show Try.prog.cellsOf 3 = 1 from by kernel_rfl, show Try.prog.cellsOf 4 = 1 from by kernel_rfl] at g0 g1
          have e0 := hcell 0 (by omega)
          have e1 := hcell 1 (by omega)
          rw [Deep.add_add] at e0 e1
          obtain ⟨z0, q0, -, -⟩ := DataW.trod_int Try.underlying3 g0
          obtain ⟨z1, q1, -⟩ := DataW.trod_bool Try.underlying4 g1
          simp at q0 q1 e0 e1
          subst q0 q1
          exact ⟨(z0, z1), e0, e1⟩
      obtain ⟨q, hq⟩ := Deep.choose_lt (α := Int × Bool) each
      refine ⟨(List.range len).map q, by simp, fun i p r hi => ?_⟩
      have hil : i < len := by have := (List.getElem?_eq_some_iff.1 hi).1; simpa using this
      obtain ⟨B, off, spot⟩ := a'
      have hspot : spot = none := by simpa [Addr.add] using World.cell?_spot (hq 0 (by omega)).1
      subst hspot
      have := hq i hil
      simp only [WideShapes.add_plain] at this
      have e : q i = (p, r) := by simpa [hil] using hi
      rw [e] at this
      exact ⟨B, off, rfl, this.1, this.2⟩
    · have h1 := hw ((len + (m - len)) * Try.prog.bytesOf 35) (by
        rw [hx0]
        unfold DataW.weights
        rw [Try.underlying22]
        simp)
      have h2 : Try.prog.bytesOf 35 = 16 := by kernel_rfl
      rw [h2] at h1
      have : len * 16 ≤ (len + (m - len)) * 16 := Nat.mul_le_mul_right _ (by omega)
      omega
    · rw [hx0]
      have := bulk_slice ((List.range len).map D) ((List.range (m - len)).map fun j => D (len + j))
      simpa using this

/-- The accesses of a slice, of a size that there is. -/
def IsActs (w : World) (a : Option Addr) (len : Nat) : Prop := len * 16 ≤ 140737488351232 ∧ ∃ X : List (Int × Bool), X.length = len ∧ Al w a X

theorem acts_at {H : Type} {enc : TypeId × Value → H} {w : World} {base : Nat} {spare : Nat → Bool} {held : Bool} {fuel : Nat} {a : Option Addr} {len cap : Nat} {x : DataW H × List MemPlace}
    (h : DataW.trod enc Try.prog w base spare held fuel 22 [.slice a len cap] = some x) (hw : ∀ n ∈ x.1.weights Try.prog 22, n ≤ reachBytes) : IsActs w a len := by
  obtain ⟨h1, h2, -⟩ := open_acc h
  have := h2 hw
  exact ⟨by simpa [reachBytes] using this, h1⟩

theorem open_ac {H : Type} {enc : TypeId × Value → H} {w : World} {d : DataW H} {p : List MemPlace} {a : Option Addr} {len cap : Nat} (h : DataW.Trod enc Try.prog w 0 (fun _ => true) true 22 (.slice a len cap) d p) :
    len + 1 ≤ Rows.uptoBulk d ∧ ∃ X : List (Int × Bool), X.length = len ∧ Al w a X := by
  obtain ⟨fuel, hf⟩ := h
  obtain ⟨h1, -, h3⟩ := open_acc hf
  exact ⟨h3, h1⟩

end Go.Proofs.Ytndcbpbigbjfeaa
