/-
  How a state lies in blocks; findings held against one another.
-/
import Derived.Test.YtgfdcnjnkljahaaDoorZn
namespace Go.Proofs.YtgfdcnjnkljahaaDoor
open Go.RowKit Go.Lib Go.Maps
set_option linter.unusedVariables false
set_option linter.unusedSimpArgs false

theorem flatg {α : Type} (f : α → List Value) (k : Nat) (hf : ∀ a, (f a).length = k) : ∀ (L : List α) (i : Nat) (hi : i < L.length) (j : Nat), j < k → (L.flatMap f)[i * k + j]? = (f L[i])[j]? := by
  intro L
  induction L with
  | nil => intro i hi; simp at hi
  | cons a L ih =>
    intro i hi j hj
    rw [List.flatMap_cons]
    cases i with
    | zero => rw [List.getElem?_append_left (by rw [hf]; omega)]; simp
    | succ i =>
      rw [List.getElem?_append_right (by rw [hf]; rw [Nat.add_mul]; omega), hf]
      have := ih i (by simpa using hi) j hj
      rw [show (i + 1) * k + j - k = i * k + j by rw [Nat.add_mul]; omega, this]
      simp

/-- Entries as cells. -/
def ecl (E : List En) : Array Value := (E.flatMap fun e => [.string e.1, .int .i64 e.2]).toArray

/-- Descriptors as cells. -/
def dcl (D : List Ds) : Array Value := (D.flatMap fun d => [.int .i64 d.1, .int .i64 d.2.1, .int .i64 d.2.2]).toArray

/-- Inodes as cells: of each where its entries lie. -/
def ncl (L : List (Ino × Option Addr × Nat)) : Array Value := (L.flatMap fun x => [.int .i64 x.1.num, .bool x.1.dir, .slice x.2.1 x.1.ents.length x.2.2, .string x.1.data]).toArray

theorem ent_of {w : World} {A : Nat} {E : List En} {t : TypeId} {z : Nat × Nat} (h : w.heap[A]? = some (.cells (ecl E) t z)) : EntA w (some ⟨A, 0, none⟩) E := fun i hi => by
  have g := fun j hj => flatg (fun e : En => [Value.string e.1, Value.int .i64 e.2]) 2 (fun _ => rfl) E i hi j hj
  refine ⟨A, 0, rfl, ?_, ?_⟩
  · rw [cellB h, Nat.zero_add]; have := g 0 (by omega); unfold ecl; simpa using this
  · rw [cellB h, Nat.zero_add]; have := g 1 (by omega); unfold ecl; simpa using this

theorem des_of {w : World} {A : Nat} {D : List Ds} {t : TypeId} {z : Nat × Nat} (h : w.heap[A]? = some (.cells (dcl D) t z)) : DesA w (some ⟨A, 0, none⟩) D := fun i hi => by
  have g := fun j hj => flatg (fun d : Ds => [Value.int .i64 d.1, Value.int .i64 d.2.1, Value.int .i64 d.2.2]) 3 (fun _ => rfl) D i hi j hj
  refine ⟨A, 0, rfl, ?_, ?_, ?_⟩
  · rw [cellB h, Nat.zero_add]; have := g 0 (by omega); unfold dcl; simpa using this
  · rw [cellB h, Nat.zero_add]; have := g 1 (by omega); unfold dcl; simpa using this
  · rw [cellB h, Nat.zero_add]; have := g 2 (by omega); unfold dcl; simpa using this

theorem int_of {w : World} {A : Nat} {M : List Int} {t : TypeId} {z : Nat × Nat} (h : w.heap[A]? = some (.cells (icl M) t z)) : IntA w (some ⟨A, 0, none⟩) M := fun i hi => by
  refine ⟨A, 0, rfl, ?_⟩
  rw [cellB h, Nat.zero_add, icl_get hi]
  simp [hi]

theorem ino_of {w : World} {A : Nat} {L : List (Ino × Option Addr × Nat)} {t : TypeId} {z : Nat × Nat} (h : w.heap[A]? = some (.cells (ncl L) t z)) (he : ∀ x ∈ L, EntA w x.2.1 x.1.ents ∧ x.1.ents.length ≤ x.2.2) : InoA w (some ⟨A, 0, none⟩) (L.map (·.1)) := fun i hi => by
  have hi' : i < L.length := by simpa using hi
  have g := fun j hj => flatg (fun x : Ino × Option Addr × Nat => [Value.int .i64 x.1.num, Value.bool x.1.dir, Value.slice x.2.1 x.1.ents.length x.2.2, Value.string x.1.data]) 4 (fun _ => rfl) L i hi' j hj
  have hm := he L[i] (List.getElem_mem hi')
  have e : (L.map (·.1))[i] = (L[i]).1 := by simp
  refine ⟨A, 0, (L[i]).2.1, (L[i]).2.2, rfl, ?_, ?_, ?_, ?_, ?_, ?_, trivial⟩
  · rw [cellB h, Nat.zero_add, e]; have := g 0 (by omega); unfold ncl; simpa using this
  · rw [cellB h, Nat.zero_add, e]; have := g 1 (by omega); unfold ncl; simpa using this
  · rw [cellB h, Nat.zero_add, e]; have := g 2 (by omega); unfold ncl; simpa using this
  · rw [cellB h, Nat.zero_add, e]; have := g 3 (by omega); unfold ncl; simpa using this
  · rw [e]; exact hm.1
  · rw [e]; exact hm.2

theorem ent_nil (w : World) (a : Option Addr) : EntA w a [] := fun i hi => by simp at hi

/-- Findings from an address on. -/
def FiA (w : World) (a : Option Addr) (M : List Fi) : Prop :=
  ∀ i (hi : i < M.length), ∃ g, a = some ⟨g, 0, none⟩ ∧ w.cell? ⟨g, i * 3, none⟩ = some (.int .i64 (M[i]).kind) ∧ w.cell? ⟨g, i * 3 + 1, none⟩ = some (.int .i64 (M[i]).num) ∧ w.cell? ⟨g, i * 3 + 2, none⟩ = some (.string (M[i]).name)

theorem FiA.kept {w w' : World} {a : Option Addr} {M : List Fi} (h : FiA w a M) (k : Kept [] w w') : FiA w' a M := fun i hi => by
  obtain ⟨g, e, h1, h2, h3⟩ := h i hi
  exact ⟨g, e, k.cell h1 (by simp), k.cell h2 (by simp), k.cell h3 (by simp)⟩

theorem Fr.fia {H : Nat} {w : World} {v : Value} {M : List Fi} (h : Fr H w v M) : ∃ a cap, v = .slice a M.length cap ∧ FiA w a M := by
  obtain ⟨a, cap, e, -, hs⟩ := h.slice
  exact ⟨a, cap, e, fun i hi => by obtain ⟨g, e1, h1, h2, h3, -⟩ := hs i hi; exact ⟨g, e1, h1, h2, h3⟩⟩

theorem fia_of {w : World} {A : Nat} {M : List Fi} {t : TypeId} {z : Nat × Nat} (h : w.heap[A]? = some (.cells (fcs M).toArray t z)) : FiA w (some ⟨A, 0, none⟩) M := fun i hi => by
  have g := fun j hj => fcs_get M i M[i] (List.getElem?_eq_getElem hi) j hj
  refine ⟨A, rfl, ?_, ?_, ?_⟩
  · rw [cellB h]; have := g 0 (by omega); simpa using this
  · rw [cellB h]; have := g 1 (by omega); simpa using this
  · rw [cellB h]; have := g 2 (by omega); simpa using this

set_option maxRecDepth 100000 in
set_option maxHeartbeats 4000000 in
/-- Equal rows are the same. -/
theorem same_F {w : World} {M : List Fi} {a b : Option Addr} (c d : Nat) (hl : M.length ≤ 100000) (h1 : FiA w a M) (h2 : FiA w b M) :
    Calls Tryd.prog 10 #[.slice a M.length c, .slice b M.length d] w fun e w' => e = .returned (.bool true) ∧ Kept [] w w' := by
  have H1 : Hid (FiA w a M) := h1
  have H2 : Hid (FiA w b M) := h2
  clear h1 h2
  have b0 : ((M.length : Int) != (M.length : Int)) = false := by simp
  go_enter Tryd.func10, Tryd.ntmps10
  go_wp2_with fail
  go_loopw [5] (fun ix wr => ∃ (j : Nat), ix = .int .i64 (j : Int) ∧ j ≤ M.length ∧ Hid (Kept [] w wr)) (fun ix _ => (M.length - intOf ix).toNat)
  case atStart => exact ⟨0, rfl, by omega, Kept.refl _ _⟩
  case round =>
    obtain ⟨j, rfl, hj, HK⟩ := hrel
    by_cases hlt : j < M.length
    · obtain ⟨g, rfl, p0, p1, p2⟩ := (H1.out.kept HK.out) j hlt
      obtain ⟨g', rfl, q0, q1, q2⟩ := (H2.out.kept HK.out) j hlt
      obtain ⟨y, hy⟩ : ∃ y, y = M[j] := ⟨_, rfl⟩
      rw [← hy] at p0 p1 p2 q0 q1 q2
      have hq : ∀ W : World, (binOp .neq 42 (.agg #[.int .i64 y.kind, .int .i64 y.num, .string y.name]) (.agg #[.int .i64 y.kind, .int .i64 y.num, .string y.name])).run Tryd.prog W = .ok (.bool false) W := fun W => by rw [show (Value.agg #[.int .i64 y.kind, .int .i64 y.num, .string y.name]) = y.v from rfl, neq_fi y y W]; simp
      have j0 : (0 : Int) ≤ (j : Int) := by omega
      have j1 : (j : Int) < (M.length : Int) := by omega
      clear hy
      go_upto_region 6 with fail
      go_quiet (fail)
      have HK2 : Hid (Kept [] w (wr.drewN nq)) := HK.out.drewN _
      clear p0 p1 p2 q0 q1 q2 hq
      go_wp2_with fail
      go_roundw
      case rel => exact ⟨j + 1, by go_num, by omega, HK2.out⟩
      case measure => simp [intOf]; omega
    · have j1 : ¬ (j : Int) < (M.length : Int) := by omega
      go_wp2_with fail
      go_ret
      exact ⟨rfl, HK.out⟩

end Go.Proofs.YtgfdcnjnkljahaaDoor
