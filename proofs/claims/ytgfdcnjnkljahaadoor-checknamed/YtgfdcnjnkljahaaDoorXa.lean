/-
  Findings, told plainly; how two are held against one another.
-/
import Derived.Test.YtgfdcnjnkljahaaDoorSd
import Derived.Lib.Bytealg
import Derived.Laws.Externs
import Derived.Deep.RegionHeld3
import Derived.Deep.CutRange
import Derived.Deep.CutBlock
namespace Go.Proofs.YtgfdcnjnkljahaaDoor
open Go.RowKit Go.Lib
set_option linter.unusedVariables false

/-- A finding: kind, number, name. -/
structure Fi where
  kind : Int
  num : Int
  name : ByteArray
  deriving DecidableEq

/-- Its value. -/
@[reducible] def Fi.v (f : Fi) : Value := .agg #[.int .i64 f.kind, .int .i64 f.num, .string f.name]

/-- What strings.Compare answers. -/
def cmpB (a b : ByteArray) : Int := Lib.compareBytes a.data.toList b.data.toList

/-- What cmp.Compare answers of numbers. -/
def cmpI (a b : Int) : Int := if a < b then -1 else if b < a then 1 else 0

/-- Two findings. -/
def cmpF (f g : Fi) : Int :=
  if cmpI f.kind g.kind ≠ 0 then cmpI f.kind g.kind else if cmpI f.num g.num ≠ 0 then cmpI f.num g.num else cmpB f.name g.name

theorem s_compareString (a b : ByteArray) (w : World) :
    Calls Tryd.prog 92 #[.string a, .string b] w fun e w' => e = .returned (.int .i64 (cmpB a b)) ∧ w' = w := by
  go_enter Tryd.func92, Tryd.ntmps92
  go_wp2
  rw [run_callFunc_extern Tryd.func93 (by kernel_rfl) (by kernel_rfl) (by kernel_rfl) (e := Extern.BytealgCompare.compare) (by kernel_rfl), Lib.run_compareString]
  simp only [Result.andThen]
  rw [Oper.upon_value]
  go_wp2
  go_ret
  exact ⟨rfl, rfl⟩

theorem s_compare (a b : ByteArray) (w : World) :
    Calls Tryd.prog 90 #[.string a, .string b] w fun e w' => e = .returned (.int .i64 (cmpB a b)) ∧ w' = w := by
  go_enter Tryd.func90, Tryd.ntmps90
  go_wp2_with fail
  refine (s_compareString a b _).mono ?_
  rintro e w' ⟨rfl, rfl⟩
  go_wp2_with fail
  go_ret
  exact ⟨rfl, rfl⟩

theorem c_nan (a : Int) (w : World) : Calls Tryd.prog 91 #[.int .i64 a] w fun e w' => e = .returned (.bool false) ∧ w' = w := by
  go_enter Tryd.func91, Tryd.ntmps91
  go_wp2
  go_ret
  exact ⟨rfl, rfl⟩

theorem c_compare (a b : Int) (w : World) : Calls Tryd.prog 89 #[.int .i64 a, .int .i64 b] w fun e w' => e = .returned (.int .i64 (cmpI a b)) ∧ w' = w := by
  go_enter Tryd.func89, Tryd.ntmps89
  go_wp2_with fail
  refine (c_nan a _).mono ?_
  rintro e w' ⟨rfl, rfl⟩
  go_wp2_with fail
  refine (c_nan b _).mono ?_
  rintro e w' ⟨rfl, rfl⟩
  by_cases h1 : a < b
  · have HR : Hid (cmpI a b = -1) := by show _ = _; rw [cmpI, if_pos h1]
    go_wp2_with fail
    go_ret
    exact ⟨by rw [HR.out]; rfl, rfl⟩
  · by_cases h2 : b < a
    · have HR : Hid (cmpI a b = 1) := by show _ = _; rw [cmpI, if_neg h1, if_pos h2]
      go_wp2_with fail
      go_ret
      exact ⟨by rw [HR.out]; rfl, rfl⟩
    · have HR : Hid (cmpI a b = 0) := by show _ = _; rw [cmpI, if_neg h1, if_neg h2]
      go_wp2_with fail
      go_ret
      exact ⟨by rw [HR.out]; rfl, rfl⟩

/-- The first of three numbers that is not 0. -/
def or3 (a b c : Int) : Int := if a ≠ 0 then a else if b ≠ 0 then b else c

set_option maxRecDepth 100000 in
set_option maxHeartbeats 1000000 in
theorem c_or (a b c : Int) (g : Nat) (w : World) (h0 : w.cell? ⟨g, 0, none⟩ = some (.int .i64 a)) (h1 : w.cell? ⟨g, 1, none⟩ = some (.int .i64 b)) (h2 : w.cell? ⟨g, 2, none⟩ = some (.int .i64 c)) :
    Calls Tryd.prog 88 #[.slice (some ⟨g, 0, none⟩) 3 3] w fun e w' => e = .returned (.int .i64 (or3 a b c)) ∧ w' = w := by
  have hall : ∀ k : Nat, k < 3 → w.cell? ⟨g, k, none⟩ = some (.int .i64 ([a, b, c].getD k 0)) := by
    intro k hk
    have : k = 0 ∨ k = 1 ∨ k = 2 := by omega
    rcases this with rfl | rfl | rfl
    · simpa using h0
    · simpa using h1
    · simpa using h2
  clear h0 h1 h2
  have HA : Hid (∀ k : Nat, k < 3 → w.cell? ⟨g, k, none⟩ = some (.int .i64 ([a, b, c].getD k 0))) := hall
  clear hall
  go_enter Tryd.func88, Tryd.ntmps88
  go_wp2_with fail
  go_loopw [8] (fun i wr => ∃ k : Nat, i = .int .i64 (k : Int) ∧ k ≤ 3 ∧ wr = w ∧ ∀ j, j < k → [a, b, c].getD j 0 = 0) (fun i _ => (3 - intOf i).toNat)
  case atStart => exact ⟨0, rfl, by omega, rfl, fun j hj => by omega⟩
  case round =>
    obtain ⟨k, rfl, hk, rfl, hz⟩ := hrel
    have HZ : Hid (∀ j, j < k → [a, b, c].getD j 0 = 0) := hz
    clear hz
    by_cases hlt : k < 3
    · have i0 : (0 : Int) ≤ (k : Int) := by omega
      have i1 : (k : Int) < 3 := by omega
      have c1 := HA.out k hlt
      obtain ⟨x, hx⟩ : ∃ x, x = [a, b, c].getD k 0 := ⟨_, rfl⟩
      rw [← hx] at c1
      have HX : Hid (x = [a, b, c].getD k 0) := hx
      clear hx
      by_cases hx0 : x = 0
      · subst hx0
        go_wp2_with fail
        go_roundw
        case rel => exact ⟨k + 1, by go_num, by omega, by trivial, fun j hj => by
          rcases Nat.lt_or_ge j k with h | h
          · exact HZ.out j h
          · have : j = k := by omega
            subst this; exact HX.out.symm⟩
        case measure => simp [intOf]; omega
      · have b1 : (x != 0) = true := by simpa using hx0
        go_wp2_with fail
        go_ret
        refine ⟨?_, rfl⟩
        have hor : or3 a b c = x := by
          have : k = 0 ∨ k = 1 ∨ k = 2 := by omega
          rcases this with rfl | rfl | rfl
          · have e : x = a := HX.out
            unfold or3; rw [if_pos (by rw [← e]; exact hx0), e]
          · have e : x = b := HX.out
            have e0 : a = 0 := HZ.out 0 (by omega)
            unfold or3; rw [if_neg (by simp [e0]), if_pos (by rw [← e]; exact hx0), e]
          · have e : x = c := HX.out
            have e0 : a = 0 := HZ.out 0 (by omega)
            have e1 : b = 0 := HZ.out 1 (by omega)
            unfold or3; rw [if_neg (by simp [e0]), if_neg (by simp [e1]), e]
        rw [hor]; rfl
    · have i1 : ¬ (k : Int) < 3 := by omega
      have e3 : k = 3 := by omega
      go_wp2_with fail
      go_ret
      refine ⟨?_, rfl⟩
      have e0 : a = 0 := HZ.out 0 (by omega)
      have e1 : b = 0 := HZ.out 1 (by omega)
      have e2 : c = 0 := HZ.out 2 (by omega)
      simp [or3, e0, e1, e2]

theorem or_cmp (f g : Fi) : or3 (cmpI f.kind g.kind) (cmpI f.num g.num) (cmpB f.name g.name) = cmpF f g := rfl

/-- Two findings, each in a box. -/
theorem two_boxes (w : World) (A B : Array Value) (t u : TypeId) : ∃ U X, Hid ((w.alloc (.cells A t (0, 0))).alloc (.cells B u (0, 0)) = U ∧ w.heap.size = X) ∧ Kept [] w U ∧ U.heap[X]? = some (.cells A t (0, 0)) ∧ U.heap[X + 1]? = some (.cells B u (0, 0)) := by
  have k1 := (Kept.refl [] w).alloc (.cells A t (0, 0))
  have k2 := (Kept.refl [] (w.alloc (.cells A t (0, 0)))).alloc (.cells B u (0, 0))
  have e1 : (w.alloc (.cells A t (0, 0))).heap.size = w.heap.size + 1 := by simp
  refine ⟨_, _, ⟨rfl, rfl⟩, k1.trans k2 (by simp), ?_, ?_⟩
  · rw [k2.block w.heap.size (by omega) (by simp)]; exact Go.heap_alloc_new _ _
  · rw [← e1]; exact Go.heap_alloc_new _ _

set_option maxRecDepth 100000 in
set_option maxHeartbeats 4000000 in
theorem x_compare (f g : Fi) (w : World) : Calls Tryd.prog 87 #[f.v, g.v] w fun e w' => e = .returned (.int .i64 (cmpF f g)) ∧ Kept [] w w' := by
  obtain ⟨U, X, HU, ku, b1, b2⟩ := two_boxes w #[.int .i64 f.kind, .int .i64 f.num, .string f.name] #[.int .i64 g.kind, .int .i64 g.num, .string g.name] 42 42
  have HK : Hid (Kept [] w U) := ku
  have HC : Hid (U.cell? ⟨X, 0, none⟩ = some (.int .i64 f.kind) ∧ U.cell? ⟨X, 1, none⟩ = some (.int .i64 f.num) ∧ U.cell? ⟨X, 2, none⟩ = some (.string f.name) ∧ U.cell? ⟨X + 1, 0, none⟩ = some (.int .i64 g.kind) ∧ U.cell? ⟨X + 1, 1, none⟩ = some (.int .i64 g.num) ∧ U.cell? ⟨X + 1, 2, none⟩ = some (.string g.name)) := ⟨cellB b1, cellB b1, cellB b1, cellB b2, cellB b2, cellB b2⟩
  have HS : Hid (∀ w' : World, Kept [] U w' → Kept [] U w' ∧ w'.cell? ⟨X, 0, none⟩ = some (.int .i64 f.kind) ∧ w'.cell? ⟨X, 1, none⟩ = some (.int .i64 f.num) ∧ w'.cell? ⟨X, 2, none⟩ = some (.string f.name) ∧ w'.cell? ⟨X + 1, 0, none⟩ = some (.int .i64 g.kind) ∧ w'.cell? ⟨X + 1, 1, none⟩ = some (.int .i64 g.num) ∧ w'.cell? ⟨X + 1, 2, none⟩ = some (.string g.name)) := fun w' k => ⟨k, k.cell HC.out.1 (by simp), k.cell HC.out.2.1 (by simp), k.cell HC.out.2.2.1 (by simp), k.cell HC.out.2.2.2.1 (by simp), k.cell HC.out.2.2.2.2.1 (by simp), k.cell HC.out.2.2.2.2.2 (by simp)⟩
  clear ku b1 b2 HC
  go_enter Tryd.func87, Tryd.ntmps87
  go_upto_region 1 with fail
  rw [HU.out.1, HU.out.2]
  clear HU
  go_region_held3 (fun w' => Kept [] U w' ∧ w'.cell? ⟨X, 0, none⟩ = some (.int .i64 f.kind) ∧ w'.cell? ⟨X, 1, none⟩ = some (.int .i64 f.num) ∧ w'.cell? ⟨X, 2, none⟩ = some (.string f.name) ∧ w'.cell? ⟨X + 1, 0, none⟩ = some (.int .i64 g.kind) ∧ w'.cell? ⟨X + 1, 1, none⟩ = some (.int .i64 g.num) ∧ w'.cell? ⟨X + 1, 2, none⟩ = some (.string g.name)) (first | exact HS.out _ (Kept.refl _ _).drew | exact HS.out _ (Kept.alloc (And.left (by assumption)) _) | go_keep)
    (first
      | (go_at_call 89; refine (c_compare _ _ _).mono ?_; rintro e w5 ⟨rfl, rfl⟩)
      | (go_at_call 90; refine (s_compare _ _ _).mono ?_; rintro e w5 ⟨rfl, rfl⟩)
      | (go_at_call 88; refine (c_or _ _ _ _ _ (cell_new _ _ _ 0) (cell_new _ _ _ 1) (cell_new _ _ _ 2)).mono ?_; rintro e w5 ⟨rfl, rfl⟩))
  go_wp2_with fail
  go_ret
  exact ⟨rfl, HK.out.drew.alloc _⟩

end Go.Proofs.YtgfdcnjnkljahaaDoor
