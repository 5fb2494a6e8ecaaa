/-
  Words, Writes: the places of a trace.
-/
import Derived.Test.YtndcbpbigbjfeaaTm
import Derived.Test.YtndcbpbigbjfeaaTa
namespace Go.Proofs.Ytndcbpbigbjfeaa
open Go.RowKit
set_option linter.unusedSimpArgs false
set_option linter.unusedVariables false

/-- The accesses of a slice: where, and whether written. -/
def Al (w : World) (a : Option Addr) (X : List (Int × Bool)) : Prop :=
  ∀ (i : Nat) (p : Int) (q : Bool), X[i]? = some (p, q) → ∃ b off, a = some ⟨b, off, none⟩ ∧ w.cell? ⟨b, off + i * 2, none⟩ = some (.int .i64 p) ∧ w.cell? ⟨b, off + i * 2 + 1, none⟩ = some (.bool q)

theorem Al.still {w w' : World} {a : Option Addr} {X : List (Int × Bool)} (h : Al w a X) (k : Still w w') : Al w' a X := fun i p q hi => by
  obtain ⟨b, off, h1, h2, h3⟩ := h i p q hi
  exact ⟨b, off, h1, cell_still k h2, cell_still k h3⟩

/-- The places of those that count. -/
def pos (cnt : Bool → Bool) (X : List (Int × Bool)) : List Int := (X.filter fun x => cnt x.2).map Prod.fst

theorem pos_append (cnt : Bool → Bool) (X Y : List (Int × Bool)) : pos cnt (X ++ Y) = pos cnt X ++ pos cnt Y := by simp [pos]

theorem pos_len (cnt : Bool → Bool) (X : List (Int × Bool)) : (pos cnt X).length ≤ X.length := by
  unfold pos; rw [List.length_map]; exact List.length_filter_le ..

theorem mem_pos {cnt : Bool → Bool} {X : List (Int × Bool)} {z : Int} : z ∈ pos cnt X ↔ ∃ q, (z, q) ∈ X ∧ cnt q = true := by
  unfold pos
  simp only [List.mem_map, List.mem_filter]
  constructor
  · rintro ⟨⟨p, q⟩, ⟨h1, h2⟩, rfl⟩; exact ⟨q, h1, h2⟩
  · rintro ⟨q, h1, h2⟩; exact ⟨(z, q), ⟨h1, h2⟩, rfl⟩

theorem take_succ {X : List (Int × Bool)} {k : Nat} {p : Int} {q : Bool} (h : X[k]? = some (p, q)) : X.take (k + 1) = X.take k ++ [(p, q)] := by
  rw [List.take_add_one, h]; rfl

set_option maxRecDepth 100000 in
theorem p_all1 (w : World) (p : Int) (q : Bool) : Calls Try.prog 21 #[.agg #[.int .i64 p, .bool q]] w fun e w' => e = .returned (.bool true) ∧ Still w w' := by
  go_enter Try.func21, Try.ntmps21
  go_wp2
  go_ret
  exact ⟨rfl, (Below.refl _ _).alloc (Nat.le_refl _) _⟩

set_option maxRecDepth 100000 in
theorem p_writes1 (w : World) (p : Int) (q : Bool) : Calls Try.prog 22 #[.agg #[.int .i64 p, .bool q]] w fun e w' => e = .returned (.bool q) ∧ Still w w' := by
  go_enter Try.func22, Try.ntmps22
  go_wp2
  go_ret
  exact ⟨rfl, (Below.refl _ _).alloc (Nat.le_refl _) _⟩

set_option maxRecDepth 100000 in
set_option maxHeartbeats 4000000 in
theorem p_places {w : World} {a : Option Addr} {c : Nat} {X : List (Int × Bool)} (h : Al w a X) (F : FuncId) (cnt : Bool → Bool)
    (hcall : ∀ args w, (callFunc F args).run Try.prog w = .ok (.enter F args) w)
    (hwork : ∀ (w : World) (p : Int) (q : Bool), Calls Try.prog F #[.agg #[.int .i64 p, .bool q]] w fun e w' => e = .returned (.bool (cnt q)) ∧ Still w w') (hn : X.length * 16 ≤ 140737488355328) :
    Calls Try.prog 20 #[.slice a X.length c, .func (.func F) #[] #[]] w fun e w' => ∃ r, e = .returned r ∧ Own w' w.heap.size r (canon (pos cnt X)) ∧ Still w w' := by
  have HA : Hid (Al w a X) := h
  have HW : Hid (∀ (w : World) (p : Int) (q : Bool), Calls Try.prog F #[.agg #[.int .i64 p, .bool q]] w fun e w' => e = .returned (.bool (cnt q)) ∧ Still w w') := hwork
  have H0 : Hid (St w (w.alloc (.cells #[.slice none 0 0] 40)) w.heap.size (.slice none 0 0) [] []) :=
    ⟨(Below.refl _ _).alloc (Nat.le_refl _) _, Nat.le_refl _, heap_alloc_new w _, World.ownsRow_nil _ _ _ _, by simp, by simp⟩
  clear h hwork
  go_enter Try.func20, Try.ntmps20
  go_wp2_with fail
  go_loopw [10] (fun i wr => ∃ (k : Nat) (v : Value) (vs : List Value) (R : List (List Int)), k ≤ X.length ∧ i = .int .i64 (k : Int) ∧ Hid (St w wr w.heap.size v vs R ∧ Inv R (pos cnt (X.take k)))) (fun i _ => (X.length - intOf i).toNat)
  case atStart => exact ⟨0, _, _, _, Nat.zero_le _, rfl, H0.out, Inv.nil⟩
  case round =>
    clear H0
    obtain ⟨k, v, vs, R, hk, rfl, HJ⟩ := hrel
    by_cases hlt : k < X.length
    · have i0 : (0 : Int) ≤ (k : Int) := by omega
      have i1 : (k : Int) < (X.length : Int) := by omega
      obtain ⟨⟨p, q⟩, hx⟩ : ∃ x, X[k]? = some x := ⟨X[k], by simp⟩
      obtain ⟨b, off, rfl, d0, d1⟩ := (HA.out.still HJ.out.1.below) k p q hx
      have hp := pos_len cnt (X.take k)
      rw [List.length_take] at hp
      have HX : Hid (X.take (k + 1) = X.take k ++ [(p, q)]) := take_succ hx
      clear hx
      go_wp2_with fail
      refine (HW.out _ _ _).mono ?_
      rintro e w2 ⟨rfl, hs2⟩
      have hal : Still wr (wr.alloc (.cells #[.int .i64 p, .bool q] 35)) := (Below.refl _ _).alloc (Nat.le_refl _) _
      have d2 : w2.cell? ⟨wr.heap.size, 0, none⟩ = some (.int .i64 p) := by
        refine cell_still hs2 ?_
        have e := heap_alloc_new wr (.cells #[.int .i64 p, .bool q] 35)
        simp only [World.cell?, e]; rfl
      have H2 : Hid (St w w2 w.heap.size v vs R ∧ Inv R (pos cnt (X.take k))) := ⟨HJ.out.1.still (hal.then hs2), HJ.out.2⟩
      clear hs2 hal d0 d1 HJ
      cases hq : cnt q with
      | true =>
        have HQ : Hid (pos cnt (X.take (k + 1)) = pos cnt (X.take k) ++ [p]) := by
          rw [HX.out, pos_append]
          show _ = _
          simp [pos, hq]
        clear hq HX
        go_wp2_with fail
        refine (p_take H2.out.1 H2.out.2 p (by omega)).mono ?_
        rintro e w3 ⟨rfl, v', vs', R', h1, h2⟩
        rw [← HQ.out] at h2
        have H3 : Hid (_ ∧ _) := ⟨h1, h2⟩
        clear h1 h2 d2
        go_wp2
        go_roundw
        case rel => exact ⟨k + 1, _, _, _, by omega, by go_num, H3.out.1, H3.out.2⟩
        case measure => simp [intOf]; omega
      | false =>
        have HQ : Hid (pos cnt (X.take (k + 1)) = pos cnt (X.take k)) := by
          rw [HX.out, pos_append]
          show _ = _
          simp [pos, hq]
        clear hq HX
        go_wp2
        go_roundw
        case rel => exact ⟨k + 1, _, _, _, by omega, by go_num, H2.out.1, by rw [HQ.out]; exact H2.out.2⟩
        case measure => simp [intOf]; omega
    · have i1 : ¬ (k : Int) < (X.length : Int) := by omega
      have hp := pos_len cnt X
      have e : X.take k = X := List.take_of_length_le (by omega)
      rw [e] at HJ
      go_wp2_with fail
      refine (p_all HJ.out.1 HJ.out.2 (by omega)).mono ?_
      rintro e w3 ⟨r, rfl, h1, h2⟩
      have HF : Hid (_ ∧ _) := ⟨h1.mono HJ.out.1.below.size, Still.trans HJ.out.1.below h2 HJ.out.1.below.size⟩
      clear h1 h2
      go_wp2_with fail
      go_ret
      exact ⟨_, rfl, HF.out⟩

set_option maxRecDepth 100000 in
theorem p_Words {w : World} {a : Option Addr} {c : Nat} {X : List (Int × Bool)} (h : Al w a X) (hn : X.length * 16 ≤ 140737488355328) :
    Calls Try.prog 7 #[.slice a X.length c] w fun e w' => ∃ r, e = .returned r ∧ Own w' w.heap.size r (canon (pos (fun _ => true) X)) ∧ Still w w' := by
  go_enter Try.func7, Try.ntmps7
  go_wp2_with fail
  refine (p_places h 21 (fun _ => true) (fun _ _ => by unfold callFunc; rfl) (fun w p q => p_all1 w p q) hn).mono ?_
  rintro e w1 ⟨r, rfl, h1⟩
  go_wp2_with fail
  go_ret
  exact ⟨_, rfl, h1⟩

set_option maxRecDepth 100000 in
theorem p_Writes {w : World} {a : Option Addr} {c : Nat} {X : List (Int × Bool)} (h : Al w a X) (hn : X.length * 16 ≤ 140737488355328) :
    Calls Try.prog 8 #[.slice a X.length c] w fun e w' => ∃ r, e = .returned r ∧ Own w' w.heap.size r (canon (pos id X)) ∧ Still w w' := by
  go_enter Try.func8, Try.ntmps8
  go_wp2_with fail
  refine (p_places h 22 id (fun _ _ => by unfold callFunc; rfl) (fun w p q => p_writes1 w p q) hn).mono ?_
  rintro e w1 ⟨r, rfl, h1⟩
  go_wp2_with fail
  go_ret
  exact ⟨_, rfl, h1⟩

end Go.Proofs.Ytndcbpbigbjfeaa
