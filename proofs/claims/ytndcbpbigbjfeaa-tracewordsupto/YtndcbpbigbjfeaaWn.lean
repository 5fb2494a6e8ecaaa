/-
  among, shared; how long the words of two traces are.
-/
import Derived.Test.YtndcbpbigbjfeaaKp
namespace Go.Proofs.Ytndcbpbigbjfeaa
open Go.RowKit
set_option linter.unusedSimpArgs false
set_option linter.unusedVariables false

set_option maxRecDepth 100000 in
set_option maxHeartbeats 1000000 in
theorem among_yes {w : World} {a : Option Addr} {c : Nat} {L : List Int} (h : Rd w (.slice a L.length c) L) (hn : L.length ≤ 4194304) (y : Int) :
    Calls Try.prog 16 #[.slice a L.length c, .int .i64 y] w fun e w' => e = .returned (.bool (decide (y ∈ L))) ∧ Still w w' := by
  have HH : Hid (Rd w (.slice a L.length c) L) := h
  clear h
  go_enter Try.func16, Try.ntmps16
  go_wp2_with fail
  go_loopw [5] (fun i wr => ∃ k : Nat, k ≤ L.length ∧ i = .int .i64 (k : Int) ∧ Hid (wr = w ∧ y ∉ L.take k)) (fun i _ => (L.length - intOf i).toNat)
  case atStart => exact ⟨0, by omega, rfl, rfl, by simp⟩
  case round =>
    obtain ⟨k, hk, rfl, HK⟩ := hrel
    obtain ⟨rfl, hno⟩ := HK.out
    by_cases hlt : k < L.length
    · have k0 : (0 : Int) ≤ (k : Int) := by omega
      have k1 : (k : Int) < (L.length : Int) := by omega
      obtain ⟨-, b, off, rfl, c0⟩ := HH.out.at hlt
      obtain ⟨z, hz⟩ : ∃ z, L[k]? = some z := ⟨L[k], by simp⟩
      have ez : L.getD k 0 = z := by rw [List.getD_eq_getElem?_getD, hz]; rfl
      rw [ez] at c0
      by_cases e : z = y
      · subst e
        have hd : decide (z ∈ L) = true := decide_eq_true (List.mem_of_getElem? hz)
        have t0 : (z == z) = true := by simp
        clear hz ez HK hno
        go_wp2
        go_ret
        exact ⟨by first | rfl | (rw [hd]; rfl), Below.refl _ _⟩
      · have t0 : (z == y) = false := by simp [e]
        have HN : Hid (y ∉ L.take (k + 1)) := by
          show y ∉ _
          rw [List.take_add_one, hz]
          simp [hno, Ne.symm e]
        clear hz ez HK hno
        go_wp2
        go_roundw
        case rel => exact ⟨k + 1, by omega, by go_num, trivial, HN.out⟩
        case measure => simp [intOf]; omega
    · have k1 : ¬ (k : Int) < (L.length : Int) := by omega
      rw [List.take_of_length_le (by omega)] at hno
      have hd : decide (y ∈ L) = false := decide_eq_false hno
      clear hno HK
      go_wp2
      go_ret
      exact ⟨by first | rfl | (rw [hd]; rfl), Below.refl _ _⟩

set_option maxRecDepth 100000 in
set_option maxHeartbeats 1000000 in
theorem shared_yes {w : World} {a b : Option Addr} {c d : Nat} {L M : List Int} (h : Rd w (.slice a L.length c) L) (k : Rd w (.slice b M.length d) M) (hn : L.length ≤ 4194304) (hm : M.length ≤ 4194304) :
    Calls Try.prog 17 #[.slice a L.length c, .slice b M.length d] w fun e w' => e = .returned (.bool (decide (∃ x ∈ L, x ∈ M))) ∧ Still w w' := by
  have HH : Hid (_ ∧ _) := ⟨h, k⟩
  clear h k
  go_enter Try.func17, Try.ntmps17
  go_wp2_with fail
  go_loopw [5] (fun i wr => ∃ k : Nat, k ≤ L.length ∧ i = .int .i64 (k : Int) ∧ Hid (Still w wr ∧ ∀ y ∈ L.take k, y ∉ M)) (fun i _ => (L.length - intOf i).toNat)
  case atStart => exact ⟨0, by omega, rfl, Below.refl _ _, by simp⟩
  case round =>
    obtain ⟨k, hk, rfl, HK⟩ := hrel
    by_cases hlt : k < L.length
    · have k0 : (0 : Int) ≤ (k : Int) := by omega
      have k1 : (k : Int) < (L.length : Int) := by omega
      obtain ⟨-, bb, off, rfl, c0⟩ := (HH.out.1.still HK.out.1).at hlt
      obtain ⟨z, hz⟩ : ∃ z, L[k]? = some z := ⟨L[k], by simp⟩
      have ez : L.getD k 0 = z := by rw [List.getD_eq_getElem?_getD, hz]; rfl
      rw [ez] at c0
      have HZ : Hid (L[k]? = some z) := hz
      clear hz ez
      go_wp2_with fail
      refine (among_yes (c := d) (HH.out.2.still HK.out.1) hm z).mono ?_
      rintro e w1 ⟨rfl, s1⟩
      have S1 : Hid (Still w w1) := HK.out.1.then s1
      clear s1 c0
      by_cases e : z ∈ M
      · have hd : decide (∃ x ∈ L, x ∈ M) = true := decide_eq_true ⟨z, List.mem_of_getElem? HZ.out, e⟩
        rw [show decide (z ∈ M) = true from decide_eq_true e]
        clear e
        go_wp2
        go_ret
        exact ⟨by first | rfl | (rw [hd]; rfl), S1.out⟩
      · have HN : Hid (∀ y ∈ L.take (k + 1), y ∉ M) := by
          intro y hy
          rw [List.take_add_one, HZ.out] at hy
          rcases List.mem_append.1 hy with hy | hy
          · exact HK.out.2 y hy
          · simp at hy; rw [hy]; exact e
        rw [show decide (z ∈ M) = false from decide_eq_false e]
        clear e
        go_wp2
        go_roundw
        case rel => exact ⟨k + 1, by omega, by go_num, S1.out, HN.out⟩
        case measure => simp [intOf]; omega
    · have k1 : ¬ (k : Int) < (L.length : Int) := by omega
      have hd : decide (∃ x ∈ L, x ∈ M) = false := by
        refine decide_eq_false ?_
        rintro ⟨y, h1, h2⟩
        refine HK.out.2 y ?_ h2
        rw [List.take_of_length_le (by omega)]
        exact h1
      go_wp2
      go_ret
      exact ⟨by first | rfl | (rw [hd]; rfl), HK.out.1⟩

theorem run_max (n m : Nat) (w : World) : (Builtin.max_ #[3, 3] 3 #[.int .i64 (n : Int), .int .i64 (m : Int)]).run Try.prog w = .ok (.int .i64 ((max n m : Nat) : Int)) w := by
  have e : (max (n : Int) (m : Int)) = ((max n m : Nat) : Int) := by omega
  rw [← e]
  simp [Builtin.max_, Builtin.max2]
  split <;> omega

theorem filter_rises {L : List Int} (h : Rises L) (p : Int → Bool) : Rises (L.filter p) := List.Pairwise.sublist List.filter_sublist h

theorem filter_split (L : List Int) (p : Int → Bool) : (L.filter p).length + (L.filter fun x => !p x).length = L.length := by
  induction L with
  | nil => rfl
  | cons x L ih =>
    simp only [List.filter_cons]
    cases h : p x <;> simp <;> omega

/-- What two rising lists hold together, by number. -/
theorem union_len {U V W : List Int} (hU : Rises U) (hV : Rises V) (hW : Rises W) (h : ∀ z, z ∈ W ↔ z ∈ U ∨ z ∈ V) :
    W.length + (U.filter fun x => decide (x ∈ V)).length = U.length + V.length := by
  have h1 : W.filter (fun x => decide (x ∈ V)) = V := by
    refine rises_ext (filter_rises hW _) hV fun z => ?_
    rw [List.mem_filter, h z, decide_eq_true_iff]
    exact ⟨fun hh => hh.2, fun hh => ⟨Or.inr hh, hh⟩⟩
  have h2 : W.filter (fun x => !decide (x ∈ V)) = U.filter (fun x => !decide (x ∈ V)) := by
    refine rises_ext (filter_rises hW _) (filter_rises hU _) fun z => ?_
    rw [List.mem_filter, List.mem_filter, h z]
    simp only [Bool.not_eq_true', decide_eq_false_iff_not]
    exact ⟨fun hh => ⟨hh.1.resolve_right hh.2, hh.2⟩, fun hh => ⟨Or.inl hh.1, hh.2⟩⟩
  have e1 := filter_split W fun x => decide (x ∈ V)
  have e2 := filter_split U fun x => decide (x ∈ V)
  rw [h1, h2] at e1
  omega

theorem shared_iff {U V : List Int} : (0 < (U.filter fun x => decide (x ∈ V)).length) ↔ ∃ x ∈ U, x ∈ V := by
  rw [List.length_pos_iff_exists_mem]
  constructor
  · rintro ⟨z, hz⟩
    rw [List.mem_filter, decide_eq_true_iff] at hz
    exact ⟨z, hz.1, hz.2⟩
  · rintro ⟨z, h1, h2⟩
    exact ⟨z, List.mem_filter.2 ⟨h1, by simpa using h2⟩⟩

theorem sub_len {U W : List Int} (hU : Rises U) (hW : Rises W) (h : ∀ z ∈ U, z ∈ W) : U.length ≤ W.length := by
  have e : U = W.filter fun x => decide (x ∈ U) := by
    refine rises_ext hU (filter_rises hW _) fun z => ?_
    rw [List.mem_filter, decide_eq_true_iff]
    exact ⟨fun hh => ⟨h z hh, hh⟩, fun hh => hh.2⟩
  rw [e]
  exact List.length_filter_le ..

theorem mem_both {X Y : List (Int × Bool)} {z : Int} : z ∈ canon (pos allc (X ++ Y)) ↔ z ∈ canon (pos allc X) ∨ z ∈ canon (pos allc Y) := by
  rw [mem_canon_all, mem_canon_all, mem_canon_all]
  simp only [List.mem_append]
  constructor
  · rintro ⟨q, h | h⟩
    · exact Or.inl ⟨q, h⟩
    · exact Or.inr ⟨q, h⟩
  · rintro (⟨q, h⟩ | ⟨q, h⟩)
    · exact ⟨q, Or.inl h⟩
    · exact ⟨q, Or.inr h⟩

end Go.Proofs.Ytndcbpbigbjfeaa
