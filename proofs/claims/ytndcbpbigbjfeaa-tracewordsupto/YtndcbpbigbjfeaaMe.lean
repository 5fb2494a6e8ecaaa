/-
  Meet, the program's and the document's.
-/
import Derived.Test.YtndcbpbigbjfeaaAc
namespace Go.Proofs.Ytndcbpbigbjfeaa
open Go.RowKit
set_option linter.unusedSimpArgs false
set_option linter.unusedVariables false

def hit (x y : Int × Bool) : Bool := x.1 == y.1 && (x.2 || y.2)

/-- Is there a place that both have, which one of them writes? -/
def meetB (X Y : List (Int × Bool)) : Bool := X.any fun x => Y.any fun y => hit x y

def allc : Bool → Bool := fun _ => true

theorem mem_canon_all {X : List (Int × Bool)} {z : Int} : z ∈ canon (pos allc X) ↔ ∃ q, (z, q) ∈ X := by
  rw [mem_canon, mem_pos]
  constructor
  · rintro ⟨q, h, -⟩; exact ⟨q, h⟩
  · rintro ⟨q, h⟩; exact ⟨q, h, rfl⟩

theorem mem_canon_wr {X : List (Int × Bool)} {z : Int} : z ∈ canon (pos id X) ↔ (z, true) ∈ X := by
  rw [mem_canon, mem_pos]
  constructor
  · rintro ⟨q, h, e⟩; rw [show q = true from e] at h; exact h
  · intro h; exact ⟨true, h, rfl⟩

theorem meetB_iff {X Y : List (Int × Bool)} : meetB X Y = true ↔ (∃ z ∈ canon (pos id X), z ∈ canon (pos allc Y)) ∨ ∃ z ∈ canon (pos allc X), z ∈ canon (pos id Y) := by
  simp only [meetB, List.any_eq_true, mem_canon_all, mem_canon_wr]
  constructor
  · rintro ⟨⟨p, q⟩, h1, ⟨r, s⟩, h2, h3⟩
    simp only [hit, Bool.and_eq_true, beq_iff_eq, Bool.or_eq_true] at h3
    obtain ⟨rfl, h3⟩ := h3
    rcases h3 with rfl | rfl
    · exact Or.inl ⟨p, h1, s, h2⟩
    · exact Or.inr ⟨p, ⟨q, h1⟩, h2⟩
  · rintro (⟨z, h1, s, h2⟩ | ⟨z, ⟨q, h1⟩, h2⟩)
    · exact ⟨(z, true), h1, (z, s), h2, by simp [hit]⟩
    · exact ⟨(z, q), h1, (z, true), h2, by simp [hit]⟩

theorem meetB_comm (X Y : List (Int × Bool)) : meetB X Y = meetB Y X := by
  rw [Bool.eq_iff_iff, meetB_iff, meetB_iff]
  constructor
  · rintro (⟨z, h1, h2⟩ | ⟨z, h1, h2⟩)
    · exact Or.inr ⟨z, h2, h1⟩
    · exact Or.inl ⟨z, h2, h1⟩
  · rintro (⟨z, h1, h2⟩ | ⟨z, h1, h2⟩)
    · exact Or.inr ⟨z, h2, h1⟩
    · exact Or.inl ⟨z, h2, h1⟩

set_option maxRecDepth 100000 in
set_option maxHeartbeats 1000000 in
theorem p_Meet {w : World} {a b : Option Addr} {c d : Nat} {X Y : List (Int × Bool)} (h : Al w a X) (k : Al w b Y) (hn : X.length * 16 ≤ 140737488355328) (hm : Y.length * 16 ≤ 140737488355328) :
    Calls Try.prog 9 #[.slice a X.length c, .slice b Y.length d] w fun e w' => e = .returned (.bool (meetB X Y)) ∧ Still w w' := by
  have HH : Hid (Al w a X ∧ Al w b Y) := ⟨h, k⟩
  clear h k
  go_enter Try.func9, Try.ntmps9
  go_wp2_with fail
  refine (p_Writes (c := c) HH.out.1 hn).mono ?_
  rintro e w1 ⟨u, rfl, o1, s1⟩
  have H1 : Hid (_ ∧ _) := ⟨o1, s1⟩
  clear o1 s1
  go_wp2_with fail
  refine (p_Words (c := d) (HH.out.2.still H1.out.2) hm).mono ?_
  rintro e w2 ⟨v, rfl, o2, s2⟩
  have H2 : Hid (_ ∧ _) := ⟨o2, H1.out.2.then s2⟩
  have o1' := H1.out.1.still s2
  clear s2 o2
  go_wp2_with fail
  refine (p_share o1'.rd H2.out.1.rd (rises_canon _) (rises_canon _)).mono ?_
  rintro e w3 ⟨rfl, s3⟩
  have H3 : Hid (Still w w3) := H2.out.2.then s3
  clear s3 o1' H1 H2
  by_cases hd : ∃ x ∈ canon (pos id X), x ∈ canon (pos (fun _ => true) Y)
  · have e1 : decide (∃ x ∈ canon (pos id X), x ∈ canon (pos (fun _ => true) Y)) = true := decide_eq_true hd
    have HM : Hid (meetB X Y = true) := meetB_iff.2 (Or.inl hd)
    rw [e1]
    clear hd e1
    go_wp2
    go_ret
    exact ⟨by rw [HM.out]; rfl, H3.out⟩
  · have e1 : decide (∃ x ∈ canon (pos id X), x ∈ canon (pos (fun _ => true) Y)) = false := decide_eq_false hd
    have HM : Hid (meetB X Y = decide (∃ x ∈ canon (pos (fun _ => true) X), x ∈ canon (pos id Y))) := by
      rw [Bool.eq_iff_iff, meetB_iff, decide_eq_true_iff]
      exact ⟨fun hh => hh.resolve_left hd, Or.inr⟩
    rw [e1]
    clear hd e1
    go_wp2_with fail
    refine (p_Words (c := c) (HH.out.1.still H3.out) hn).mono ?_
    rintro e w4 ⟨u, rfl, o1, s1⟩
    have H4 : Hid (_ ∧ _) := ⟨o1, H3.out.then s1⟩
    clear o1 s1
    go_wp2_with fail
    refine (p_Writes (c := d) (HH.out.2.still H4.out.2) hm).mono ?_
    rintro e w5 ⟨v, rfl, o2, s2⟩
    have H5 : Hid (_ ∧ _) := ⟨o2, H4.out.2.then s2⟩
    have o1' := H4.out.1.still s2
    clear s2 o2
    go_wp2_with fail
    refine (p_share o1'.rd H5.out.1.rd (rises_canon _) (rises_canon _)).mono ?_
    rintro e w6 ⟨rfl, s3⟩
    have H6 : Hid (Still w w6) := H5.out.2.then s3
    clear s3 o1'
    rw [← HM.out]
    clear HM
    go_wp2
    go_ret
    exact ⟨rfl, H6.out⟩

theorem any_take {X : List (Int × Bool)} {f : Int × Bool → Bool} {k : Nat} {x : Int × Bool} (h : X[k]? = some x) : (X.take (k + 1)).any f = ((X.take k).any f || f x) := by
  rw [List.take_add_one, h, List.any_append]
  simp

theorem any_of_get {X : List (Int × Bool)} {f : Int × Bool → Bool} {k : Nat} {x : Int × Bool} (h : X[k]? = some x) (hf : f x = true) : X.any f = true := by
  rw [List.any_eq_true]; exact ⟨x, List.mem_of_getElem? h, hf⟩

set_option maxRecDepth 100000 in
set_option maxHeartbeats 4000000 in
theorem r_Meet {w : World} {a b : Option Addr} {c d : Nat} {X Y : List (Int × Bool)} (h : Al w a X) (k : Al w b Y) (hn : X.length * 16 ≤ 140737488355328) (hm : Y.length * 16 ≤ 140737488355328) :
    Calls Try.prog 10 #[.slice a X.length c, .slice b Y.length d] w fun e w' => e = .returned (.bool (meetB X Y)) ∧ Still w w' := by
  have HH : Hid (Al w a X ∧ Al w b Y) := ⟨h, k⟩
  clear h k
  go_enter Try.func10, Try.ntmps10
  go_wp2_with fail
  go_loopw [5] (fun i wr => ∃ n : Nat, n ≤ X.length ∧ i = .int .i64 (n : Int) ∧ Hid (((X.take n).any fun x => Y.any fun y => hit x y) = false ∧ Still w wr)) (fun i _ => (X.length - intOf i).toNat)
  case atStart => exact ⟨0, by omega, rfl, rfl, Below.refl _ _⟩
  case round =>
    obtain ⟨n, hk, rfl, HK⟩ := hrel
    by_cases hlt : n < X.length
    · have k0 : (0 : Int) ≤ (n : Int) := by omega
      have k1 : (n : Int) < (X.length : Int) := by omega
      obtain ⟨⟨p, q⟩, hx⟩ : ∃ x, X[n]? = some x := ⟨X[n], by simp⟩
      have HX : Hid (X[n]? = some (p, q)) := hx
      clear hx
      go_wp2_with fail
      go_loopw [6] (fun i wr => ∃ m : Nat, m ≤ Y.length ∧ i = .int .i64 (m : Int) ∧ Hid ((Y.take m).any (fun y => hit (p, q) y) = false ∧ Still w wr)) (fun i _ => (Y.length - intOf i).toNat)
      case atStart => exact ⟨0, by omega, rfl, rfl, HK.out.2⟩
      case round =>
        obtain ⟨m, hkm, rfl, HM⟩ := hrel
        by_cases hlm : m < Y.length
        · have j0 : (0 : Int) ≤ (m : Int) := by omega
          have j1 : (m : Int) < (Y.length : Int) := by omega
          obtain ⟨⟨r, s⟩, hy⟩ : ∃ x, Y[m]? = some x := ⟨Y[m], by simp⟩
          have HY : Hid (Y[m]? = some (r, s)) := hy
          obtain ⟨b1, o1, rfl, x0, x1⟩ := (HH.out.1.still HM.out.2) n p q HX.out
          obtain ⟨b2, o2, rfl, y0, y1⟩ := (HH.out.2.still HM.out.2) m r s HY.out
          clear hy
          by_cases e : p = r
          · subst e
            have t0 : (p == p) = true := by simp
            cases q with
            | true =>
              have HT : Hid (meetB X Y = true) := any_of_get HX.out (any_of_get HY.out (by simp [hit]))
              go_wp2_with fail
              go_quiet (fail)
              go_wp2
              go_ret
              exact ⟨by rw [HT.out]; rfl, Below.drewN HM.out.2 _⟩
            | false =>
              cases s with
              | true =>
                have HT : Hid (meetB X Y = true) := any_of_get HX.out (any_of_get HY.out (by simp [hit]))
                go_wp2_with fail
                go_quiet (fail)
                go_wp2
                go_ret
                exact ⟨by rw [HT.out]; rfl, Below.drewN HM.out.2 _⟩
              | false =>
                go_wp2_with fail
                go_quiet (fail)
                go_wp2
                go_roundw
                case rel => exact ⟨m + 1, by omega, by go_num, by rw [any_take HY.out, HM.out.1]; simp [hit], Below.drewN HM.out.2 _⟩
                case measure => simp [intOf]; omega
          · have t0 : (p == r) = false := by simp [e]
            go_wp2_with fail
            go_quiet (fail)
            go_wp2
            go_roundw
            case rel => exact ⟨m + 1, by omega, by go_num, by rw [any_take HY.out, HM.out.1]; simp [hit, e], Below.drewN HM.out.2 _⟩
            case measure => simp [intOf]; omega
        · have j1 : ¬ (m : Int) < (Y.length : Int) := by omega
          have e : Y.take m = Y := List.take_of_length_le (by omega)
          rw [e] at HM
          go_wp2
          go_roundw
          case rel => exact ⟨n + 1, by omega, by go_num, by rw [any_take HX.out, HK.out.1, HM.out.1]; rfl, HM.out.2⟩
          case measure => simp [intOf]; omega
    · have k1 : ¬ (n : Int) < (X.length : Int) := by omega
      have e : X.take n = X := List.take_of_length_le (by omega)
      rw [e] at HK
      have HT : Hid (meetB X Y = false) := HK.out.1
      go_wp2
      go_ret
      exact ⟨by rw [HT.out]; rfl, HK.out.2⟩

end Go.Proofs.Ytndcbpbigbjfeaa
