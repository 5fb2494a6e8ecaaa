/-
  A count that came to 0 is told dead behind two epochs more, one that did not never.
-/
import Derived.Test.YtljmpcmkgeomiaaRows
import Derived.Test.YtljmpcmkgeomiaaRm
import Derived.WalkKit
import Derived.ProofKit
import Derived.OpenShut
import Derived.ShutString
import Derived.ChangeOld
import Derived.Below
import Derived.Deep.Slices
namespace Go.Proofs.Ytljmpcmkgeomiaa.refsDies
open Go.ChangeShapes Go.WideShapes Go.ChangeAt Go.RowKit
open Go.ChangeMaps (open_string shut_string)
set_option linter.unusedVariables false

theorem own : ownKnob Try.prog.godebug = none := by kernel_rfl
theorem laidOut : laidOutB Try.prog = true := by kernel_rfl

theorem i64_and1 (n : Int) : bits .and .i64 n 1 = n % 2 := by
  have h1 : (BitVec.ofInt 64 1).toNat = 2 ^ 1 - 1 := by decide
  have key : (BitVec.ofInt 64 n &&& BitVec.ofInt 64 1).toNat = (n % ((2 ^ 64 : Nat) : Int)).toNat % 2 ^ 1 := by
    rw [BitVec.toNat_and, BitVec.toNat_ofInt, h1, Nat.and_two_pow_sub_one_eq_mod]
  show IntKind.i64.wrap ((BitVec.ofInt 64 n &&& BitVec.ofInt 64 1).toNat : Nat) = n % 2
  rw [key, IntKind.wrap_i64]
  omega

theorem run_min (n m : Nat) (w : World) : (Builtin.min_ #[3, 3] 3 #[.int .i64 (n : Int), .int .i64 (m : Int)]).run Try.prog w = .ok (.int .i64 ((min n m : Nat) : Int)) w := by
  have e : (if m < n then (m : Int) else (n : Int)) = ((min n m : Nat) : Int) := by
    split <;> omega
  simp [Builtin.min_, Builtin.min2]
  exact e

theorem one_own (w : World) : Own (w.alloc (.cells #[.int .i64 0] 3)) 0 (.slice (some ⟨w.heap.size, 0, none⟩) 1 1) [0] := by
  refine Od.own (D := [(w.heap.size, .cells #[.int .i64 0] 3 (0, 0))]) (Or.inr ⟨w.heap.size, 1, #[.int .i64 0], rfl, rfl, by omega, by simp, by unfold maxLen; omega, rfl, rfl⟩) fun x hx => ?_
  rw [List.mem_singleton] at hx
  subst hx
  exact heap_alloc_new w _

theorem flush_epoch (m : Mo) (n k c : Nat) : (m.flush n k c).epoch ≤ m.epoch + 1 := by
  unfold Mo.flush
  split
  · exact Nat.le_refl _
  · exact Nat.le_succ _

/-- Both of two cores flush, of whom none had. -/
theorem two (m : Mo) (a b : Nat) (hab : (a = 0 ∧ b = 1) ∨ (a = 1 ∧ b = 0)) (f0 : m.flu 0 = false) (f1 : m.flu 1 = false) (hs : ∀ o, o < 2 → -1000 ≤ m.glob o ∧ m.glob o ≤ 1000 ∧ -1000 ≤ m.parts 0 o ∧ m.parts 0 o ≤ 1000 ∧ -1000 ≤ m.parts 1 o ∧ m.parts 1 o ≤ 1000) :
    ∃ m', (m.flush 2 2 a).flush 2 2 b = m' ∧ m'.epoch = m.epoch + 1 ∧ m'.flu 0 = false ∧ m'.flu 1 = false ∧ m'.ever = m.ever ∧ ∀ o, o < 2 → m'.parts 0 o = 0 ∧ m'.parts 1 o = 0 ∧ m'.glob o = m.glob o + m.parts 0 o + m.parts 1 o ∧ m'.added o = false ∧ (m'.zero o = true ↔ m.glob o + m.parts 0 o + m.parts 1 o = 0) ∧ (m'.dead o = true ↔ m.dead o = true ∨ (m.zero o = true ∧ m.added o = false ∧ m.parts 0 o = 0 ∧ m.parts 1 o = 0 ∧ m.glob o + m.parts 0 o + m.parts 1 o = 0 ∧ m.ever o = true)) := by
  have ha : ¬ (m.flushed a 2).all 2 := fun h => by
    rcases hab with ⟨rfl, rfl⟩ | ⟨rfl, rfl⟩
    · have := h 1 (by omega); simp [Mo.flushed, f1] at this
    · have := h 0 (by omega); simp [Mo.flushed, f0] at this
  have hb : ((m.flushed a 2).flushed b 2).all 2 := fun c hc => by
    rcases hab with ⟨rfl, rfl⟩ | ⟨rfl, rfl⟩
    · obtain rfl | rfl : c = 0 ∨ c = 1 := by omega
      · simp [Mo.flushed]
      · simp [Mo.flushed]
    · obtain rfl | rfl : c = 0 ∨ c = 1 := by omega
      · simp [Mo.flushed]
      · simp [Mo.flushed]
  refine ⟨_, rfl, ?_⟩
  have e1 : m.flush 2 2 a = m.flushed a 2 := if_neg ha
  have e2 : (m.flushed a 2).flush 2 2 b = ((m.flushed a 2).flushed b 2).ended 2 2 := if_pos hb
  rw [e1, e2]
  refine ⟨rfl, rfl, rfl, rfl, fun o ho => ?_⟩
  obtain ⟨g0, g1, p0, p1, q0, q1⟩ := hs o ho
  have hg : ((m.flushed a 2).flushed b 2).glob o = m.glob o + m.parts 0 o + m.parts 1 o ∧ (((m.flushed a 2).flushed b 2).added o = true ↔ m.added o = true ∨ m.parts 0 o ≠ 0 ∨ m.parts 1 o ≠ 0) ∧ ((m.flushed a 2).flushed b 2).parts 0 o = 0 ∧ ((m.flushed a 2).flushed b 2).parts 1 o = 0 := by
    rcases hab with ⟨rfl, rfl⟩ | ⟨rfl, rfl⟩
    · simp only [Mo.flushed, Mo.gather, ho, true_and, and_true, if_true]
      by_cases z0 : m.parts 0 o = 0 <;> by_cases z1 : m.parts 1 o = 0 <;> simp [z0, z1, wrap64] <;> omega
    · simp only [Mo.flushed, Mo.gather, ho, true_and, and_true, if_true]
      by_cases z0 : m.parts 0 o = 0 <;> by_cases z1 : m.parts 1 o = 0 <;> simp [z0, z1, wrap64] <;> omega
  obtain ⟨h1, h2, h3, h4⟩ := hg
  have hz : ((m.flushed a 2).flushed b 2).zero = m.zero := rfl
  have hd : ((m.flushed a 2).flushed b 2).dead = m.dead := rfl
  have hv : ((m.flushed a 2).flushed b 2).ever = m.ever := rfl
  generalize (m.flushed a 2).flushed b 2 = M at *
  refine ⟨h3, h4, h1, ?_, ?_, ?_⟩
  · simp [Mo.ended, Mo.look, ho]
  · simp [Mo.ended, Mo.look, ho, h1]
  · simp only [Mo.ended, Mo.look, ho, true_and, hz, hd, hv, h1]
    cases ha : M.added o <;> cases ha2 : m.added o <;> cases m.dead o <;> cases m.zero o <;> cases m.ever o <;> simp_all <;> (intros; omega)

/-- Behind i rounds of counting up. -/
structure D1 (i : Nat) (m : Mo) : Prop where
  p00 : m.parts 0 0 = (((i + 1) / 2 : Nat) : Int)
  p10 : m.parts 1 0 = ((i / 2 : Nat) : Int)
  p01 : m.parts 0 1 = (i : Int)
  p11 : m.parts 1 1 = 0
  g0 : m.glob 0 = 0
  g1 : m.glob 1 = 0
  f0 : m.flu 0 = false
  f1 : m.flu 1 = false
  d0 : m.dead 0 = false
  d1 : m.dead 1 = false
  z0 : m.zero 0 = false
  z1 : m.zero 1 = false
  e0 : 1 ≤ i → m.ever 0 = true
  ep : m.epoch = 0

theorem D1.start : D1 0 Mo.none := ⟨rfl, rfl, rfl, rfl, rfl, rfl, rfl, rfl, rfl, rfl, rfl, rfl, fun h => by omega, rfl⟩

theorem wrap_inc (i : Nat) (h : i ≤ 100) : wrap64 ((i : Int) + 1) = ((i + 1 : Nat) : Int) := by rw [wrap_small _ (by omega) (by omega)]; rfl

theorem D1.next {i : Nat} {m : Mo} (h : D1 i m) (hi : i ≤ 20) : D1 (i + 1) ((m.count (i % 2) 0 1).count 0 1 1) := by
  obtain ⟨h1, h2, h3, h4, h5, h6, h7, h8, h9, h10, h11, h12, h13, h14⟩ := h
  rcases Nat.mod_two_eq_zero_or_one i with e | e
  · rw [e]
    refine ⟨?_, ?_, ?_, ?_, h5, h6, h7, h8, h9, h10, h11, h12, fun _ => by simp [Mo.count], h14⟩
    · simp only [Mo.count]; simp [h1]; rw [wrap_small _ (by omega) (by omega)]; omega
    · simp only [Mo.count]; simp [h2]; omega
    · simp only [Mo.count]; simp [h3]; rw [wrap_small _ (by omega) (by omega)]
    · simp only [Mo.count]; simp [h4]
  · rw [e]
    refine ⟨?_, ?_, ?_, ?_, h5, h6, h7, h8, h9, h10, h11, h12, fun _ => by simp [Mo.count], h14⟩
    · simp only [Mo.count]; simp [h1]; omega
    · simp only [Mo.count]; simp [h2]; rw [wrap_small _ (by omega) (by omega)]; omega
    · simp only [Mo.count]; simp [h3]; rw [wrap_small _ (by omega) (by omega)]
    · simp only [Mo.count]; simp [h4]

/-- Behind the first epoch, j times counted down. -/
structure D2 (K j : Nat) (m : Mo) : Prop where
  p00 : m.parts 0 0 = 0
  p10 : m.parts 1 0 = -(j : Int)
  p01 : m.parts 0 1 = 0
  p11 : m.parts 1 1 = 0
  g0 : m.glob 0 = (K : Int)
  g1 : m.glob 1 = (K : Int)
  f0 : m.flu 0 = false
  f1 : m.flu 1 = false
  d0 : m.dead 0 = false
  d1 : m.dead 1 = false
  z0 : m.zero 0 = false
  z1 : m.zero 1 = false
  e0 : m.ever 0 = true
  ep : m.epoch = 1

theorem D1.flush {K : Nat} {m : Mo} (h : D1 K m) (h1 : 1 ≤ K) (h2 : K ≤ 20) : D2 K 0 ((m.flush 2 2 0).flush 2 2 1) := by
  obtain ⟨m', e, h3, h4, h5, h6, h7⟩ := two m 0 1 (Or.inl ⟨rfl, rfl⟩) h.f0 h.f1 (fun o ho => by
    obtain rfl | rfl : o = 0 ∨ o = 1 := by omega
    · rw [h.g0, h.p00, h.p10]; omega
    · rw [h.g1, h.p01, h.p11]; omega)
  rw [e]
  obtain ⟨a1, a2, a3, a4, a5, a6⟩ := h7 0 (by omega)
  obtain ⟨b1, b2, b3, b4, b5, b6⟩ := h7 1 (by omega)
  have n0 := h.d0
  have n1 := h.d1
  have n2 := h.z0
  have n3 := h.z1
  rw [h.g0, h.p00, h.p10] at a3 a5 a6
  rw [h.g1, h.p01, h.p11] at b3 b5 b6
  refine ⟨a1, by rw [a2]; rfl, b1, b2, by rw [a3]; omega, by rw [b3]; omega, h4, h5, ?_, ?_, ?_, ?_, by rw [h6]; exact h.e0 h1, by rw [h3, h.ep]⟩
  · rw [← Bool.not_eq_true, a6, n0, n2]; simp
  · rw [← Bool.not_eq_true, b6, n1, n3]; simp
  · rw [← Bool.not_eq_true, a5]; omega
  · rw [← Bool.not_eq_true, b5]; omega

theorem D2.next {K j : Nat} {m : Mo} (h : D2 K j m) (hj : j ≤ 20) : D2 K (j + 1) (m.count 1 0 (-1)) := by
  obtain ⟨h1, h2, h3, h4, h5, h6, h7, h8, h9, h10, h11, h12, h13, h14⟩ := h
  refine ⟨?_, ?_, ?_, ?_, h5, h6, h7, h8, h9, h10, h11, h12, by simp [Mo.count], h14⟩
  · simp only [Mo.count]; simp [h1]
  · simp only [Mo.count]; simp [h2]; rw [wrap_small _ (by omega) (by omega)]; omega
  · simp only [Mo.count]; simp [h3]
  · simp only [Mo.count]; simp [h4]

/-- Behind r epochs more: M is left. -/
structure D3 (K M r : Nat) (m : Mo) : Prop where
  p00 : m.parts 0 0 = 0
  p01 : m.parts 0 1 = 0
  p11 : m.parts 1 1 = 0
  sum : m.glob 0 + m.parts 1 0 = (M : Int)
  lo : -20 ≤ m.parts 1 0
  hi : m.parts 1 0 ≤ 0
  g1 : m.glob 1 = (K : Int)
  f0 : m.flu 0 = false
  f1 : m.flu 1 = false
  d0 : m.dead 0 = true ↔ (2 ≤ r ∧ M = 0)
  d1 : m.dead 1 = false
  z0 : m.zero 0 = true ↔ (1 ≤ r ∧ M = 0)
  z1 : m.zero 1 = false
  a0 : 1 ≤ r → m.added 0 = false ∧ m.parts 1 0 = 0
  e0 : m.ever 0 = true
  ep : m.epoch = 1 + r

theorem D2.to {K M : Nat} {m : Mo} (h : D2 K (K - M) m) (hM : M ≤ K) (hK : K ≤ 20) : D3 K M 0 m := by
  obtain ⟨h1, h2, h3, h4, h5, h6, h7, h8, h9, h10, h11, h12, h13, h14⟩ := h
  exact ⟨h1, h3, h4, by rw [h5, h2]; omega, by rw [h2]; omega, by rw [h2]; omega, h6, h7, h8, by rw [h9]; simp, h10, by rw [h11]; simp, h12, fun h => by omega, h13, h14⟩

theorem D3.next {K M r : Nat} {m : Mo} (h : D3 K M r m) (hM : M ≤ 20) (h1 : 1 ≤ K) (hK : K ≤ 20) : D3 K M (r + 1) ((m.flush 2 2 1).flush 2 2 0) := by
  have hs := h.sum
  have hl := h.lo
  have hh := h.hi
  obtain ⟨m', e, h3, h4, h5, h6, h7⟩ := two m 1 0 (Or.inr ⟨rfl, rfl⟩) h.f0 h.f1 (fun o ho => by
    obtain rfl | rfl : o = 0 ∨ o = 1 := by omega
    · rw [h.p00]; omega
    · rw [h.g1, h.p01, h.p11]; omega)
  rw [e]
  obtain ⟨a1, a2, a3, a4, a5, a6⟩ := h7 0 (by omega)
  obtain ⟨b1, b2, b3, b4, b5, b6⟩ := h7 1 (by omega)
  have n1 := h.d1
  have n3 := h.z1
  rw [h.p00] at a3 a5 a6
  rw [h.g1, h.p01, h.p11] at b3 b5 b6
  refine ⟨a1, b1, b2, by rw [a3, a2]; omega, by rw [a2]; decide, by rw [a2]; decide, by rw [b3]; omega, h4, h5, ?_, ?_, ?_, ?_, fun _ => ⟨a4, a2⟩, by rw [h6]; exact h.e0, by rw [h3, h.ep]; omega⟩
  · rw [a6, h.d0, h.z0]
    constructor
    · rintro (h8 | ⟨h8, -, -, -, h9, -⟩)
      · exact ⟨by omega, h8.2⟩
      · exact ⟨by omega, h8.2⟩
    · rintro ⟨h8, h9⟩
      obtain ⟨q1, q2⟩ := h.a0 (by omega)
      exact Or.inr ⟨⟨by omega, h9⟩, q1, rfl, q2, by omega, h.e0⟩
  · rw [← Bool.not_eq_true, b6, n1, n3]; simp
  · rw [a5]; omega
  · rw [← Bool.not_eq_true, b5]; omega

theorem D3.list {K M : Nat} {m : Mo} (h : D3 K M 3 m) : m.list 2 = if M = 0 then [0] else [] := by
  have h0 := h.d0
  have h1 := h.d1
  by_cases hM : M = 0
  · have : m.dead 0 = true := h0.2 ⟨by omega, hM⟩
    rw [if_pos hM]
    simp [Mo.list, this, h1]
  · have : m.dead 0 = false := by rw [← Bool.not_eq_true, h0]; omega
    rw [if_neg hM]
    simp [Mo.list, this, h1]

theorem D2.list {K j : Nat} {m : Mo} (h : D2 K j m) : m.list 2 = [] := by simp [Mo.list, h.d0, h.d1]

set_option maxRecDepth 100000 in
set_option maxHeartbeats 8000000 in
theorem main (many left : Int) (K l : Nat) (w : World) (hK : 1 ≤ K) (hK2 : K ≤ 16) (hl : l ≤ 15) (h1 : bits .and .i64 many 15 = (K : Int) - 1) (h2 : bits .and .i64 left 15 = (l : Int)) :
    Calls Try.prog 6 #[.int .i64 many, .int .i64 left] w fun e w' => e = .returned (.bool true) ∧ Kept [] w w' := by
  have hk : wrap64 (1 + ((K : Int) - 1)) = (K : Int) := by rw [wrap_small _ (by omega) (by omega)]; omega
  have hmin : ∀ W : World, (Builtin.min_ #[3, 3] 3 #[.int .i64 (l : Int), .int .i64 (K : Int)]).run Try.prog W = .ok (.int .i64 ((min l K : Nat) : Int)) W := fun W => run_min l K W
  obtain ⟨M, hM⟩ : ∃ M, M = min l K := ⟨_, rfl⟩
  rw [← hM] at hmin
  have hMK : M ≤ K := by omega
  clear hM
  rw [← h2] at hmin
  have HB : Hid (_ ∧ _) := ⟨h1, hk⟩
  clear h1 h2 hk
  go_enter Try.func6, Try.ntmps6
  go_wp2_with fail
  refine (awake_any w).mono ?_
  rintro e w1 ⟨rfl, hK1⟩
  have HK : Hid (_) := hK1
  clear hK1
  go_wp2_with fail
  refine (h_new w1 100 2 (by omega) (by omega) (by omega) (by omega)).mono ?_
  rintro e w2 ⟨b, rfl, hm⟩
  have H1 : Hid (_) := hm
  clear hm
  go_wp2_with fail
  refine (m_new (P := Any) (f := 0) (n := 2) _ H1.out 100 2 rfl ⟨by omega, by omega, by omega, by omega, by omega, by omega⟩ any).mono ?_
  rintro e w3 ⟨g, rfl, h3⟩
  have H3 : Hid (_) := h3
  clear h3 H1
  go_wp2_with fail
  rw [HB.out.1, HB.out.2]
  go_loopw [10] (fun i wr => ∃ j : Nat, i = .int .i64 (j : Int) ∧ j ≤ K ∧ Hid (∃ m, D1 j m ∧ Rm Any [(g, box b 0 2)] w1 wr b g 0 2 2 100 (700 + 6 * j) m)) (fun i _ => (K - intOf i).toNat)
  case atStart => exact ⟨0, rfl, by omega, _, D1.start, H3.out⟩
  case round =>
    clear H3
    obtain ⟨j, rfl, hj, HJ⟩ := hrel
    obtain ⟨m, hD, hR⟩ := HJ.out
    have HR : Hid (_ ∧ _) := ⟨hD, hR⟩
    clear HJ hD hR
    by_cases hlt : j < K
    · have i0 : (j : Int) < (K : Int) := by omega
      have e2 : bits .and .i64 (j : Int) 1 = ((j % 2 : Nat) : Int) := by rw [i64_and1]; omega
      have E2 : Hid (_) := e2
      clear e2
      go_wp2_with fail
      rw [E2.out]
      refine (m_inc HR.out.2 (j % 2) 0 (by omega) (by omega) (fun _ _ => trivial) (by omega)).mono ?_
      rintro e w4 ⟨rfl, h4⟩
      have H4 : Hid (_) := h4
      clear h4 E2
      go_wp2_with fail
      refine (m_inc H4.out 0 1 (by omega) (by omega) (fun _ _ => trivial) (by omega)).mono ?_
      rintro e w5 ⟨rfl, h5⟩
      have H5 : Hid (_ ∧ _) := ⟨D1.next HR.out.1 (by omega), h5.mono (show _ ≤ 700 + 6 * (j + 1) by omega)⟩
      clear h5 H4 HR
      go_wp2
      go_roundw
      case rel => exact ⟨j + 1, by go_num, by omega, _, H5.out⟩
      case measure => simp [intOf]; omega
    · have e : j = K := by omega
      subst e
      go_wp2_with fail
      refine (m_flush HR.out.2 0 (by omega) any (by omega) (by rw [HR.out.1.ep]; omega)).mono ?_
      rintro e w4 ⟨rfl, h4⟩
      have H4 : Hid (_) := h4
      clear h4
      go_wp2_with fail
      refine (m_flush H4.out 1 (by omega) any (by omega) (by have := HR.out.1.ep; have := flush_epoch m 2 2 0; omega)).mono ?_
      rintro e w5 ⟨rfl, h5⟩
      have H5 : Hid (_ ∧ _) := ⟨D1.flush HR.out.1 hK (by omega), h5.mono (show _ ≤ 2000 by omega)⟩
      clear h5 H4 HR
      clear HB
      go_wp2_with fail
      have hs : wrap64 ((j : Int) - (M : Int)) = ((j - M : Nat) : Int) := by rw [wrap_small _ (by omega) (by omega)]; omega
      have HS : Hid (_) := hs
      clear hs
      go_loopw [12] (fun i wr => ∃ r : Nat, i = .int .i64 (r : Int) ∧ r ≤ j - M ∧ Hid (∃ m, D2 j r m ∧ Rm Any [(g, box b 0 2)] w1 wr b g 0 2 2 100 (2000 + 3 * r) m)) (fun i _ => ((j - M : Nat) - intOf i).toNat)
      case atStart => exact ⟨0, rfl, by omega, _, H5.out⟩
      case round =>
        clear H5
        obtain ⟨r, rfl, hr, HJ⟩ := hrel
        obtain ⟨m, hD, hR⟩ := HJ.out
        have HR : Hid (_ ∧ _) := ⟨hD, hR⟩
        clear HJ hD hR
        by_cases hlt : r < j - M
        · have i0 : (r : Int) < (j : Int) - (M : Int) := by omega
          go_wp2_with fail
          refine (m_dec HR.out.2 1 0 (by omega) (by omega) (fun _ _ => trivial) (by omega)).mono ?_
          rintro e w6 ⟨rfl, h6⟩
          have H6 : Hid (_ ∧ _) := ⟨D2.next HR.out.1 (by omega), h6.mono (show _ ≤ 2000 + 3 * (r + 1) by omega)⟩
          clear h6 HR
          go_wp2
          go_roundw
          case rel => exact ⟨r + 1, by go_num, by omega, _, H6.out⟩
          case measure => simp [intOf]; omega
        · have i0 : ¬ (r : Int) < (j : Int) - (M : Int) := by omega
          have e : r = j - M := by omega
          go_wp2_with fail
          refine (m_dead HR.out.2 any (by omega)).mono ?_
          rintro e w6 ⟨a, cc, D, rfl, -, h6⟩
          have H6 : Hid (_ ∧ _) := ⟨D2.to (by have := HR.out.1; rw [show r = j - M by omega] at this; exact this) hMK (by omega), (h6.fewer (S' := [(g, box b 0 2)]) (fun x hx => by simp at hx; subst hx; simp) (by simp)).mono (show _ ≤ 3000 by omega)⟩
          rw [D2.list HR.out.1]
          clear h6 HR
          go_wp2_with fail
          go_loopw [14] (fun i wr => ∃ r : Nat, i = .int .i64 (r : Int) ∧ r ≤ 3 ∧ Hid (∃ m, D3 j M r m ∧ Rm Any [(g, box b 0 2)] w1 wr b g 0 2 2 100 (3000 + 1200 * r) m)) (fun i _ => (3 - intOf i).toNat)
          case atStart => exact ⟨0, rfl, by omega, _, H6.out⟩
          case round =>
            clear H6
            obtain ⟨q, rfl, hq, HJ⟩ := hrel
            obtain ⟨m, hD, hR⟩ := HJ.out
            have HR : Hid (_ ∧ _) := ⟨hD, hR⟩
            clear HJ hD hR
            by_cases hlt : q < 3
            · have i1 : (q : Int) < 3 := by omega
              go_wp2_with fail
              refine (m_flush HR.out.2 1 (by omega) any (by omega) (by rw [HR.out.1.ep]; omega)).mono ?_
              rintro e w7 ⟨rfl, h7⟩
              have H7 : Hid (_) := h7
              clear h7
              go_wp2_with fail
              refine (m_flush H7.out 0 (by omega) any (by omega) (by have := HR.out.1.ep; have := flush_epoch m 2 2 1; omega)).mono ?_
              rintro e w8 ⟨rfl, h8⟩
              have H8 : Hid (_ ∧ _) := ⟨D3.next HR.out.1 (by omega) hK (by omega), h8.mono (show _ ≤ 3000 + 1200 * (q + 1) by omega)⟩
              clear h8 H7 HR
              go_wp2
              go_roundw
              case rel => exact ⟨q + 1, by go_num, by omega, _, H8.out⟩
              case measure => simp [intOf]; omega
            · have e : q = 3 := by omega
              have H9 : Hid (D3 j M 3 m ∧ _) := ⟨by have := HR.out.1; rw [show q = 3 by omega] at this; exact this, HR.out.2⟩
              clear HR
              have i1 : ¬ (q : Int) < 3 := by omega
              go_wp2_with fail
              refine (m_dead H9.out.2 any (by omega)).mono ?_
              rintro e w7 ⟨a2, c2, D, rfl, hO, h7⟩
              rw [D3.list H9.out.1] at hO ⊢
              have HO : Hid (_ ∧ _) := ⟨hO, h7⟩
              clear hO h7
              have HE : Hid (m.epoch = 4) := H9.out.1.ep
              clear H9
              by_cases hM0 : M = 0
              · subst hM0
                rw [if_pos rfl] at HO ⊢
                go_wp2_with (first
                  | (go_at_call 9; refine (num _ _).mono ?_; rintro e w' ⟨rfl, rfl⟩))
                refine (m_epoch HO.out.2 any (by omega)).mono ?_
                rintro e w8 ⟨rfl, h8⟩
                rw [HE.out]
                have hk8 : Kept [] w8 (w8.alloc (.cells #[.int .i64 0] 3)) := (Kept.refl [] w8).alloc _
                have hu : Own (w8.alloc (.cells #[.int .i64 0] 3)) 0 (.slice a2 [(0 : Int)].length c2) [0] := (HO.out.1.own fun x hx => h8.at_ (by simp [hx])).kept hk8
                have hv : Own (w8.alloc (.cells #[.int .i64 0] 3)) 0 (.slice (some ⟨w8.heap.size, 0, none⟩) 1 1) [0] := one_own w8
                have H8 : Hid (_ ∧ _ ∧ _) := ⟨hu, hv, HK.out.trans (h8.old.trans hk8 (by simp)) (by simp)⟩
                clear hu hv hk8 h8 HO HE
                go_wp2_with fail
                refine (same_ints H8.out.1 H8.out.2.1 (by simp)).mono ?_
                rintro e w9 ⟨rr, rfl, hrr, hk9⟩
                obtain rfl : rr = true := hrr.out.2 rfl
                have H9 : Hid (_) := H8.out.2.2.trans hk9 (by simp)
                clear hrr hk9 H8
                go_wp2_with fail
                go_ret
                exact ⟨rfl, H9.out⟩
              · rw [if_neg hM0] at HO ⊢
                have t5 : ((M : Int) == 0) = false := by simp; omega
                have t6 : 0 < (M : Int) := by omega
                have t7 : decide (0 < (M : Int)) = true := by simp; omega
                clear hM0
                go_wp2_with (first
                  | (go_at_call 9; refine (num _ _).mono ?_; rintro e w' ⟨rfl, rfl⟩))
                refine (m_epoch HO.out.2 any (by omega)).mono ?_
                rintro e w8 ⟨rfl, h8⟩
                rw [HE.out]
                have H8 : Hid (_) := HK.out.trans h8.old (by simp)
                clear h8 HO HE
                go_wp2_with fail
                go_ret
                exact ⟨rfl, H8.out⟩

theorem walk (many left : Int) (w : World) (_ : (Lit.int .i64 many).wf = true) (_ : (Lit.int .i64 left).wf = true) :
    Calls Try.prog 6 #[.int .i64 many, .int .i64 left] w fun e w' => e = .returned (.bool true) ∧ Below w.heap.size w w' :=
  (main many left ((many % 16).toNat + 1) (left % 16).toNat w (by omega) (by omega) (by omega) (by rw [i64_and15]; omega) (by rw [i64_and15]; omega)).mono fun e w' ⟨he, hk⟩ => ⟨he, hk.below (Nat.le_refl _) (by simp)⟩

set_option maxRecDepth 100000 in
theorem lifted (os : Os) (started : os.Started) (H : Type) (enc : TypeId × Value → H) :
    ReturnsInHanded {} Try.checked os 6 .any (Rows.refsDiesSpec.pre6 enc Try.prog Try.f6 Rows.refsDiesRow.domain false) (Rows.refsDiesSpec.post enc Try.prog Try.f6 false true false false) := by
  refine returnsInHanded_of_change (C := Try.checked) own started (by kernel_rfl) Try.func6
    (ChangeSpec.witness6 (enc := enc) (C := Try.checked) false ⟨#[], #[.int .i64 0, .int .i64 0], []⟩ 8 (by kernel_rfl) (by kernel_rfl) (by kernel_rfl) (by kernel_rfl)) ?_
  intro W base args ds gs before hval0 hW hcnd _
  have hval : ∀ (j : Nat) t v, Try.f6.params[j]? = some t → args[j]? = some v → Value.okWide Try.prog W .any base t v := hval0
  have hW' := hW
  obtain ⟨p, q, hA0, hV, rfl, hfz, hnd⟩ := hW
  have hA : DataW.TrodAll enc Try.prog W 0 (fun _ => true) true Try.f6.params.toList args.toList ds p := hA0
  rw [Try.params6] at hA hval
  obtain ⟨v0, vs0, d0, ds0, p0, q0, hargs, rfl, rfl, h0, r0⟩ := trodAll_cons hA
  obtain ⟨v1, vs1, d1, ds1, p1, q1, rfl, rfl, rfl, h1, r1⟩ := trodAll_cons r0
  obtain ⟨rfl, rfl, rfl⟩ := trodAll_nil r1
  obtain rfl : args = #[v0, v1] := by cases args; simp_all
  obtain ⟨rfl, rfl⟩ := trodVars_none hV
  obtain ⟨a0, rfl, rfl, rfl, w0⟩ := open_int Try.underlying3 (hval 0 3 v0 rfl rfl) h0
  obtain ⟨a1, rfl, rfl, rfl, w1⟩ := open_int Try.underlying3 (hval 1 3 v1 rfl rfl) h1
  clear hA0 hval0
  refine (walk a0 a1 W w0 w1).mono fun e W' ⟨he, bel⟩ => ?_
  subst he
  simp only [List.append_nil] at hW'
  exact ⟨_, rfl, _, _, _, [], [], [], hW', (trodAll_cons_mk (shut_bool Try.underlying4 _) trodAll_mk0), (trodAll_cons_mk (shut_int Try.underlying3 w0) (trodAll_cons_mk (shut_int Try.underlying3 w1) trodAll_mk0)), rfl, bel.frame _, fun h => by cases h⟩

theorem over : Rows.refsDiesRow.holds Try.pinned (OpenSpec.ofChange Rows.refsDiesSpec) :=
  OpenClaim.holds_of_wide 6 Try.f6 rfl rfl rfl rfl rfl rfl rfl ⟨rfl, rfl, rfl, rfl, rfl⟩ rfl rfl rfl rfl rfl (by kernel_rfl) Try.func6 (by kernel_rfl)
    (of_decide_eq_true (by kernel_rfl)) (by unfold Func.isWrapper; first | (rw [if_pos (by decide +kernel)]; kernel_rfl) | (rw [if_neg (by decide +kernel)]; exact ⟨rfl, rfl⟩))
    (fun os started H enc _ => lifted os started H enc)

end Go.Proofs.Ytljmpcmkgeomiaa.refsDies

namespace Go.Proofs.Ytljmpcmkgeomiaa
theorem refsDies_holds : Rows.RefsDiesSaid := refsDies.over
#print axioms refsDies_holds
end Go.Proofs.Ytljmpcmkgeomiaa
