/-
  Pieces, and the words of a share that tell of them.
-/
import Derived.Test.YtagnkdeeiligcaaDoorMath
namespace Go.Proofs.YtagnkdeeiligcaaDoor

def inp (p : Pc) (x : Nat) : Bool := decide (p.1 ≤ x) && decide (x < p.1 + p.2)
def cov (ps : List Pc) (x : Nat) : Bool := ps.any fun p => inp p x
def beg (ps : List Pc) (x : Nat) : Bool := ps.any fun p => decide (p.1 = x)

/-- A word whose bits are so. -/
def Word (f : Nat → Bool) (v : Int) : Prop := ∃ T : Nat, v = (T : Int) ∧ T < 4294967296 ∧ ∀ j, j < 32 → T.testBit j = f j

/-- What a share's words tell of its pieces. -/
structure Inv (n a : Nat) (f : Nat → Int) (ps : List Pc) : Prop where
  ok : Ok n ps
  most : loads ps ≤ n / 4
  load : f a = (loads ps : Int)
  tk : ∀ i, i < gro n → Word (fun j => cov ps (32 * i + j)) (f (a + 1 + 2 * i))
  bg : ∀ i, i < gro n → Word (fun j => beg ps (32 * i + j)) (f (a + 2 + 2 * i))

theorem Inv.same {n a : Nat} {f g : Nat → Int} {ps : List Pc} (h : Inv n a f ps) (hg : ∀ x, a ≤ x → x < heap a n → g x = f x) : Inv n a g ps := by
  have hh : heap a n = a + 1 + 2 * gro n := rfl
  exact ⟨h.ok, h.most, by rw [hg a (by omega) (by omega)]; exact h.load, fun i hi => by rw [hg _ (by omega) (by omega)]; exact h.tk i hi, fun i hi => by rw [hg _ (by omega) (by omega)]; exact h.bg i hi⟩

theorem Inv.new {n a : Nat} {f : Nat → Int} (hf : ∀ x, a ≤ x → x < heap a n → f x = 0) : Inv n a f [] := by
  have hh : heap a n = a + 1 + 2 * gro n := rfl
  refine ⟨⟨by simp, by simp, by simp, by simp, List.Pairwise.nil⟩, by simp [loads], by rw [hf a (by omega) (by omega)]; simp [loads], fun i hi => ?_, fun i hi => ?_⟩
  · exact ⟨0, by rw [hf _ (by omega) (by omega)]; rfl, by omega, fun j _ => by simp [cov]⟩
  · exact ⟨0, by rw [hf _ (by omega) (by omega)]; rfl, by omega, fun j _ => by simp [beg]⟩

theorem not_bit {y j : Nat} (hy : y < 4294967296) : (4294967295 - y).testBit j = (decide (j < 32) && !y.testBit j) := by
  rw [show 4294967295 - y = 2 ^ 32 - (y + 1) from by omega]
  exact Nat.testBit_two_pow_sub_succ (by omega) j

theorem ons_bit (z j : Nat) : (ons z).testBit j = decide (j < z) := by unfold ons; exact Nat.testBit_two_pow_sub_one _ _

theorem miss_bit {n i j : Nat} (h : 64 ≤ n) (hi : i < gro n) (hj : j < 32) : (miss n i).testBit j = decide (room n ≤ 32 * i + j) := by
  have h1 := room_last h hi
  unfold miss
  rw [not_bit (ons_lt (by omega)), ons_bit]
  by_cases h2 : room n ≤ 32 * i + j
  · have : ¬ j < min (room n - 32 * i) 32 := by omega
    simp [hj, this, h2]
  · have : j < min (room n - 32 * i) 32 := by omega
    simp [hj, this, h2]

theorem room_le (n : Nat) : room n ≤ 32 * gro n := by unfold room; omega

/-- The free slot that there is, in its group. -/
theorem slot_free {n : Nat} (h0 : 64 ≤ n) (h1 : n ≤ 1000) {ps : List Pc} (ok : Ok n ps) {z : Nat} (z0 : 1 ≤ z) (z1 : z ≤ 32) (hq : loads ps + z + 2 ≤ n / 4)
    (T : Nat → Nat) (hT : ∀ i, i < gro n → ∀ j, j < 32 → (T i).testBit j = cov ps (32 * i + j)) :
    ∃ i k, i < gro n ∧ k * 2 ^ lv z < 32 ∧ 32 * i + k * 2 ^ lv z < (bd n).getD (lv z) 0 ∧ Free (T i ||| miss n i) (k * 2 ^ lv z) z := by
  obtain ⟨s, hs1, hs2⟩ := has_room h0 h1 ok z0 z1 hq
  have hl : lv z < 6 := by have := lv_le z; omega
  have hc := cst_le ⟨z, by omega⟩ z0
  simp only at hc
  obtain ⟨-, -, g3⟩ := good_at h0 h1 hl (by omega)
  have hr := room_le n
  have hp := lv_pow z z1
  have hst := step_cases z
  generalize 2 ^ lv z = S at *
  have key : ∃ i k, 32 * i + k * S = s * S ∧ k * S + S ≤ 32 := by
    rcases hst with rfl | rfl | rfl | rfl | rfl | rfl
    · exact ⟨s / 32, s % 32, by omega, by omega⟩
    · exact ⟨s / 16, s % 16, by omega, by omega⟩
    · exact ⟨s / 8, s % 8, by omega, by omega⟩
    · exact ⟨s / 4, s % 4, by omega, by omega⟩
    · exact ⟨s / 2, s % 2, by omega, by omega⟩
    · exact ⟨s, 0, by omega, by omega⟩
  obtain ⟨i, k, e1, e2⟩ := key
  have hi : i < gro n := by omega
  refine ⟨i, k, hi, by omega, by omega, fun j hj => ?_⟩
  rw [Nat.testBit_or, hT i hi _ (by omega), miss_bit h0 hi (by omega)]
  have h3 : ¬ room n ≤ 32 * i + (k * S + j) := by omega
  have h4 : cov ps (32 * i + (k * S + j)) = false := by
    rw [cov, List.any_eq_false]
    intro p hp2
    have h5 := hs2 p hp2
    simp only [hits, Bool.and_eq_false_iff, decide_eq_false_iff_not] at h5
    simp only [inp, Bool.and_eq_true, decide_eq_true_eq]
    omega
  rw [h4]
  simp [h3]

/-- A place is found. -/
theorem no_place {n : Nat} (h0 : 64 ≤ n) (h1 : n ≤ 1000) {ps : List Pc} (ok : Ok n ps) {z : Nat} (z0 : 1 ≤ z) (z1 : z ≤ 32) (hq : loads ps + z + 2 ≤ n / 4)
    (T : Nat → Nat) (hT : ∀ i, i < gro n → ∀ j, j < 32 → (T i).testBit j = cov ps (32 * i + j))
    (hno : ∀ i, i < gro n → ∀ k, k * 2 ^ lv z < 32 → ¬ Free (T i ||| miss n i) (k * 2 ^ lv z) z) : False := by
  obtain ⟨i, k, e1, e2, _, e4⟩ := slot_free h0 h1 ok z0 z1 hq T hT
  exact hno i e1 k e2 e4

/-- The place that is found: beside all pieces, within, ahead of its bound. -/
theorem place_ok {n : Nat} (h0 : 64 ≤ n) (h1 : n ≤ 1000) {ps : List Pc} (ok : Ok n ps) {z : Nat} (z0 : 1 ≤ z) (z1 : z ≤ 32) (hq : loads ps + z + 2 ≤ n / 4)
    (T : Nat → Nat) (hT : ∀ i, i < gro n → ∀ j, j < 32 → (T i).testBit j = cov ps (32 * i + j)) {i k : Nat} (hi : i < gro n) (hk : k * 2 ^ lv z < 32)
    (hf : Free (T i ||| miss n i) (k * 2 ^ lv z) z) (hk2 : ∀ k', k' < k → ¬ Free (T i ||| miss n i) (k' * 2 ^ lv z) z)
    (hi2 : ∀ i', i' < i → ∀ k', k' * 2 ^ lv z < 32 → ¬ Free (T i' ||| miss n i') (k' * 2 ^ lv z) z) :
    Ok n (ps ++ [(32 * i + k * 2 ^ lv z, z)]) ∧ k * 2 ^ lv z + z ≤ 32 ∧ 32 * i + k * 2 ^ lv z + z ≤ room n ∧ ∀ x, 32 * i + k * 2 ^ lv z ≤ x → x < 32 * i + k * 2 ^ lv z + z → cov ps x = false := by
  obtain ⟨i', k', e1, e2, e3, e4⟩ := slot_free h0 h1 ok z0 z1 hq T hT
  have hp := lv_pow z z1
  have hst := step_cases z
  have hn := step_next hst hk
  have hfit : k * 2 ^ lv z + z ≤ 32 := by omega
  have hle : 32 * i + k * 2 ^ lv z ≤ 32 * i' + k' * 2 ^ lv z := by
    rcases Nat.lt_trichotomy i i' with h | h | h
    · omega
    · subst h
      rcases Nat.lt_or_ge k' k with h2 | h2
      · exact absurd e4 (hk2 k' h2)
      · have := Nat.mul_le_mul_right (2 ^ lv z) h2
        omega
    · exact absurd e4 (hi2 i' h k' e2)
  have hcov : ∀ x, 32 * i + k * 2 ^ lv z ≤ x → x < 32 * i + k * 2 ^ lv z + z → cov ps x = false ∧ x < room n := fun x hx1 hx2 => by
    have h2 := hf (x - (32 * i + k * 2 ^ lv z)) (by omega)
    rw [Nat.testBit_or, hT i hi _ (by omega), miss_bit h0 hi (by omega)] at h2
    rw [show 32 * i + (k * 2 ^ lv z + (x - (32 * i + k * 2 ^ lv z))) = x from by omega] at h2
    simp only [Bool.or_eq_false_iff, decide_eq_false_iff_not] at h2
    exact ⟨h2.1, by omega⟩
  have hroom : 32 * i + k * 2 ^ lv z + z ≤ room n := by
    have := (hcov (32 * i + k * 2 ^ lv z + (z - 1)) (by omega) (by omega)).2
    omega
  refine ⟨⟨?_, ?_, ?_, ?_, ?_⟩, hfit, hroom, fun x h1 h2 => (hcov x h1 h2).1⟩
  · intro p hp
    rcases List.mem_append.1 hp with h | h
    · exact ok.size p h
    · rw [List.mem_singleton.1 h]; exact ⟨z0, z1⟩
  · intro p hp
    rcases List.mem_append.1 hp with h | h
    · exact ok.al p h
    · rw [List.mem_singleton.1 h]
      simp only
      generalize 2 ^ lv z = S at *
      rcases hst with rfl | rfl | rfl | rfl | rfl | rfl <;> omega
  · intro p hp
    rcases List.mem_append.1 hp with h | h
    · exact ok.bd p h
    · rw [List.mem_singleton.1 h]
      simp only
      omega
  · intro p hp
    rcases List.mem_append.1 hp with h | h
    · exact ok.fit p h
    · rw [List.mem_singleton.1 h]; exact hroom
  · rw [List.pairwise_append]
    refine ⟨ok.dis, List.pairwise_singleton _ _, fun p hp q hq => ?_⟩
    rw [List.mem_singleton.1 hq]
    simp only
    refine Classical.byContradiction fun hn => ?_
    have hsz := ok.size p hp
    have h2 := (hcov (max p.1 (32 * i + k * 2 ^ lv z)) (by omega) (by omega)).1
    have h3 := List.any_eq_false.1 h2 p hp
    simp only [inp, Bool.and_eq_true, decide_eq_true_eq] at h3
    omega

theorem cov_append (ps : List Pc) (p : Pc) (x : Nat) : cov (ps ++ [p]) x = (cov ps x || inp p x) := by simp [cov]
theorem beg_append (ps : List Pc) (p : Pc) (x : Nat) : beg (ps ++ [p]) x = (beg ps x || decide (p.1 = x)) := by simp [beg]
theorem loads_append (ps : List Pc) (p : Pc) : loads (ps ++ [p]) = loads ps + (p.2 + 2) := by simp [loads]

/-- Behind a Get the words tell of the new piece too. -/
theorem Inv.get {n a : Nat} {f g : Nat → Int} {ps : List Pc} (h : Inv n a f ps) {i bit z T G : Nat} (hi : i < gro n) (hbz : bit + z ≤ 32) (z0 : 1 ≤ z) (ok : Ok n (ps ++ [(32 * i + bit, z)])) (hq : loads ps + z + 2 ≤ n / 4)
    (hT : f (a + 1 + 2 * i) = (T : Int)) (hG : f (a + 2 + 2 * i) = (G : Int))
    (g0 : g a = ((loads ps + z + 2 : Nat) : Int)) (g1 : g (a + 1 + 2 * i) = ((T ||| ons z * 2 ^ bit : Nat) : Int)) (g2 : g (a + 2 + 2 * i) = ((G ||| 2 ^ bit : Nat) : Int))
    (g3 : ∀ x, a ≤ x → x < heap a n → x ≠ a → x ≠ a + 1 + 2 * i → x ≠ a + 2 + 2 * i → g x = f x) : Inv n a g (ps ++ [(32 * i + bit, z)]) := by
  have hh : heap a n = a + 1 + 2 * gro n := rfl
  refine ⟨ok, by rw [loads_append]; simp only; omega, by rw [loads_append, g0]; simp only; omega, fun i' hi' => ?_, fun i' hi' => ?_⟩
  · by_cases e : i' = i
    · subst e
      obtain ⟨T', e1, e2, e3⟩ := h.tk i' hi
      rw [hT] at e1
      obtain rfl : T = T' := by omega
      refine ⟨_, g1, or_lt32 e2 (mul_lt32 hbz), fun j hj => ?_⟩
      rw [Nat.testBit_or, e3 j hj, Nat.testBit_mul_two_pow, ons_bit]
      simp only [cov_append, inp]
      congr 1
      by_cases h1 : bit ≤ j ∧ j < bit + z
      · have h2 : j - bit < z := by omega
        have h3 : 32 * i' + bit ≤ 32 * i' + j := by omega
        have h4 : 32 * i' + j < 32 * i' + bit + z := by omega
        simp only [h1.1, h2, h3, h4, decide_true, Bool.and_self]
      · by_cases h2 : bit ≤ j
        · have h3 : ¬ (j - bit < z) := by omega
          have h4 : ¬ (32 * i' + j < 32 * i' + bit + z) := by omega
          simp only [h3, h4, decide_false, Bool.and_false]
        · have h4 : ¬ (32 * i' + bit ≤ 32 * i' + j) := by omega
          simp only [h2, h4, decide_false, Bool.false_and]
    · obtain ⟨T', e1, e2, e3⟩ := h.tk i' hi'
      refine ⟨T', by rw [g3 _ (by omega) (by omega) (by omega) (by omega) (by omega)]; exact e1, e2, fun j hj => ?_⟩
      rw [e3 j hj]
      simp only [cov_append, inp]
      have h1 : (decide (32 * i + bit ≤ 32 * i' + j) && decide (32 * i' + j < 32 * i + bit + z)) = false := by
        simp only [Bool.and_eq_false_iff, decide_eq_false_iff_not]; omega
      rw [h1, Bool.or_false]
  · by_cases e : i' = i
    · subst e
      obtain ⟨G', e1, e2, e3⟩ := h.bg i' hi
      rw [hG] at e1
      obtain rfl : G = G' := by omega
      refine ⟨_, g2, or_lt32 e2 (pow_lt32 (by omega)), fun j hj => ?_⟩
      rw [Nat.testBit_or, e3 j hj, Nat.testBit_two_pow]
      simp only [beg_append]
      congr 1
      by_cases h1 : bit = j
      · have h2 : 32 * i' + bit = 32 * i' + j := by omega
        simp only [h1, decide_true]
      · have h2 : ¬ 32 * i' + bit = 32 * i' + j := by omega
        simp only [h1, h2, decide_false]
    · obtain ⟨T', e1, e2, e3⟩ := h.bg i' hi'
      refine ⟨T', by rw [g3 _ (by omega) (by omega) (by omega) (by omega) (by omega)]; exact e1, e2, fun j hj => ?_⟩
      rw [e3 j hj]
      simp only [beg_append]
      have h1 : ¬ (32 * i + bit = 32 * i' + j) := by omega
      simp [h1]

theorem loads_mid (l1 l2 : List Pc) (p : Pc) : loads (l1 ++ p :: l2) = loads (l1 ++ l2) + (p.2 + 2) := by simp [loads]; omega

/-- The pieces without one. -/
theorem Ok.drop {n : Nat} {l1 l2 : List Pc} {p : Pc} (h : Ok n (l1 ++ p :: l2)) : Ok n (l1 ++ l2) := by
  have hm : ∀ q ∈ l1 ++ l2, q ∈ l1 ++ p :: l2 := fun q hq => by
    rcases List.mem_append.1 hq with h1 | h1
    · exact List.mem_append.2 (Or.inl h1)
    · exact List.mem_append.2 (Or.inr (List.mem_cons_of_mem _ h1))
  refine ⟨fun q hq => h.size q (hm q hq), fun q hq => h.al q (hm q hq), fun q hq => h.bd q (hm q hq), fun q hq => h.fit q (hm q hq), ?_⟩
  have hd := h.dis
  rw [List.pairwise_append] at hd ⊢
  obtain ⟨d1, d2, d3⟩ := hd
  rw [List.pairwise_cons] at d2
  exact ⟨d1, d2.2, fun x hx y hy => d3 x hx y (List.mem_cons_of_mem _ hy)⟩

/-- A piece beside one of the rest. -/
theorem Ok.beside {n : Nat} {l1 l2 : List Pc} {p : Pc} (h : Ok n (l1 ++ p :: l2)) : ∀ q ∈ l1 ++ l2, p.1 + p.2 ≤ q.1 ∨ q.1 + q.2 ≤ p.1 := by
  have hd := h.dis
  rw [List.pairwise_append] at hd
  obtain ⟨d1, d2, d3⟩ := hd
  rw [List.pairwise_cons] at d2
  intro q hq
  rcases List.mem_append.1 hq with h1 | h1
  · exact (d3 q h1 p (List.mem_cons_self)).symm
  · exact d2.1 q h1

theorem cov_mid (l1 l2 : List Pc) (p : Pc) (x : Nat) : cov (l1 ++ p :: l2) x = (cov (l1 ++ l2) x || inp p x) := by
  simp only [cov, List.any_append, List.any_cons]
  cases l1.any (fun p => inp p x) <;> cases inp p x <;> cases l2.any (fun p => inp p x) <;> rfl

theorem beg_mid (l1 l2 : List Pc) (p : Pc) (x : Nat) : beg (l1 ++ p :: l2) x = (beg (l1 ++ l2) x || decide (p.1 = x)) := by
  simp only [beg, List.any_append, List.any_cons]
  cases l1.any (fun p => decide (p.1 = x)) <;> cases decide (p.1 = x) <;> cases l2.any (fun p => decide (p.1 = x)) <;> rfl

/-- Where a piece lies no other does. -/
theorem Ok.alone {n : Nat} {l1 l2 : List Pc} {p : Pc} (h : Ok n (l1 ++ p :: l2)) {x : Nat} (hx : inp p x = true) : cov (l1 ++ l2) x = false := by
  rw [cov, List.any_eq_false]
  intro q hq
  have h1 := h.beside q hq
  simp only [inp, Bool.and_eq_true, decide_eq_true_eq] at hx ⊢
  omega

theorem Ok.alone_beg {n : Nat} {l1 l2 : List Pc} {p : Pc} (h : Ok n (l1 ++ p :: l2)) {x : Nat} (hx : inp p x = true) : beg (l1 ++ l2) x = false := by
  rw [beg, List.any_eq_false]
  intro q hq
  have h1 := h.beside q hq
  have hm : q ∈ l1 ++ p :: l2 := by
    rcases List.mem_append.1 hq with h1 | h1
    · exact List.mem_append.2 (Or.inl h1)
    · exact List.mem_append.2 (Or.inr (List.mem_cons_of_mem _ h1))
  have h2 := h.size q hm
  simp only [inp, Bool.and_eq_true, decide_eq_true_eq] at hx ⊢
  omega

/-- Right behind a piece no other goes on. -/
theorem Ok.behind {n : Nat} {l1 l2 : List Pc} {p : Pc} (h : Ok n (l1 ++ p :: l2)) (hc : cov (l1 ++ l2) (p.1 + p.2) = true) : beg (l1 ++ l2) (p.1 + p.2) = true := by
  rw [cov, List.any_eq_true] at hc
  obtain ⟨q, hq, h1⟩ := hc
  rw [beg, List.any_eq_true]
  have h2 := h.beside q hq
  have hs := h.size p (List.mem_append.2 (Or.inr (List.mem_cons_self)))
  simp only [inp, Bool.and_eq_true, decide_eq_true_eq] at h1
  exact ⟨q, hq, by simp only [decide_eq_true_eq]; omega⟩

theorem Ok.group {n : Nat} {ps : List Pc} (h : Ok n ps) {p : Pc} (hp : p ∈ ps) : p.1 % 32 + p.2 ≤ 32 := by
  have h1 := h.al p hp
  have h2 := (h.size p hp).2
  have h3 := lv_pow p.2 h2
  have hst := step_cases p.2
  generalize 2 ^ lv p.2 = S at *
  rcases hst with rfl | rfl | rfl | rfl | rfl | rfl <;> omega

/-- How a piece's size is told by its group's words. -/
theorem Inv.size {n a : Nat} {f : Nat → Int} {l1 l2 : List Pc} {p : Pc} (h : Inv n a f (l1 ++ p :: l2)) {T G : Nat} (hi : p.1 / 32 < gro n)
    (hT : f (a + 1 + 2 * (p.1 / 32)) = (T : Int)) (hG : f (a + 2 + 2 * (p.1 / 32)) = (G : Int)) :
    (rest T (G &&& (4294967295 - 2 ^ (p.1 % 32))) (p.1 % 32) = 0 ∧ p.2 = 32) ∨ (p.2 < 32 ∧ Low (rest T (G &&& (4294967295 - 2 ^ (p.1 % 32))) (p.1 % 32)) p.2) := by
  have hmem : p ∈ l1 ++ p :: l2 := List.mem_append.2 (Or.inr (List.mem_cons_self))
  have hg := h.ok.group hmem
  have hs := h.ok.size p hmem
  obtain ⟨T', t1, t2, t3⟩ := h.tk _ hi
  rw [hT] at t1
  obtain rfl : T = T' := by omega
  obtain ⟨G', g1, g2, g3⟩ := h.bg _ hi
  rw [hG] at g1
  obtain rfl : G = G' := by omega
  simp only [cov_mid] at t3
  simp only [beg_mid] at g3
  have hb : p.1 % 32 < 32 := Nat.mod_lt _ (by omega)
  have hO : G &&& (4294967295 - 2 ^ (p.1 % 32)) < 4294967296 := andnot_lt _ g2
  have hX : (T &&& (4294967295 - (G &&& (4294967295 - 2 ^ (p.1 % 32))))) / 2 ^ (p.1 % 32) < 4294967296 := Nat.lt_of_le_of_lt (Nat.div_le_self _ _) (andnot_lt _ t2)
  have bitR : ∀ m, m < 32 → (rest T (G &&& (4294967295 - 2 ^ (p.1 % 32))) (p.1 % 32)).testBit m = !(T.testBit (m + p.1 % 32) && !(G.testBit (m + p.1 % 32) && !decide (p.1 % 32 = m + p.1 % 32))) := fun m hm => by
    unfold rest
    rw [not_bit hX, Nat.testBit_div_two_pow, Nat.testBit_and, not_bit hO, Nat.testBit_and, not_bit (pow_lt32 hb), Nat.testBit_two_pow]
    by_cases h32 : m + p.1 % 32 < 32
    · simp [hm, h32]
    · have : T.testBit (m + p.1 % 32) = false := Nat.testBit_lt_two_pow (Nat.lt_of_lt_of_le t2 (Nat.pow_le_pow_right (n := 2) (i := 32) (by omega) (by omega)))
      simp [hm, this]
  have hx : p.1 = 32 * (p.1 / 32) + p.1 % 32 := (Nat.div_add_mod p.1 32).symm
  have low : ∀ m, m < p.2 → (rest T (G &&& (4294967295 - 2 ^ (p.1 % 32))) (p.1 % 32)).testBit m = false := fun m hm => by
    have hin : inp p (32 * (p.1 / 32) + (m + p.1 % 32)) = true := by
      simp only [inp, Bool.and_eq_true, decide_eq_true_eq]; omega
    have hin2 : beg (l1 ++ l2) (32 * (p.1 / 32) + (m + p.1 % 32)) = false := h.ok.alone_beg hin
    rw [bitR m (by omega), t3 _ (by omega), g3 _ (by omega), hin, hin2]
    by_cases e : p.1 = 32 * (p.1 / 32) + (m + p.1 % 32)
    · have e2 : decide (p.1 % 32 = m + p.1 % 32) = true := by rw [decide_eq_true_eq]; omega
      rw [e2]
      simp
    · simp [e]
  by_cases hz : p.2 = 32
  · refine Or.inl ⟨?_, hz⟩
    apply Nat.eq_of_testBit_eq
    intro m
    rw [Nat.zero_testBit]
    by_cases hm : m < 32
    · exact low m (by omega)
    · unfold rest
      rw [not_bit hX]
      simp [hm]
  · refine Or.inr ⟨by omega, ?_, low⟩
    rw [bitR _ (by omega)]
    by_cases h32 : p.2 + p.1 % 32 < 32
    · rw [t3 _ h32, g3 _ h32]
      have e1 : 32 * (p.1 / 32) + (p.2 + p.1 % 32) = p.1 + p.2 := by omega
      rw [e1]
      have hin : inp p (p.1 + p.2) = false := by simp [inp]
      have e2 : ¬ p.1 % 32 = p.2 + p.1 % 32 := by omega
      rw [hin]
      cases hc : cov (l1 ++ l2) (p.1 + p.2) with
      | false => simp
      | true =>
        have e4 : decide (p.1 % 32 = p.2 + p.1 % 32) = false := by rw [decide_eq_false_iff_not]; exact e2
        rw [h.ok.behind hc, e4]; simp
    · have : T.testBit (p.2 + p.1 % 32) = false := Nat.testBit_lt_two_pow (Nat.lt_of_lt_of_le t2 (Nat.pow_le_pow_right (n := 2) (i := 32) (by omega) (by omega)))
      rw [this]; rfl

/-- Behind a Free the words tell of the others. -/
theorem Inv.free {n a : Nat} {f g : Nat → Int} {l1 l2 : List Pc} {p : Pc} (h : Inv n a f (l1 ++ p :: l2)) {T G : Nat}
    (hT : f (a + 1 + 2 * (p.1 / 32)) = (T : Int)) (hG : f (a + 2 + 2 * (p.1 / 32)) = (G : Int))
    (g0 : g a = ((loads (l1 ++ l2) : Nat) : Int)) (g1 : g (a + 1 + 2 * (p.1 / 32)) = ((T &&& (4294967295 - ons p.2 * 2 ^ (p.1 % 32)) : Nat) : Int)) (g2 : g (a + 2 + 2 * (p.1 / 32)) = ((G &&& (4294967295 - 2 ^ (p.1 % 32)) : Nat) : Int))
    (g3 : ∀ x, a ≤ x → x < heap a n → x ≠ a → x ≠ a + 1 + 2 * (p.1 / 32) → x ≠ a + 2 + 2 * (p.1 / 32) → g x = f x) : Inv n a g (l1 ++ l2) := by
  have hh : heap a n = a + 1 + 2 * gro n := rfl
  have hmem : p ∈ l1 ++ p :: l2 := List.mem_append.2 (Or.inr (List.mem_cons_self))
  have hgr := h.ok.group hmem
  have hs := h.ok.size p hmem
  have hx : p.1 = 32 * (p.1 / 32) + p.1 % 32 := (Nat.div_add_mod p.1 32).symm
  have hb : p.1 % 32 < 32 := Nat.mod_lt _ (by omega)
  refine ⟨h.ok.drop, by have := h.most; rw [loads_mid] at this; omega, g0, fun i' hi' => ?_, fun i' hi' => ?_⟩
  · obtain ⟨T', e1, e2, e3⟩ := h.tk i' hi'
    simp only [cov_mid] at e3
    by_cases e : i' = p.1 / 32
    · subst e
      rw [hT] at e1
      obtain rfl : T = T' := by omega
      refine ⟨_, g1, andnot_lt _ e2, fun j hj => ?_⟩
      rw [Nat.testBit_and, e3 j hj, not_bit (mul_lt32 (by omega)), Nat.testBit_mul_two_pow, ons_bit]
      cases hin : inp p (32 * (p.1 / 32) + j) with
      | true =>
        have h1 := h.ok.alone hin
        simp only [inp, Bool.and_eq_true, decide_eq_true_eq] at hin
        have h2 : p.1 % 32 ≤ j := by omega
        have h3 : j - p.1 % 32 < p.2 := by omega
        simp [h1, h2, h3]
      | false =>
        have h4 : (decide (p.1 % 32 ≤ j) && decide (j - p.1 % 32 < p.2)) = false := by
          simp only [inp, Bool.and_eq_false_iff, decide_eq_false_iff_not] at hin ⊢
          omega
        rw [h4]
        simp [hj]
    · refine ⟨T', by rw [g3 _ (by omega) (by omega) (by omega) (by omega) (by omega)]; exact e1, e2, fun j hj => ?_⟩
      rw [e3 j hj]
      have h1 : inp p (32 * i' + j) = false := by
        simp only [inp, Bool.and_eq_false_iff, decide_eq_false_iff_not]; omega
      rw [h1, Bool.or_false]
  · obtain ⟨G', e1, e2, e3⟩ := h.bg i' hi'
    simp only [beg_mid] at e3
    by_cases e : i' = p.1 / 32
    · subst e
      rw [hG] at e1
      obtain rfl : G = G' := by omega
      refine ⟨_, g2, andnot_lt _ e2, fun j hj => ?_⟩
      rw [Nat.testBit_and, e3 j hj, not_bit (pow_lt32 hb), Nat.testBit_two_pow]
      by_cases hj2 : p.1 % 32 = j
      · have h1 : inp p (32 * (p.1 / 32) + j) = true := by
          simp only [inp, Bool.and_eq_true, decide_eq_true_eq]; omega
        have h2 := h.ok.alone_beg h1
        have h3 : decide (p.1 % 32 = j) = true := by rw [decide_eq_true_eq]; exact hj2
        simp only [h2, h3]
        simp
      · have h1 : ¬ p.1 = 32 * (p.1 / 32) + j := by omega
        simp [hj2, h1, hj]
    · refine ⟨G', by rw [g3 _ (by omega) (by omega) (by omega) (by omega) (by omega)]; exact e1, e2, fun j hj => ?_⟩
      rw [e3 j hj]
      have h1 : ¬ p.1 = 32 * i' + j := by omega
      simp [h1]

end Go.Proofs.YtagnkdeeiligcaaDoor
