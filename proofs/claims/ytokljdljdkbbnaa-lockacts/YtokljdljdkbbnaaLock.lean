/-
  Package lock: a contract a function.
-/
import Derived.Test.YtokljdljdkbbnaaHs
namespace Go.Proofs.Ytokljdljdkbbnaa
open Go.RowKit
set_option linter.unusedVariables false

theorem wrap_small (c : Int) (h0 : -1000000 ≤ c) (h1 : c ≤ 1000000) : wrap64 c = c := by
  unfold wrap64
  omega

set_option maxRecDepth 100000 in
theorem held (c : Int) (w : World) : Calls Try.prog 24 #[.int .i64 c] w fun e w' => e = .returned (.int .i64 (wrap64 (c + 1))) ∧ w' = w := by
  go_enter Try.func24, Try.ntmps24
  go_wp2_with fail
  go_ret
  exact ⟨rfl, rfl⟩

set_option maxRecDepth 100000 in
theorem refused_ok (w : World) : Calls Try.prog 25 #[.int .i64 0] w fun e w' => e = .returned (.int .i64 0) ∧ w' = w := by
  go_enter Try.func25, Try.ntmps25
  go_wp2_with fail
  go_ret
  exact ⟨rfl, rfl⟩

set_option maxRecDepth 100000 in
theorem refused_nil (w : World) : Calls Try.prog 25 #[.int .i64 1] w fun e w' => e = .returned (.int .i64 1) ∧ w' = w := by
  go_enter Try.func25, Try.ntmps25
  go_wp2_with fail
  go_ret
  exact ⟨rfl, rfl⟩

set_option maxRecDepth 100000 in
theorem refused_no (n : Int) (hn : n = 201 ∨ n = 202) (w : World) : Calls Try.prog 25 #[.int .i64 n] w fun e w' => e = .returned (.int .i64 500) ∧ w' = w := by
  rcases hn with rfl | rfl
  · go_enter Try.func25, Try.ntmps25
    go_wp2_with fail
    go_ret
    exact ⟨rfl, rfl⟩
  · go_enter Try.func25, Try.ntmps25
    go_wp2_with fail
    go_ret
    exact ⟨rfl, rfl⟩

set_option maxRecDepth 100000 in
set_option maxHeartbeats 4000000 in
theorem try_yes {S : List (Nat × Obj)} {w0 w : World} {b : Nat} {A : Ar} (h : Hs S w0 w b A) (c k : Int) (c0 : 0 ≤ c) (c1 : c < (A.traces.length : Int)) (k0 : 0 ≤ k) (k1 : k < (A.words.length : Int)) (hn : (A.traces.getD c.toNat []).length < 1000000) (hy : wordAt A.words k.toNat = 0) :
    Calls Try.prog 10 #[.pointer (some ⟨b, 0, none⟩), .int .i64 c, .int .i64 k] w fun e w' => e = .returned (.tuple #[.bool true, .int .i64 0]) ∧ Hs S w0 w' b (A.touch c.toNat k.toNat (some (c + 1))) := by
  have hs := h.size
  have hw : wrap64 (c + 1) = c + 1 := wrap_small _ (by omega) (by omega)
  go_enter Try.func10, Try.ntmps10
  go_wp2_with fail
  refine (held c _).mono ?_
  rintro e w' ⟨rfl, rfl⟩
  rw [hw]
  go_wp2_with fail
  refine (h_cas h c k 0 (c + 1) c0 c1 k0 k1 hn hy).mono ?_
  rintro e w2 ⟨rfl, h2⟩
  have H2 : Hid (_) := h2
  clear h2
  go_wp2_with fail
  refine (refused_ok _).mono ?_
  rintro e w' ⟨rfl, rfl⟩
  go_wp2_with fail
  go_ret2
  exact ⟨rfl, H2.out⟩

set_option maxRecDepth 100000 in
set_option maxHeartbeats 4000000 in
theorem try_no {S : List (Nat × Obj)} {w0 w : World} {b : Nat} {A : Ar} (h : Hs S w0 w b A) (c k : Int) (c0 : 0 ≤ c) (c1 : c < (A.traces.length : Int)) (k0 : 0 ≤ k) (k1 : k < (A.words.length : Int)) (hn : (A.traces.getD c.toNat []).length < 1000000) (hy : wordAt A.words k.toNat ≠ 0) :
    Calls Try.prog 10 #[.pointer (some ⟨b, 0, none⟩), .int .i64 c, .int .i64 k] w fun e w' => e = .returned (.tuple #[.bool false, .int .i64 0]) ∧ Hs S w0 w' b (A.touch c.toNat k.toNat none) := by
  have hs := h.size
  have hw : wrap64 (c + 1) = c + 1 := wrap_small _ (by omega) (by omega)
  go_enter Try.func10, Try.ntmps10
  go_wp2_with fail
  refine (held c _).mono ?_
  rintro e w' ⟨rfl, rfl⟩
  rw [hw]
  go_wp2_with fail
  refine (h_cas_not h c k 0 (c + 1) c0 c1 k0 k1 hn hy).mono ?_
  rintro e w2 ⟨rfl, h2⟩
  have H2 : Hid (_) := h2
  clear h2
  go_wp2_with fail
  refine (refused_ok _).mono ?_
  rintro e w' ⟨rfl, rfl⟩
  go_wp2_with fail
  go_ret2
  exact ⟨rfl, H2.out⟩

set_option maxRecDepth 100000 in
set_option maxHeartbeats 4000000 in
theorem unlock_no {S : List (Nat × Obj)} {w0 w : World} {b : Nat} {A : Ar} (h : Hs S w0 w b A) (c k : Int) (c0 : 0 ≤ c) (c1 : c < (A.traces.length : Int)) (k0 : 0 ≤ k) (k1 : k < (A.words.length : Int)) (hn : (A.traces.getD c.toNat []).length < 1000000) (hy : wordAt A.words k.toNat ≠ c + 1) :
    Calls Try.prog 11 #[.pointer (some ⟨b, 0, none⟩), .int .i64 c, .int .i64 k] w fun e w' => e = .returned (.int .i64 501) ∧ Hs S w0 w' b (A.touch c.toNat k.toNat none) := by
  have hs := h.size
  have hw : wrap64 (c + 1) = c + 1 := wrap_small _ (by omega) (by omega)
  go_enter Try.func11, Try.ntmps11
  go_wp2_with fail
  refine (h_load h c k c0 c1 k0 k1 hn).mono ?_
  rintro e w2 ⟨rfl, h2⟩
  have H2 : Hid (_) := h2
  clear h2
  have t1 : (wordAt A.words k.toNat == c + 1) = false := by simp [hy]
  generalize wordAt A.words k.toNat = z at *
  clear hy
  go_wp2_with fail
  refine (held c _).mono ?_
  rintro e w' ⟨rfl, rfl⟩
  rw [hw]
  go_wp2_with fail
  go_ret
  exact ⟨rfl, H2.out⟩

set_option maxRecDepth 100000 in
set_option maxHeartbeats 4000000 in
theorem unlock_yes {S : List (Nat × Obj)} {w0 w : World} {b : Nat} {A : Ar} (h : Hs S w0 w b A) (c k : Int) (c0 : 0 ≤ c) (c1 : c < (A.traces.length : Int)) (k0 : 0 ≤ k) (k1 : k < (A.words.length : Int)) (hn : (A.traces.getD c.toNat []).length < 999999) (hy : wordAt A.words k.toNat = c + 1) :
    Calls Try.prog 11 #[.pointer (some ⟨b, 0, none⟩), .int .i64 c, .int .i64 k] w fun e w' => e = .returned (.int .i64 0) ∧ Hs S w0 w' b ((A.touch c.toNat k.toNat none).touch c.toNat k.toNat (some 0)) := by
  have hs := h.size
  have hw : wrap64 (c + 1) = c + 1 := wrap_small _ (by omega) (by omega)
  go_enter Try.func11, Try.ntmps11
  go_wp2_with fail
  refine (h_load h c k c0 c1 k0 k1 (by omega)).mono ?_
  rintro e w2 ⟨rfl, h2⟩
  have H2 : Hid (_) := h2
  clear h2
  rw [hy]
  clear hy
  go_wp2_with fail
  refine (held c _).mono ?_
  rintro e w' ⟨rfl, rfl⟩
  rw [hw]
  have H1 : Hid (_) := H2.out
  clear H2
  go_wp2_with fail
  refine (h_store H1.out c k 0 c0 (by rw [touch_cores]; exact c1) k0 k1 (by rw [touch_trace _ _ _ _ _ (by omega), if_pos rfl, List.length_append]; simp only [List.length_cons, List.length_nil]; omega)).mono ?_
  rintro e w2 ⟨rfl, h2⟩
  have H2 : Hid (_) := h2
  clear h2
  go_wp2_with fail
  refine (refused_ok _).mono ?_
  rintro e w' ⟨rfl, rfl⟩
  go_wp2_with fail
  go_ret
  exact ⟨rfl, H2.out⟩

/-- Who holds a lock, by its word. -/
def holds (n : Nat) (z : Int) : Int := if 1 ≤ z ∧ z ≤ (n : Int) then z - 1 else -1

set_option maxRecDepth 100000 in
set_option maxHeartbeats 4000000 in
theorem holder_low {S : List (Nat × Obj)} {w0 w : World} {b : Nat} {A : Ar} (h : Hs S w0 w b A) (c k z : Int) (c0 : 0 ≤ c) (c1 : c < (A.traces.length : Int)) (k0 : 0 ≤ k) (k1 : k < (A.words.length : Int)) (hn : (A.traces.getD c.toNat []).length < 1000000) (hy : wordAt A.words k.toNat = z) (hz : z < 1) :
    Calls Try.prog 12 #[.pointer (some ⟨b, 0, none⟩), .int .i64 c, .int .i64 k] w fun e w' => e = .returned (.tuple #[.int .i64 (holds A.traces.length z), .int .i64 0]) ∧ Hs S w0 w' b (A.touch c.toNat k.toNat none) := by
  have hs := h.size
  have hw : wrap64 (0 + 1) = 1 := wrap_small _ (by omega) (by omega)
  have hw1 : wrap64 ((A.traces.length : Int) - 1) = (A.traces.length : Int) - 1 := wrap_small _ (by omega) (by omega)
  have hw2 : wrap64 ((A.traces.length : Int) - 1 + 1) = (A.traces.length : Int) := by rw [wrap_small _ (by omega) (by omega)]; omega
  rw [show holds A.traces.length z = -1 from by unfold holds; rw [if_neg (by omega)]]
  go_enter Try.func12, Try.ntmps12
  go_wp2_with fail
  refine (h_load h c k c0 c1 k0 k1 hn).mono ?_
  rintro e w2 ⟨rfl, h2⟩
  have H2 : Hid (_) := h2
  clear h2
  rw [hy]
  clear hy
  have HT : Hid (((A.touch c.toNat k.toNat none).traces.length : Int) = (A.traces.length : Int)) := by
    show ((A.touch c.toNat k.toNat none).traces.length : Int) = (A.traces.length : Int)
    rw [touch_cores]
  go_wp2_with fail
  refine (held 0 _).mono ?_
  rintro e w' ⟨rfl, rfl⟩
  rw [hw]
  go_wp2_with fail
  go_ret2
  exact ⟨rfl, H2.out⟩

set_option maxRecDepth 100000 in
set_option maxHeartbeats 4000000 in
theorem holder_high {S : List (Nat × Obj)} {w0 w : World} {b : Nat} {A : Ar} (h : Hs S w0 w b A) (c k z : Int) (c0 : 0 ≤ c) (c1 : c < (A.traces.length : Int)) (k0 : 0 ≤ k) (k1 : k < (A.words.length : Int)) (hn : (A.traces.getD c.toNat []).length < 1000000) (hy : wordAt A.words k.toNat = z) (hz : (A.traces.length : Int) < z) :
    Calls Try.prog 12 #[.pointer (some ⟨b, 0, none⟩), .int .i64 c, .int .i64 k] w fun e w' => e = .returned (.tuple #[.int .i64 (holds A.traces.length z), .int .i64 0]) ∧ Hs S w0 w' b (A.touch c.toNat k.toNat none) := by
  have hs := h.size
  have hw : wrap64 (0 + 1) = 1 := wrap_small _ (by omega) (by omega)
  have hw1 : wrap64 ((A.traces.length : Int) - 1) = (A.traces.length : Int) - 1 := wrap_small _ (by omega) (by omega)
  have hw2 : wrap64 ((A.traces.length : Int) - 1 + 1) = (A.traces.length : Int) := by rw [wrap_small _ (by omega) (by omega)]; omega
  rw [show holds A.traces.length z = -1 from by unfold holds; rw [if_neg (by omega)]]
  go_enter Try.func12, Try.ntmps12
  go_wp2_with fail
  refine (h_load h c k c0 c1 k0 k1 hn).mono ?_
  rintro e w2 ⟨rfl, h2⟩
  have H2 : Hid (_) := h2
  clear h2
  rw [hy]
  clear hy
  have HT : Hid (((A.touch c.toNat k.toNat none).traces.length : Int) = (A.traces.length : Int)) := by
    show ((A.touch c.toNat k.toNat none).traces.length : Int) = (A.traces.length : Int)
    rw [touch_cores]
  have t1 : ¬ z < 1 := by omega
  go_wp2_with fail
  refine (held 0 _).mono ?_
  rintro e w' ⟨rfl, rfl⟩
  rw [hw]
  go_wp2_with fail
  refine (h_cores H2.out).mono ?_
  rintro e w' ⟨rfl, rfl⟩
  rw [HT.out]
  generalize (A.traces.length : Int) = m at *
  go_wp2_with fail
  refine (held (m - 1) _).mono ?_
  rintro e w' ⟨rfl, rfl⟩
  rw [hw2]
  go_wp2_with fail
  go_ret2
  exact ⟨rfl, H2.out⟩

set_option maxRecDepth 100000 in
set_option maxHeartbeats 4000000 in
theorem holder_some {S : List (Nat × Obj)} {w0 w : World} {b : Nat} {A : Ar} (h : Hs S w0 w b A) (c k z : Int) (c0 : 0 ≤ c) (c1 : c < (A.traces.length : Int)) (k0 : 0 ≤ k) (k1 : k < (A.words.length : Int)) (hn : (A.traces.getD c.toNat []).length < 1000000) (hy : wordAt A.words k.toNat = z) (hz : 1 ≤ z) (hz2 : z ≤ (A.traces.length : Int)) :
    Calls Try.prog 12 #[.pointer (some ⟨b, 0, none⟩), .int .i64 c, .int .i64 k] w fun e w' => e = .returned (.tuple #[.int .i64 (holds A.traces.length z), .int .i64 0]) ∧ Hs S w0 w' b (A.touch c.toNat k.toNat none) := by
  have hs := h.size
  have hw : wrap64 (0 + 1) = 1 := wrap_small _ (by omega) (by omega)
  have hw1 : wrap64 ((A.traces.length : Int) - 1) = (A.traces.length : Int) - 1 := wrap_small _ (by omega) (by omega)
  have hw2 : wrap64 ((A.traces.length : Int) - 1 + 1) = (A.traces.length : Int) := by rw [wrap_small _ (by omega) (by omega)]; omega
  rw [show holds A.traces.length z = z - 1 from by unfold holds; rw [if_pos ⟨hz, hz2⟩]]
  go_enter Try.func12, Try.ntmps12
  go_wp2_with fail
  refine (h_load h c k c0 c1 k0 k1 hn).mono ?_
  rintro e w2 ⟨rfl, h2⟩
  have H2 : Hid (_) := h2
  clear h2
  rw [hy]
  clear hy
  have HT : Hid (((A.touch c.toNat k.toNat none).traces.length : Int) = (A.traces.length : Int)) := by
    show ((A.touch c.toNat k.toNat none).traces.length : Int) = (A.traces.length : Int)
    rw [touch_cores]
  have t1 : ¬ z < 1 := by omega
  have t2 : ¬ (A.traces.length : Int) < z := by omega
  have hw3 : wrap64 (z - 1) = z - 1 := wrap_small _ (by omega) (by omega)
  go_wp2_with fail
  refine (held 0 _).mono ?_
  rintro e w' ⟨rfl, rfl⟩
  rw [hw]
  go_wp2_with fail
  refine (h_cores H2.out).mono ?_
  rintro e w' ⟨rfl, rfl⟩
  rw [HT.out]
  generalize (A.traces.length : Int) = m at *
  go_wp2_with fail
  refine (held (m - 1) _).mono ?_
  rintro e w' ⟨rfl, rfl⟩
  rw [hw2]
  go_wp2_with fail
  refine (held 0 _).mono ?_
  rintro e w' ⟨rfl, rfl⟩
  rw [hw]
  go_wp2_with fail
  go_ret2
  exact ⟨by show Ending.returned (.tuple #[.int .i64 (wrap64 (z - 1)), .int .i64 0]) = _; rw [hw3], H2.out⟩

theorem holder_any {S : List (Nat × Obj)} {w0 w : World} {b : Nat} {A : Ar} (h : Hs S w0 w b A) (c k : Int) (c0 : 0 ≤ c) (c1 : c < (A.traces.length : Int)) (k0 : 0 ≤ k) (k1 : k < (A.words.length : Int)) (hn : (A.traces.getD c.toNat []).length < 1000000) :
    Calls Try.prog 12 #[.pointer (some ⟨b, 0, none⟩), .int .i64 c, .int .i64 k] w fun e w' => e = .returned (.tuple #[.int .i64 (holds A.traces.length (wordAt A.words k.toNat)), .int .i64 0]) ∧ Hs S w0 w' b (A.touch c.toNat k.toNat none) := by
  obtain ⟨z, hz⟩ : ∃ z, wordAt A.words k.toNat = z := ⟨_, rfl⟩
  rw [hz]
  by_cases h1 : z < 1
  · exact holder_low h c k z c0 c1 k0 k1 hn hz h1
  · by_cases h2 : (A.traces.length : Int) < z
    · exact holder_high h c k z c0 c1 k0 k1 hn hz h2
    · exact holder_some h c k z c0 c1 k0 k1 hn hz (by omega) (by omega)

theorem and_one (n : Int) : bits .and .i64 n 1 = n % 2 := by
  have h1 : (BitVec.ofInt 64 1).toNat = 2 ^ 1 - 1 := by decide
  have key : (BitVec.ofInt 64 n &&& BitVec.ofInt 64 1).toNat = (n % ((2 ^ 64 : Nat) : Int)).toNat % 2 ^ 1 := by
    rw [BitVec.toNat_and, BitVec.toNat_ofInt, h1, Nat.and_two_pow_sub_one_eq_mod]
  show IntKind.i64.wrap ((BitVec.ofInt 64 n &&& BitVec.ofInt 64 1).toNat : Nat) = n % 2
  rw [key, IntKind.wrap_i64]
  omega

set_option maxRecDepth 100000 in
set_option maxHeartbeats 4000000 in
theorem begin_any {S : List (Nat × Obj)} {w0 w : World} {b : Nat} {A : Ar} (h : Hs S w0 w b A) (c k : Int) (c0 : 0 ≤ c) (c1 : c < (A.traces.length : Int)) (k0 : 0 ≤ k) (k1 : k < (A.words.length : Int)) (hn : (A.traces.getD c.toNat []).length < 1000000) :
    Calls Try.prog 13 #[.pointer (some ⟨b, 0, none⟩), .int .i64 c, .int .i64 k] w fun e w' => e = .returned (.tuple #[.int .i64 (wordAt A.words k.toNat), .bool (wordAt A.words k.toNat % 2 == 0), .int .i64 0]) ∧ Hs S w0 w' b (A.touch c.toNat k.toNat none) := by
  have hs := h.size
  obtain ⟨z, hz⟩ : ∃ z, wordAt A.words k.toNat = z := ⟨_, rfl⟩
  rw [hz]
  have HZ : Hid (_ = _) := hz
  clear hz
  go_enter Try.func13, Try.ntmps13
  go_wp2_with fail
  refine (h_load h c k c0 c1 k0 k1 hn).mono ?_
  rintro e w2 ⟨rfl, h2⟩
  have H2 : Hid (_) := h2
  clear h2
  rw [HZ.out]
  have ha := and_one z
  go_wp2_with fail
  go_ret3
  exact ⟨rfl, H2.out⟩

set_option maxRecDepth 100000 in
set_option maxHeartbeats 4000000 in
theorem same_word {S : List (Nat × Obj)} {w0 w : World} {b : Nat} {A : Ar} (h : Hs S w0 w b A) (c k v : Int) (c0 : 0 ≤ c) (c1 : c < (A.traces.length : Int)) (k0 : 0 ≤ k) (k1 : k < (A.words.length : Int)) (hn : (A.traces.getD c.toNat []).length < 1000000) :
    Calls Try.prog 14 #[.pointer (some ⟨b, 0, none⟩), .int .i64 c, .int .i64 k, .int .i64 v] w fun e w' => e = .returned (.tuple #[.bool (wordAt A.words k.toNat == v), .int .i64 0]) ∧ Hs S w0 w' b (A.touch c.toNat k.toNat none) := by
  have hs := h.size
  obtain ⟨z, hz⟩ : ∃ z, wordAt A.words k.toNat = z := ⟨_, rfl⟩
  rw [hz]
  have HZ : Hid (_ = _) := hz
  clear hz
  go_enter Try.func14, Try.ntmps14
  go_wp2_with fail
  refine (h_load h c k c0 c1 k0 k1 hn).mono ?_
  rintro e w2 ⟨rfl, h2⟩
  have H2 : Hid (_) := h2
  clear h2
  rw [HZ.out]
  go_wp2_with fail
  go_ret2
  exact ⟨rfl, H2.out⟩

set_option maxRecDepth 100000 in
set_option maxHeartbeats 4000000 in
theorem turn_any {S : List (Nat × Obj)} {w0 w : World} {b : Nat} {A : Ar} (h : Hs S w0 w b A) (c k : Int) (c0 : 0 ≤ c) (c1 : c < (A.traces.length : Int)) (k0 : 0 ≤ k) (k1 : k < (A.words.length : Int)) (hn : (A.traces.getD c.toNat []).length < 1000000) :
    Calls Try.prog 15 #[.pointer (some ⟨b, 0, none⟩), .int .i64 c, .int .i64 k] w fun e w' => e = .returned (.int .i64 0) ∧ Hs S w0 w' b (A.touch c.toNat k.toNat (some (wrap64 (wordAt A.words k.toNat + 1)))) := by
  have hs := h.size
  go_enter Try.func15, Try.ntmps15
  go_wp2_with fail
  refine (h_add h c k 1 c0 c1 k0 k1 hn).mono ?_
  rintro e w2 ⟨rfl, h2⟩
  have H2 : Hid (_) := h2
  clear h2
  go_wp2_with fail
  refine (refused_ok _).mono ?_
  rintro e w' ⟨rfl, rfl⟩
  go_wp2_with fail
  go_ret
  exact ⟨rfl, H2.out⟩

set_option maxRecDepth 100000 in
set_option maxHeartbeats 4000000 in
theorem try_bad {S : List (Nat × Obj)} {w0 w : World} {b : Nat} {A : Ar} (h : Hs S w0 w b A) (c k : Int) (hb : (c < 0 ∨ (A.traces.length : Int) ≤ c) ∨ (k < 0 ∨ (A.words.length : Int) ≤ k)) :
    Calls Try.prog 10 #[.pointer (some ⟨b, 0, none⟩), .int .i64 c, .int .i64 k] w fun e w' => e = .returned (.tuple #[.bool false, .int .i64 500]) ∧ Hs S w0 w' b A := by
  have HB : Hid (_) := hb
  clear hb
  go_enter Try.func10, Try.ntmps10
  go_wp2_with fail
  refine (held c _).mono ?_
  rintro e w' ⟨rfl, rfl⟩
  go_wp2_with fail
  refine (h_cas_bad h c k 0 (wrap64 (c + 1)) HB.out).mono ?_
  rintro e w2 ⟨n, rfl, hn, h2⟩
  have H2 : Hid (_) := h2
  have HN : Hid (_) := hn
  have t1 : (n == 0) = false := by rcases hn with rfl | rfl <;> rfl
  clear h2 hn
  go_wp2_with fail
  refine (refused_no n HN.out _).mono ?_
  rintro e w' ⟨rfl, rfl⟩
  go_wp2_with fail
  go_ret2
  exact ⟨rfl, H2.out⟩

set_option maxRecDepth 100000 in
set_option maxHeartbeats 4000000 in
theorem unlock_bad {S : List (Nat × Obj)} {w0 w : World} {b : Nat} {A : Ar} (h : Hs S w0 w b A) (c k : Int) (hb : (c < 0 ∨ (A.traces.length : Int) ≤ c) ∨ (k < 0 ∨ (A.words.length : Int) ≤ k)) :
    Calls Try.prog 11 #[.pointer (some ⟨b, 0, none⟩), .int .i64 c, .int .i64 k] w fun e w' => e = .returned (.int .i64 500) ∧ Hs S w0 w' b A := by
  have HB : Hid (_) := hb
  clear hb
  go_enter Try.func11, Try.ntmps11
  go_wp2_with fail
  refine (h_load_bad h c k HB.out).mono ?_
  rintro e w2 ⟨n, rfl, hn, h2⟩
  have H2 : Hid (_) := h2
  have HN : Hid (_) := hn
  have t1 : (n == 0) = false := by rcases hn with rfl | rfl <;> rfl
  clear h2 hn
  go_wp2_with fail
  refine (refused_no n HN.out _).mono ?_
  rintro e w' ⟨rfl, rfl⟩
  go_wp2_with fail
  go_ret
  exact ⟨rfl, H2.out⟩

set_option maxRecDepth 100000 in
set_option maxHeartbeats 4000000 in
theorem holder_bad {S : List (Nat × Obj)} {w0 w : World} {b : Nat} {A : Ar} (h : Hs S w0 w b A) (c k : Int) (hb : (c < 0 ∨ (A.traces.length : Int) ≤ c) ∨ (k < 0 ∨ (A.words.length : Int) ≤ k)) :
    Calls Try.prog 12 #[.pointer (some ⟨b, 0, none⟩), .int .i64 c, .int .i64 k] w fun e w' => e = .returned (.tuple #[.int .i64 0, .int .i64 500]) ∧ Hs S w0 w' b A := by
  have HB : Hid (_) := hb
  clear hb
  go_enter Try.func12, Try.ntmps12
  go_wp2_with fail
  refine (h_load_bad h c k HB.out).mono ?_
  rintro e w2 ⟨n, rfl, hn, h2⟩
  have H2 : Hid (_) := h2
  have HN : Hid (_) := hn
  have t1 : (n == 0) = false := by rcases hn with rfl | rfl <;> rfl
  clear h2 hn
  go_wp2_with fail
  refine (refused_no n HN.out _).mono ?_
  rintro e w' ⟨rfl, rfl⟩
  go_wp2_with fail
  go_ret2
  exact ⟨rfl, H2.out⟩

set_option maxRecDepth 100000 in
set_option maxHeartbeats 4000000 in
theorem begin_bad {S : List (Nat × Obj)} {w0 w : World} {b : Nat} {A : Ar} (h : Hs S w0 w b A) (c k : Int) (hb : (c < 0 ∨ (A.traces.length : Int) ≤ c) ∨ (k < 0 ∨ (A.words.length : Int) ≤ k)) :
    Calls Try.prog 13 #[.pointer (some ⟨b, 0, none⟩), .int .i64 c, .int .i64 k] w fun e w' => e = .returned (.tuple #[.int .i64 0, .bool false, .int .i64 500]) ∧ Hs S w0 w' b A := by
  have HB : Hid (_) := hb
  clear hb
  go_enter Try.func13, Try.ntmps13
  go_wp2_with fail
  refine (h_load_bad h c k HB.out).mono ?_
  rintro e w2 ⟨n, rfl, hn, h2⟩
  have H2 : Hid (_) := h2
  have HN : Hid (_) := hn
  have t1 : (n == 0) = false := by rcases hn with rfl | rfl <;> rfl
  clear h2 hn
  go_wp2_with fail
  refine (refused_no n HN.out _).mono ?_
  rintro e w' ⟨rfl, rfl⟩
  go_wp2_with fail
  go_ret3
  exact ⟨rfl, H2.out⟩

set_option maxRecDepth 100000 in
set_option maxHeartbeats 4000000 in
theorem same_bad {S : List (Nat × Obj)} {w0 w : World} {b : Nat} {A : Ar} (h : Hs S w0 w b A) (c k : Int) (v : Int) (hb : (c < 0 ∨ (A.traces.length : Int) ≤ c) ∨ (k < 0 ∨ (A.words.length : Int) ≤ k)) :
    Calls Try.prog 14 #[.pointer (some ⟨b, 0, none⟩), .int .i64 c, .int .i64 k, .int .i64 v] w fun e w' => e = .returned (.tuple #[.bool false, .int .i64 500]) ∧ Hs S w0 w' b A := by
  have HB : Hid (_) := hb
  clear hb
  go_enter Try.func14, Try.ntmps14
  go_wp2_with fail
  refine (h_load_bad h c k HB.out).mono ?_
  rintro e w2 ⟨n, rfl, hn, h2⟩
  have H2 : Hid (_) := h2
  have HN : Hid (_) := hn
  have t1 : (n == 0) = false := by rcases hn with rfl | rfl <;> rfl
  clear h2 hn
  go_wp2_with fail
  refine (refused_no n HN.out _).mono ?_
  rintro e w' ⟨rfl, rfl⟩
  go_wp2_with fail
  go_ret2
  exact ⟨rfl, H2.out⟩

set_option maxRecDepth 100000 in
set_option maxHeartbeats 4000000 in
theorem turn_bad {S : List (Nat × Obj)} {w0 w : World} {b : Nat} {A : Ar} (h : Hs S w0 w b A) (c k : Int) (hb : (c < 0 ∨ (A.traces.length : Int) ≤ c) ∨ (k < 0 ∨ (A.words.length : Int) ≤ k)) :
    Calls Try.prog 15 #[.pointer (some ⟨b, 0, none⟩), .int .i64 c, .int .i64 k] w fun e w' => e = .returned (.int .i64 500) ∧ Hs S w0 w' b A := by
  have HB : Hid (_) := hb
  clear hb
  go_enter Try.func15, Try.ntmps15
  go_wp2_with fail
  refine (h_add_bad h c k 1 HB.out).mono ?_
  rintro e w2 ⟨n, rfl, hn, h2⟩
  have H2 : Hid (_) := h2
  have HN : Hid (_) := hn
  have t1 : (n == 0) = false := by rcases hn with rfl | rfl <;> rfl
  clear h2 hn
  go_wp2_with fail
  refine (refused_no n HN.out _).mono ?_
  rintro e w' ⟨rfl, rfl⟩
  go_wp2_with fail
  go_ret
  exact ⟨rfl, H2.out⟩

end Go.Proofs.Ytokljdljdkbbnaa
