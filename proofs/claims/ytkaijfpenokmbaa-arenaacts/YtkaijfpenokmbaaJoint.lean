/-
  One call of both.
-/
import Derived.Test.YtkaijfpenokmbaaTwo
import Derived.Test.YtkaijfpenokmbaaRtload
import Derived.Test.YtkaijfpenokmbaaRtstore
import Derived.Test.YtkaijfpenokmbaaRtcasno
import Derived.Test.YtkaijfpenokmbaaRtcasyes
import Derived.Test.YtkaijfpenokmbaaRtadd
namespace Go.Proofs.Ytkaijfpenokmbaa
open Go.RowKit

/-- No more than an access further. -/
structure Near (A B : Ar) : Prop where
  words : B.words.length = A.words.length
  cores : B.traces.length = A.traces.length
  many : ∀ d, (B.traces.getD d []).length ≤ (A.traces.getD d []).length + 1

theorem Near.refl (A : Ar) : Near A A := ⟨rfl, rfl, fun d => by omega⟩

theorem Near.touch (A : Ar) (c k : Nat) (ch : Option Int) (hc : c < A.traces.length) : Near A (A.touch c k ch) where
  words := by cases ch <;> simp [Ar.touch, Ar.note, Ar.put]
  cores := touch_cores _ _ _ _
  many := fun d => by
    rw [touch_trace _ _ _ _ _ hc]
    by_cases e : d = c
    · subst e; rw [if_pos rfl, List.length_append]; exact Nat.le_refl _
    · rw [if_neg e]; omega

theorem Near.clear (A : Ar) (c : Nat) (hc : c < A.traces.length) : Near A (A.clear c) where
  words := rfl
  cores := clear_cores _ _
  many := fun d => by
    rw [clear_trace _ _ _ hc]
    by_cases e : d = c
    · rw [if_pos e]; simp
    · rw [if_neg e]; omega

def Small (A : Ar) : Prop := ∀ d, (A.traces.getD d []).length < 1000000

theorem t_words {w0 w : World} {b c : Nat} {A R : Ar} {ob : Option (Nat × Obj)} (h : Two w0 w b c A R ob) : Calls Try.prog 12 #[.pointer (some ⟨b, 0, none⟩)] w fun e w' => e = .returned (.int .i64 (A.words.length : Int)) ∧ w' = w := by
  obtain ⟨hK, p, q, rfl, rfl, h3, h4, h5, h6, h7, h8⟩ := h
  exact words_any h6

theorem t_cores {w0 w : World} {b c : Nat} {A R : Ar} {ob : Option (Nat × Obj)} (h : Two w0 w b c A R ob) : Calls Try.prog 13 #[.pointer (some ⟨b, 0, none⟩)] w fun e w' => e = .returned (.int .i64 (A.traces.length : Int)) ∧ w' = w := by
  obtain ⟨hK, p, q, rfl, rfl, h3, h4, h5, h6, h7, h8⟩ := h
  exact cores_any h6

theorem j_traces {w0 w : World} {b c : Nat} {A : Ar} {ob : Option (Nat × Obj)} (h : Two w0 w b c A A ob) (hs : Small A) (i : Int) :
    Calls Try.prog 21 #[.pointer (some ⟨b, 0, none⟩), .pointer (some ⟨c, 0, none⟩), .int .i64 i] w fun e w' => e = .returned (.bool true) ∧ Two w0 w' b c A A ob := by
  by_cases hi : i < 0 ∨ (A.traces.length : Int) ≤ i
  · exact traces_no h rfl i hi
  · obtain ⟨j, rfl⟩ := Int.eq_ofNat_of_zero_le (show 0 ≤ i by omega)
    exact traces_yes h j (by omega) (hs j)

theorem j_clear {w0 w : World} {b c : Nat} {A : Ar} {ob : Option (Nat × Obj)} (h : Two w0 w b c A A ob) (i : Int) :
    Calls Try.prog 19 #[.pointer (some ⟨b, 0, none⟩), .int .i64 i] w fun e w1 => ∃ B cd, e = .returned (.int .i64 cd) ∧ Near A B ∧ Two w0 w1 b c B A ob ∧
      Calls Try.prog 20 #[.pointer (some ⟨c, 0, none⟩), .int .i64 i] w1 fun e w2 => e = .returned (.int .i64 cd) ∧ Two w0 w2 b c B B ob := by
  have h0 := h
  obtain ⟨hK, p, q, rfl, rfl, h3, h4, h5, h6, h7, h8⟩ := h
  by_cases hi : i < 0 ∨ (A.traces.length : Int) ≤ i
  · refine (clear_no h6 i hi).mono ?_
    rintro e w1 ⟨rfl, rfl⟩
    refine ⟨A, 202, rfl, Near.refl _, h0, (rclear_no h7 i hi).mono ?_⟩
    rintro e w2 ⟨rfl, rfl⟩
    exact ⟨rfl, h0⟩
  · obtain ⟨j, rfl⟩ := Int.eq_ofNat_of_zero_le (show 0 ≤ i by omega)
    have hj : j < A.traces.length := by omega
    refine (clear_yes h6 j hj).mono ?_
    rintro e w1 ⟨rfl, p', hto, ha⟩
    have hT := Two.left hK h3 h4 h5 h7 h8 hto ha
    refine ⟨_, 0, rfl, Near.clear A j hj, hT, ?_⟩
    obtain ⟨gK, p2, q2, g1, g2, g3, g4, g5, g6, g7, g8⟩ := hT
    rw [← g1, ← g2]
    refine (rclear_yes g7 j hj).mono ?_
    rintro e w2 ⟨rfl, q', hto2, ha2⟩
    exact ⟨rfl, Two.right gK g3 g4 g5 g6 g8 hto2 ha2⟩

theorem j_load {w0 w : World} {b c : Nat} {A : Ar} {ob : Option (Nat × Obj)} (h : Two w0 w b c A A ob) (hs : Small A) (i k : Int) :
    Calls Try.prog 14 #[.pointer (some ⟨b, 0, none⟩), .int .i64 i, .int .i64 k] w fun e w1 => ∃ B x cd, e = .returned (.tuple #[.int .i64 x, .int .i64 cd]) ∧ Near A B ∧ Two w0 w1 b c B A ob ∧
      Calls Try.prog 15 #[.pointer (some ⟨c, 0, none⟩), .int .i64 0, .int .i64 i, .int .i64 k, .int .i64 0, .int .i64 0] w1 fun e w2 => ∃ bq, e = .returned (.tuple #[.int .i64 x, .bool bq, .int .i64 cd]) ∧ Two w0 w2 b c B B ob := by
  have h0 := h
  obtain ⟨hK, p, q, rfl, rfl, h3, h4, h5, h6, h7, h8⟩ := h
  by_cases hi : i < 0 ∨ (A.traces.length : Int) ≤ i
  · refine (load_nocore h6 i k hi).mono ?_
    rintro e w1 ⟨rfl, hk1⟩
    have hT := h0.still hk1
    refine ⟨A, 0, 202, rfl, Near.refl _, hT, ?_⟩
    refine (rt_nocore (h7.kept0 hk1) 0 i k 0 0 hi).mono ?_
    rintro e w2 ⟨rfl, rfl⟩
    exact ⟨_, rfl, hT⟩
  · obtain ⟨ci, rfl⟩ := Int.eq_ofNat_of_zero_le (show 0 ≤ i by omega)
    have hci : ci < A.traces.length := by omega
    by_cases hk : k < 0 ∨ (A.words.length : Int) ≤ k
    · refine (load_noplace h6 ci k hci hk).mono ?_
      rintro e w1 ⟨rfl, hk1⟩
      have hT := h0.still hk1
      refine ⟨A, 0, 201, rfl, Near.refl _, hT, ?_⟩
      refine (rt_noplace (h7.kept0 hk1) 0 ci k 0 0 hci hk).mono ?_
      rintro e w2 ⟨rfl, rfl⟩
      exact ⟨_, rfl, hT⟩
    · obtain ⟨kk, rfl⟩ := Int.eq_ofNat_of_zero_le (show 0 ≤ k by omega)
      have hkk : kk < A.words.length := by omega
      refine (load_yes h6 ci kk hci hkk (hs ci)).mono ?_
      rintro e w1 ⟨rfl, p', hto, ha⟩
      have hT := Two.left hK h3 h4 h5 h7 h8 hto ha
      refine ⟨_, _, 0, rfl, Near.touch A ci kk _ hci, hT, ?_⟩
      obtain ⟨gK, p2, q2, g1, g2, g3, g4, g5, g6, g7, g8⟩ := hT
      rw [← g1, ← g2]
      refine (rt_load g7 ci kk 0 0 hci hkk (hs ci)).mono ?_
      rintro e w2 ⟨rfl, q', hto2, ha2⟩
      exact ⟨_, rfl, Two.right gK g3 g4 g5 g6 g8 hto2 ha2⟩

theorem j_store {w0 w : World} {b c : Nat} {A : Ar} {ob : Option (Nat × Obj)} (h : Two w0 w b c A A ob) (hs : Small A) (i k z : Int) :
    Calls Try.prog 16 #[.pointer (some ⟨b, 0, none⟩), .int .i64 i, .int .i64 k, .int .i64 z] w fun e w1 => ∃ B cd, e = .returned (.int .i64 cd) ∧ Near A B ∧ Two w0 w1 b c B A ob ∧
      Calls Try.prog 15 #[.pointer (some ⟨c, 0, none⟩), .int .i64 1, .int .i64 i, .int .i64 k, .int .i64 0, .int .i64 z] w1 fun e w2 => ∃ x bq, e = .returned (.tuple #[.int .i64 x, .bool bq, .int .i64 cd]) ∧ Two w0 w2 b c B B ob := by
  have h0 := h
  obtain ⟨hK, p, q, rfl, rfl, h3, h4, h5, h6, h7, h8⟩ := h
  by_cases hi : i < 0 ∨ (A.traces.length : Int) ≤ i
  · refine (store_nocore h6 i k z hi).mono ?_
    rintro e w1 ⟨rfl, hk1⟩
    have hT := h0.still hk1
    refine ⟨A, 202, rfl, Near.refl _, hT, ?_⟩
    refine (rt_nocore (h7.kept0 hk1) 1 i k 0 z hi).mono ?_
    rintro e w2 ⟨rfl, rfl⟩
    exact ⟨_, _, rfl, hT⟩
  · obtain ⟨ci, rfl⟩ := Int.eq_ofNat_of_zero_le (show 0 ≤ i by omega)
    have hci : ci < A.traces.length := by omega
    by_cases hk : k < 0 ∨ (A.words.length : Int) ≤ k
    · refine (store_noplace h6 ci k z hci hk).mono ?_
      rintro e w1 ⟨rfl, hk1⟩
      have hT := h0.still hk1
      refine ⟨A, 201, rfl, Near.refl _, hT, ?_⟩
      refine (rt_noplace (h7.kept0 hk1) 1 ci k 0 z hci hk).mono ?_
      rintro e w2 ⟨rfl, rfl⟩
      exact ⟨_, _, rfl, hT⟩
    · obtain ⟨kk, rfl⟩ := Int.eq_ofNat_of_zero_le (show 0 ≤ k by omega)
      have hkk : kk < A.words.length := by omega
      refine (store_yes h6 ci kk z hci hkk (hs ci)).mono ?_
      rintro e w1 ⟨rfl, p', hto, ha⟩
      have hT := Two.left hK h3 h4 h5 h7 h8 hto ha
      refine ⟨_, 0, rfl, Near.touch A ci kk _ hci, hT, ?_⟩
      obtain ⟨gK, p2, q2, g1, g2, g3, g4, g5, g6, g7, g8⟩ := hT
      rw [← g1, ← g2]
      refine (rt_store g7 ci kk 0 z hci hkk (hs ci)).mono ?_
      rintro e w2 ⟨rfl, q', hto2, ha2⟩
      exact ⟨_, _, rfl, Two.right gK g3 g4 g5 g6 g8 hto2 ha2⟩

theorem j_cas {w0 w : World} {b c : Nat} {A : Ar} {ob : Option (Nat × Obj)} (h : Two w0 w b c A A ob) (hs : Small A) (i k o z : Int) :
    Calls Try.prog 17 #[.pointer (some ⟨b, 0, none⟩), .int .i64 i, .int .i64 k, .int .i64 o, .int .i64 z] w fun e w1 => ∃ B bq cd, e = .returned (.tuple #[.bool bq, .int .i64 cd]) ∧ Near A B ∧ Two w0 w1 b c B A ob ∧
      Calls Try.prog 15 #[.pointer (some ⟨c, 0, none⟩), .int .i64 2, .int .i64 i, .int .i64 k, .int .i64 o, .int .i64 z] w1 fun e w2 => ∃ x, e = .returned (.tuple #[.int .i64 x, .bool bq, .int .i64 cd]) ∧ Two w0 w2 b c B B ob := by
  have h0 := h
  obtain ⟨hK, p, q, rfl, rfl, h3, h4, h5, h6, h7, h8⟩ := h
  by_cases hi : i < 0 ∨ (A.traces.length : Int) ≤ i
  · refine (cas_nocore h6 i k o z hi).mono ?_
    rintro e w1 ⟨rfl, hk1⟩
    have hT := h0.still hk1
    refine ⟨A, false, 202, rfl, Near.refl _, hT, ?_⟩
    refine (rt_nocore (h7.kept0 hk1) 2 i k o z hi).mono ?_
    rintro e w2 ⟨rfl, rfl⟩
    exact ⟨_, rfl, hT⟩
  · obtain ⟨ci, rfl⟩ := Int.eq_ofNat_of_zero_le (show 0 ≤ i by omega)
    have hci : ci < A.traces.length := by omega
    by_cases hk : k < 0 ∨ (A.words.length : Int) ≤ k
    · refine (cas_noplace h6 ci k o z hci hk).mono ?_
      rintro e w1 ⟨rfl, hk1⟩
      have hT := h0.still hk1
      refine ⟨A, false, 201, rfl, Near.refl _, hT, ?_⟩
      refine (rt_noplace (h7.kept0 hk1) 2 ci k o z hci hk).mono ?_
      rintro e w2 ⟨rfl, rfl⟩
      exact ⟨_, rfl, hT⟩
    · obtain ⟨kk, rfl⟩ := Int.eq_ofNat_of_zero_le (show 0 ≤ k by omega)
      have hkk : kk < A.words.length := by omega
      by_cases hy : wordAt A.words kk = o
      · refine (cas_yes h6 ci kk o z hci hkk (hs ci) hy).mono ?_
        rintro e w1 ⟨rfl, p', hto, ha⟩
        have hT := Two.left hK h3 h4 h5 h7 h8 hto ha
        refine ⟨_, _, 0, rfl, Near.touch A ci kk _ hci, hT, ?_⟩
        obtain ⟨gK, p2, q2, g1, g2, g3, g4, g5, g6, g7, g8⟩ := hT
        rw [← g1, ← g2]
        refine (rt_casyes g7 ci kk o z hci hkk (hs ci) hy).mono ?_
        rintro e w2 ⟨rfl, q', hto2, ha2⟩
        exact ⟨_, rfl, Two.right gK g3 g4 g5 g6 g8 hto2 ha2⟩
      · refine (cas_no h6 ci kk o z hci hkk (hs ci) hy).mono ?_
        rintro e w1 ⟨rfl, p', hto, ha⟩
        have hT := Two.left hK h3 h4 h5 h7 h8 hto ha
        refine ⟨_, _, 0, rfl, Near.touch A ci kk _ hci, hT, ?_⟩
        obtain ⟨gK, p2, q2, g1, g2, g3, g4, g5, g6, g7, g8⟩ := hT
        rw [← g1, ← g2]
        refine (rt_casno g7 ci kk o z hci hkk (hs ci) hy).mono ?_
        rintro e w2 ⟨rfl, q', hto2, ha2⟩
        exact ⟨_, rfl, Two.right gK g3 g4 g5 g6 g8 hto2 ha2⟩

theorem j_add {w0 w : World} {b c : Nat} {A : Ar} {ob : Option (Nat × Obj)} (h : Two w0 w b c A A ob) (hs : Small A) (i k z : Int) :
    Calls Try.prog 18 #[.pointer (some ⟨b, 0, none⟩), .int .i64 i, .int .i64 k, .int .i64 z] w fun e w1 => ∃ B x cd, e = .returned (.tuple #[.int .i64 x, .int .i64 cd]) ∧ Near A B ∧ Two w0 w1 b c B A ob ∧
      Calls Try.prog 15 #[.pointer (some ⟨c, 0, none⟩), .int .i64 3, .int .i64 i, .int .i64 k, .int .i64 0, .int .i64 z] w1 fun e w2 => ∃ bq, e = .returned (.tuple #[.int .i64 x, .bool bq, .int .i64 cd]) ∧ Two w0 w2 b c B B ob := by
  have h0 := h
  obtain ⟨hK, p, q, rfl, rfl, h3, h4, h5, h6, h7, h8⟩ := h
  by_cases hi : i < 0 ∨ (A.traces.length : Int) ≤ i
  · refine (add_nocore h6 i k z hi).mono ?_
    rintro e w1 ⟨rfl, hk1⟩
    have hT := h0.still hk1
    refine ⟨A, 0, 202, rfl, Near.refl _, hT, ?_⟩
    refine (rt_nocore (h7.kept0 hk1) 3 i k 0 z hi).mono ?_
    rintro e w2 ⟨rfl, rfl⟩
    exact ⟨_, rfl, hT⟩
  · obtain ⟨ci, rfl⟩ := Int.eq_ofNat_of_zero_le (show 0 ≤ i by omega)
    have hci : ci < A.traces.length := by omega
    by_cases hk : k < 0 ∨ (A.words.length : Int) ≤ k
    · refine (add_noplace h6 ci k z hci hk).mono ?_
      rintro e w1 ⟨rfl, hk1⟩
      have hT := h0.still hk1
      refine ⟨A, 0, 201, rfl, Near.refl _, hT, ?_⟩
      refine (rt_noplace (h7.kept0 hk1) 3 ci k 0 z hci hk).mono ?_
      rintro e w2 ⟨rfl, rfl⟩
      exact ⟨_, rfl, hT⟩
    · obtain ⟨kk, rfl⟩ := Int.eq_ofNat_of_zero_le (show 0 ≤ k by omega)
      have hkk : kk < A.words.length := by omega
      refine (add_yes h6 ci kk z hci hkk (hs ci)).mono ?_
      rintro e w1 ⟨rfl, p', hto, ha⟩
      have hT := Two.left hK h3 h4 h5 h7 h8 hto ha
      refine ⟨_, _, 0, rfl, Near.touch A ci kk _ hci, hT, ?_⟩
      obtain ⟨gK, p2, q2, g1, g2, g3, g4, g5, g6, g7, g8⟩ := hT
      rw [← g1, ← g2]
      refine (rt_add g7 ci kk 0 z hci hkk (hs ci)).mono ?_
      rintro e w2 ⟨rfl, q', hto2, ha2⟩
      exact ⟨_, rfl, Two.right gK g3 g4 g5 g6 g8 hto2 ha2⟩

end Go.Proofs.Ytkaijfpenokmbaa
