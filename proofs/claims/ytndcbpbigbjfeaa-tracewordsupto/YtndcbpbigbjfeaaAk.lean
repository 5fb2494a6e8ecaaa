/-
  awake.
-/
import Derived.Test.YtndcbpbigbjfeaaMe
namespace Go.Proofs.Ytndcbpbigbjfeaa
open Go.RowKit
set_option linter.unusedSimpArgs false
set_option linter.unusedVariables false

theorem al_new (w : World) (X : List (Int × Bool)) : Al (w.alloc (.cells (acc X).toArray 35)) (some ⟨w.heap.size, 0, none⟩) X := fun i p q hi => by
  obtain ⟨h1, h2⟩ := acc_get X i _ hi
  have e := heap_alloc_new w (.cells (acc X).toArray 35)
  refine ⟨_, _, rfl, ?_, ?_⟩
  · rw [Nat.zero_add]; simp only [World.cell?, e]; simpa using h1
  · rw [Nat.zero_add]; simp only [World.cell?, e]; simpa using h2

theorem rd_new (w : World) (Y : List Int) : Rd (w.alloc (.cells (Y.map (Value.int .i64)).toArray 3)) (.slice (some ⟨w.heap.size, 0, none⟩) Y.length Y.length) Y := by
  have e := heap_alloc_new w (.cells (Y.map (Value.int .i64)).toArray 3)
  refine ⟨_, _, rfl, Nat.le_refl _, fun i hi => ⟨_, _, rfl, ?_⟩⟩
  rw [Nat.zero_add]
  simp only [World.cell?, e]
  simp [hi]

set_option maxRecDepth 100000 in
set_option maxHeartbeats 2000000 in
theorem p_awake (w : World) : Calls Try.prog 15 #[] w fun e w' => e = .returned (.bool true) ∧ Still w w' := by
  go_enter Try.func15, Try.ntmps15
  go_wp2_with fail
  have s1 : Still w (w.alloc (.cells #[.int .i64 1, .bool false, .int .i64 2, .bool true] 35)) := (Below.refl _ _).alloc (Nat.le_refl _) _
  have a1 : Al (w.alloc (.cells #[.int .i64 1, .bool false, .int .i64 2, .bool true] 35)) (some ⟨w.heap.size, 0, none⟩) [(1, false), (2, true)] := al_new w [(1, false), (2, true)]
  have z1 : (w.alloc (.cells #[.int .i64 1, .bool false, .int .i64 2, .bool true] 35)).heap.size = w.heap.size + 1 := by simp
  obtain ⟨w1, hw1⟩ : ∃ w1, w1 = w.alloc (.cells #[.int .i64 1, .bool false, .int .i64 2, .bool true] 35) := ⟨_, rfl⟩
  rw [← hw1] at s1 a1 z1
  rw [← hw1]
  have H1 : Hid (Still w w1 ∧ Al w1 (some ⟨w.heap.size, 0, none⟩) [(1, false), (2, true)]) := ⟨s1, a1⟩
  have s2 : Still w1 (w1.alloc (.cells #[.int .i64 2, .bool false] 35)) := (Below.refl _ _).alloc (Nat.le_refl _) _
  have a2 : Al (w1.alloc (.cells #[.int .i64 2, .bool false] 35)) (some ⟨w.heap.size + 1, 0, none⟩) [(2, false)] := by rw [← z1]; exact al_new w1 [(2, false)]
  refine (p_Meet (c := 2) (d := 1) (X := [(1, false), (2, true)]) (Y := [(2, false)]) (a1.still s2) a2 (by simp) (by simp)).mono ?_
  rintro e w2 ⟨rfl, s3⟩
  rw [show meetB [(1, false), (2, true)] [(2, false)] = true from by decide]
  have S2 : Hid (Still w1 w2) := s2.then s3
  clear hw1 s1 a1 s2 a2 s3 z1
  go_wp2_with fail
  have s4 : Still w2 (w2.alloc (.cells #[.int .i64 1, .bool false] 35)) := (Below.refl _ _).alloc (Nat.le_refl _) _
  refine (p_Meet (c := 2) (d := 1) (X := [(1, false), (2, true)]) (Y := [(1, false)]) (H1.out.2.still (S2.out.then s4)) (al_new w2 [(1, false)]) (by simp) (by simp)).mono ?_
  rintro e w3 ⟨rfl, s5⟩
  rw [show meetB [(1, false), (2, true)] [(1, false)] = false from by decide]
  have S3 : Hid (Still w1 w3) := S2.out.then (s4.then s5)
  clear s4 s5 S2
  go_wp2_with fail
  refine (p_Words (c := 2) (X := [(1, false), (2, true)]) (H1.out.2.still S3.out) (by simp)).mono ?_
  rintro e w4 ⟨u, rfl, o4, s6⟩
  rw [show canon (pos (fun _ => true) [(1, false), (2, true)]) = [1, 2] from by decide] at o4
  have S4 : Hid (Still w1 w4 ∧ Own w4 w3.heap.size u [1, 2]) := ⟨S3.out.then s6, o4⟩
  clear s6 o4 S3
  go_wp2_with fail
  have s7 : Still w4 (w4.alloc (.cells #[.int .i64 1, .int .i64 2] 3)) := (Below.refl _ _).alloc (Nat.le_refl _) _
  refine (p_same (X := [1, 2]) (S4.out.2.rd.still s7) (rd_new w4 [1, 2]) (by simp)).mono ?_
  rintro e w5 ⟨rfl, s8⟩
  have S5 : Hid (Still w1 w5) := S4.out.1.then (s7.then s8)
  clear s7 s8 S4
  go_wp2_with fail
  refine (p_Writes (c := 2) (X := [(1, false), (2, true)]) (H1.out.2.still S5.out) (by simp)).mono ?_
  rintro e w6 ⟨v, rfl, o6, s9⟩
  rw [show canon (pos id [(1, false), (2, true)]) = [2] from by decide] at o6
  have S6 : Hid (Still w1 w6 ∧ Own w6 w5.heap.size v [2]) := ⟨S5.out.then s9, o6⟩
  clear s9 o6 S5
  go_wp2_with fail
  have s10 : Still w6 (w6.alloc (.cells #[.int .i64 2] 3)) := (Below.refl _ _).alloc (Nat.le_refl _) _
  refine (p_same (X := [2]) (S6.out.2.rd.still s10) (rd_new w6 [2]) (by simp)).mono ?_
  rintro e w7 ⟨rfl, s11⟩
  have S7 : Hid (Still w w7) := H1.out.1.then (S6.out.1.then (s10.then s11))
  clear s10 s11 S6 H1
  go_wp2_with fail
  refine (p_num w7).mono ?_
  rintro e w8 ⟨rfl, rfl⟩
  go_wp2_with fail
  go_ret
  exact ⟨rfl, S7.out⟩

end Go.Proofs.Ytndcbpbigbjfeaa
