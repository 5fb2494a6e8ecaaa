/-
  Go's own reading of a rune at a text's beginning (unicode/utf8.DecodeRuneInString), by its two tables; is it a stray byte?
-/
import Derived.Test.YtgfdcnjnkljahaaDoorRh
import Derived.Lib.DecodeNEq
import Derived.Laws.BitsLemmas
import Derived.Laws.Strings3
namespace Go.Proofs.YtgfdcnjnkljahaaDoor
open Go.RowKit Go.Lib
set_option linter.unusedVariables false

/-- The two tables lie where they are laid. -/
def Tab (w : World) : Prop :=
  (∀ c, c < 256 → w.cell? ⟨0, c, none⟩ = some (.int .u8 (firstT c))) ∧
  (∀ i, i < 16 → w.cell? ⟨1, 2 * i, none⟩ = some (.int .u8 (accLo i)) ∧ w.cell? ⟨1, 2 * i + 1, none⟩ = some (.int .u8 (accHi i)))

theorem Tab.kept {w w' : World} (h : Tab w) (k : Kept [] w w') : Tab w' :=
  ⟨fun c hc => k.cell (h.1 c hc) (by simp), fun i hi => ⟨k.cell (h.2 i hi).1 (by simp), k.cell (h.2 i hi).2 (by simp)⟩⟩

/-- Every entry of the first table. -/
theorem first_any (b : Nat) (h : 128 ≤ b) : firstT b = 241 ∨ firstT b = 2 ∨ firstT b = 19 ∨ firstT b = 3 ∨ firstT b = 35 ∨ firstT b = 52 ∨ firstT b = 4 ∨ firstT b = 68 := by
  unfold firstT
  rw [if_neg (by omega)]
  repeat' split
  all_goals simp

theorem stray_mask : wrap32 517543559168 / 2147483648 = -1 := by unfold wrap32; omega
set_option maxRecDepth 100000 in
theorem stray_byte : ∀ x : Fin 256, bits .or .i32 (bits .andNot .i32 ((x.val : Nat) : Int) (-1)) (bits .and .i32 65533 (-1)) = 65533 := by decide

theorem tup {a b c d : Int} (h1 : a = c) (h2 : b = d) : Ending.returned (.tuple #[.int .i32 a, .int .i64 b]) = .returned (.tuple #[.int .i32 c, .int .i64 d]) := by rw [h1, h2]

/-- What the decoder answers of a text's beginning, where it does not begin with a byte below 128. -/
def Slow (s : ByteArray) (w : World) : Prop :=
  Calls Tryd.prog 67 #[.string s] w fun e w' => e = .returned (.tuple #[.int .i32 ((Utf8.decode s 0).1 : Int), .int .i64 ((Utf8.decode s 0).2 : Int)]) ∧ Kept [] w w'

theorem dec_eq (s : ByteArray) : Utf8.decode s 0 = decodeN s.size (at8 s 0) (at8 s 1) (at8 s 2) (at8 s 3) := by
  rw [decode_at]; rfl

theorem at8_in {s : ByteArray} {i : Nat} (h : i < s.size) : (s[i]'h).toNat = at8 s i := (at8_get s i h).symm

set_option maxHeartbeats 4000000 in
set_option maxRecDepth 1000000 in
theorem slow_241 (s : ByteArray) (w : World) (hT : Tab w) (h0 : 0 < s.size) (hX : firstT (at8 s 0) = 241) : Slow s w := by
  unfold Slow
  have hd : Utf8.decode s 0 = (65533, 1) := by rw [dec_eq]; exact bad_eq _ _ _ _ _ (at8_lt s 0) hX
  rw [hd]
  have l0 := at8_lt s 0
  have hz0 : (0 : Int) < (s.size : Int) := by omega
  have hz1 : ¬ ((s.size : Int) < 1) := by omega
  have hs0 := at8_in h0
  have hc := hT.1 (at8 s 0) l0
  rw [hX] at hc
  clear hT hX hd
  have HS : Hid (_) := hs0
  generalize at8 s 0 = x0 at *
  go_enter Tryd.func67, Tryd.ntmps67
  go_wp2
  rw [stray_mask, stray_byte ⟨x0, l0⟩]
  go_ret2
  exact ⟨rfl, Kept.refl _ _⟩

set_option maxHeartbeats 4000000 in
set_option maxRecDepth 1000000 in
theorem slow_2 (s : ByteArray) (w : World) (hT : Tab w) (h0 : 0 < s.size) (hX : firstT (at8 s 0) = 2) : Slow s w := by
  unfold Slow
  have l0 := at8_lt s 0
  have l1 := at8_lt s 1
  have l2 := at8_lt s 2
  have l3 := at8_lt s 3
  have hd : Utf8.decode s 0 = slowN s.size (at8 s 0) (at8 s 1) (at8 s 2) (at8 s 3) 2 (accLo 0) (accHi 0) := by
    rw [dec_eq]
    have := slow_eq s.size (at8 s 0) (at8 s 1) (at8 s 2) (at8 s 3) (by omega) l1 l2 l3 (by omega)
    rw [hX] at this
    exact this.symm
  have hz0 : (0 : Int) < (s.size : Int) := by omega
  have hz1 : ¬ ((s.size : Int) < 1) := by omega
  have hs0 := at8_in h0
  have hc := hT.1 (at8 s 0) l0
  have ha := (hT.2 0 (by omega)).1
  have hb := (hT.2 0 (by omega)).2
  rw [hX] at hc
  simp only [accLo, accHi, Nat.reduceMul, Nat.reduceAdd, Nat.reduceEqDiff, if_true, if_false] at ha hb hd
  rw [hd]
  clear hT hX hd
  by_cases hn : s.size < 2
  · have hnz : (s.size : Int) < 2 := by omega
    generalize at8 s 0 = x0 at *
    go_enter Tryd.func67, Tryd.ntmps67
    go_wp2
    all_goals (go_ret2; refine ⟨?_, (Kept.refl _ _).alloc _⟩; unfold slowN; rw [if_pos hn]; rfl)
  · have hnz : ¬ ((s.size : Int) < 2) := by omega
    have k1 : (1 : Int) < (s.size : Int) := by omega
    have hs1 := at8_in (show 1 < s.size by omega)
    generalize at8 s 0 = x0 at *
    generalize at8 s 1 = x1 at *
    generalize at8 s 2 = x2 at *
    generalize at8 s 3 = x3 at *
    go_enter Tryd.func67, Tryd.ntmps67
    go_wp2
    all_goals
      go_ret2
      refine ⟨?_, (Kept.refl _ _).alloc _⟩
      unfold slowN
      repeat' split
      all_goals first
        | (exfalso; omega)
        | rfl
        | (simp only [Int.natCast_add, Int.natCast_mul, Int.natCast_emod, Int.natCast_ofNat]; rfl)

set_option maxHeartbeats 4000000 in
set_option maxRecDepth 1000000 in
theorem slow_19 (s : ByteArray) (w : World) (hT : Tab w) (h0 : 0 < s.size) (hX : firstT (at8 s 0) = 19) : Slow s w := by
  unfold Slow
  have l0 := at8_lt s 0
  have l1 := at8_lt s 1
  have l2 := at8_lt s 2
  have l3 := at8_lt s 3
  have hd : Utf8.decode s 0 = slowN s.size (at8 s 0) (at8 s 1) (at8 s 2) (at8 s 3) 3 (accLo 1) (accHi 1) := by
    rw [dec_eq]
    have := slow_eq s.size (at8 s 0) (at8 s 1) (at8 s 2) (at8 s 3) (by omega) l1 l2 l3 (by omega)
    rw [hX] at this
    exact this.symm
  have hz0 : (0 : Int) < (s.size : Int) := by omega
  have hz1 : ¬ ((s.size : Int) < 1) := by omega
  have hs0 := at8_in h0
  have hc := hT.1 (at8 s 0) l0
  have ha := (hT.2 1 (by omega)).1
  have hb := (hT.2 1 (by omega)).2
  rw [hX] at hc
  simp only [accLo, accHi, Nat.reduceMul, Nat.reduceAdd, Nat.reduceEqDiff, if_true, if_false] at ha hb hd
  rw [hd]
  clear hT hX hd
  by_cases hn : s.size < 3
  · have hnz : (s.size : Int) < 3 := by omega
    generalize at8 s 0 = x0 at *
    go_enter Tryd.func67, Tryd.ntmps67
    go_wp2
    all_goals (go_ret2; refine ⟨?_, (Kept.refl _ _).alloc _⟩; unfold slowN; rw [if_pos hn]; rfl)
  · have hnz : ¬ ((s.size : Int) < 3) := by omega
    have k1 : (1 : Int) < (s.size : Int) := by omega
    have hs1 := at8_in (show 1 < s.size by omega)
    have k2 : (2 : Int) < (s.size : Int) := by omega
    have hs2 := at8_in (show 2 < s.size by omega)
    generalize at8 s 0 = x0 at *
    generalize at8 s 1 = x1 at *
    generalize at8 s 2 = x2 at *
    generalize at8 s 3 = x3 at *
    go_enter Tryd.func67, Tryd.ntmps67
    go_wp2
    all_goals
      go_ret2
      refine ⟨?_, (Kept.refl _ _).alloc _⟩
      unfold slowN
      repeat' split
      all_goals first
        | (exfalso; omega)
        | rfl
        | (simp only [Int.natCast_add, Int.natCast_mul, Int.natCast_emod, Int.natCast_ofNat]; rfl)

set_option maxHeartbeats 4000000 in
set_option maxRecDepth 1000000 in
theorem slow_3 (s : ByteArray) (w : World) (hT : Tab w) (h0 : 0 < s.size) (hX : firstT (at8 s 0) = 3) : Slow s w := by
  unfold Slow
  have l0 := at8_lt s 0
  have l1 := at8_lt s 1
  have l2 := at8_lt s 2
  have l3 := at8_lt s 3
  have hd : Utf8.decode s 0 = slowN s.size (at8 s 0) (at8 s 1) (at8 s 2) (at8 s 3) 3 (accLo 0) (accHi 0) := by
    rw [dec_eq]
    have := slow_eq s.size (at8 s 0) (at8 s 1) (at8 s 2) (at8 s 3) (by omega) l1 l2 l3 (by omega)
    rw [hX] at this
    exact this.symm
  have hz0 : (0 : Int) < (s.size : Int) := by omega
  have hz1 : ¬ ((s.size : Int) < 1) := by omega
  have hs0 := at8_in h0
  have hc := hT.1 (at8 s 0) l0
  have ha := (hT.2 0 (by omega)).1
  have hb := (hT.2 0 (by omega)).2
  rw [hX] at hc
  simp only [accLo, accHi, Nat.reduceMul, Nat.reduceAdd, Nat.reduceEqDiff, if_true, if_false] at ha hb hd
  rw [hd]
  clear hT hX hd
  by_cases hn : s.size < 3
  · have hnz : (s.size : Int) < 3 := by omega
    generalize at8 s 0 = x0 at *
    go_enter Tryd.func67, Tryd.ntmps67
    go_wp2
    all_goals (go_ret2; refine ⟨?_, (Kept.refl _ _).alloc _⟩; unfold slowN; rw [if_pos hn]; rfl)
  · have hnz : ¬ ((s.size : Int) < 3) := by omega
    have k1 : (1 : Int) < (s.size : Int) := by omega
    have hs1 := at8_in (show 1 < s.size by omega)
    have k2 : (2 : Int) < (s.size : Int) := by omega
    have hs2 := at8_in (show 2 < s.size by omega)
    generalize at8 s 0 = x0 at *
    generalize at8 s 1 = x1 at *
    generalize at8 s 2 = x2 at *
    generalize at8 s 3 = x3 at *
    go_enter Tryd.func67, Tryd.ntmps67
    go_wp2
    all_goals
      go_ret2
      refine ⟨?_, (Kept.refl _ _).alloc _⟩
      unfold slowN
      repeat' split
      all_goals first
        | (exfalso; omega)
        | rfl
        | (simp only [Int.natCast_add, Int.natCast_mul, Int.natCast_emod, Int.natCast_ofNat]; rfl)

set_option maxHeartbeats 4000000 in
set_option maxRecDepth 1000000 in
theorem slow_35 (s : ByteArray) (w : World) (hT : Tab w) (h0 : 0 < s.size) (hX : firstT (at8 s 0) = 35) : Slow s w := by
  unfold Slow
  have l0 := at8_lt s 0
  have l1 := at8_lt s 1
  have l2 := at8_lt s 2
  have l3 := at8_lt s 3
  have hd : Utf8.decode s 0 = slowN s.size (at8 s 0) (at8 s 1) (at8 s 2) (at8 s 3) 3 (accLo 2) (accHi 2) := by
    rw [dec_eq]
    have := slow_eq s.size (at8 s 0) (at8 s 1) (at8 s 2) (at8 s 3) (by omega) l1 l2 l3 (by omega)
    rw [hX] at this
    exact this.symm
  have hz0 : (0 : Int) < (s.size : Int) := by omega
  have hz1 : ¬ ((s.size : Int) < 1) := by omega
  have hs0 := at8_in h0
  have hc := hT.1 (at8 s 0) l0
  have ha := (hT.2 2 (by omega)).1
  have hb := (hT.2 2 (by omega)).2
  rw [hX] at hc
  simp only [accLo, accHi, Nat.reduceMul, Nat.reduceAdd, Nat.reduceEqDiff, if_true, if_false] at ha hb hd
  rw [hd]
  clear hT hX hd
  by_cases hn : s.size < 3
  · have hnz : (s.size : Int) < 3 := by omega
    generalize at8 s 0 = x0 at *
    go_enter Tryd.func67, Tryd.ntmps67
    go_wp2
    all_goals (go_ret2; refine ⟨?_, (Kept.refl _ _).alloc _⟩; unfold slowN; rw [if_pos hn]; rfl)
  · have hnz : ¬ ((s.size : Int) < 3) := by omega
    have k1 : (1 : Int) < (s.size : Int) := by omega
    have hs1 := at8_in (show 1 < s.size by omega)
    have k2 : (2 : Int) < (s.size : Int) := by omega
    have hs2 := at8_in (show 2 < s.size by omega)
    generalize at8 s 0 = x0 at *
    generalize at8 s 1 = x1 at *
    generalize at8 s 2 = x2 at *
    generalize at8 s 3 = x3 at *
    go_enter Tryd.func67, Tryd.ntmps67
    go_wp2
    all_goals
      go_ret2
      refine ⟨?_, (Kept.refl _ _).alloc _⟩
      unfold slowN
      repeat' split
      all_goals first
        | (exfalso; omega)
        | rfl
        | (simp only [Int.natCast_add, Int.natCast_mul, Int.natCast_emod, Int.natCast_ofNat]; rfl)

set_option maxHeartbeats 4000000 in
set_option maxRecDepth 1000000 in
theorem slow_52 (s : ByteArray) (w : World) (hT : Tab w) (h0 : 0 < s.size) (hX : firstT (at8 s 0) = 52) : Slow s w := by
  unfold Slow
  have l0 := at8_lt s 0
  have l1 := at8_lt s 1
  have l2 := at8_lt s 2
  have l3 := at8_lt s 3
  have hd : Utf8.decode s 0 = slowN s.size (at8 s 0) (at8 s 1) (at8 s 2) (at8 s 3) 4 (accLo 3) (accHi 3) := by
    rw [dec_eq]
    have := slow_eq s.size (at8 s 0) (at8 s 1) (at8 s 2) (at8 s 3) (by omega) l1 l2 l3 (by omega)
    rw [hX] at this
    exact this.symm
  have hz0 : (0 : Int) < (s.size : Int) := by omega
  have hz1 : ¬ ((s.size : Int) < 1) := by omega
  have hs0 := at8_in h0
  have hc := hT.1 (at8 s 0) l0
  have ha := (hT.2 3 (by omega)).1
  have hb := (hT.2 3 (by omega)).2
  rw [hX] at hc
  simp only [accLo, accHi, Nat.reduceMul, Nat.reduceAdd, Nat.reduceEqDiff, if_true, if_false] at ha hb hd
  rw [hd]
  clear hT hX hd
  by_cases hn : s.size < 4
  · have hnz : (s.size : Int) < 4 := by omega
    generalize at8 s 0 = x0 at *
    go_enter Tryd.func67, Tryd.ntmps67
    go_wp2
    all_goals (go_ret2; refine ⟨?_, (Kept.refl _ _).alloc _⟩; unfold slowN; rw [if_pos hn]; rfl)
  · have hnz : ¬ ((s.size : Int) < 4) := by omega
    have k1 : (1 : Int) < (s.size : Int) := by omega
    have hs1 := at8_in (show 1 < s.size by omega)
    have k2 : (2 : Int) < (s.size : Int) := by omega
    have hs2 := at8_in (show 2 < s.size by omega)
    have k3 : (3 : Int) < (s.size : Int) := by omega
    have hs3 := at8_in (show 3 < s.size by omega)
    generalize at8 s 0 = x0 at *
    generalize at8 s 1 = x1 at *
    generalize at8 s 2 = x2 at *
    generalize at8 s 3 = x3 at *
    go_enter Tryd.func67, Tryd.ntmps67
    go_wp2
    all_goals
      go_ret2
      refine ⟨?_, (Kept.refl _ _).alloc _⟩
      unfold slowN
      repeat' split
      all_goals first
        | (exfalso; omega)
        | rfl
        | (simp only [Int.natCast_add, Int.natCast_mul, Int.natCast_emod, Int.natCast_ofNat]; rfl)

set_option maxHeartbeats 4000000 in
set_option maxRecDepth 1000000 in
theorem slow_4 (s : ByteArray) (w : World) (hT : Tab w) (h0 : 0 < s.size) (hX : firstT (at8 s 0) = 4) : Slow s w := by
  unfold Slow
  have l0 := at8_lt s 0
  have l1 := at8_lt s 1
  have l2 := at8_lt s 2
  have l3 := at8_lt s 3
  have hd : Utf8.decode s 0 = slowN s.size (at8 s 0) (at8 s 1) (at8 s 2) (at8 s 3) 4 (accLo 0) (accHi 0) := by
    rw [dec_eq]
    have := slow_eq s.size (at8 s 0) (at8 s 1) (at8 s 2) (at8 s 3) (by omega) l1 l2 l3 (by omega)
    rw [hX] at this
    exact this.symm
  have hz0 : (0 : Int) < (s.size : Int) := by omega
  have hz1 : ¬ ((s.size : Int) < 1) := by omega
  have hs0 := at8_in h0
  have hc := hT.1 (at8 s 0) l0
  have ha := (hT.2 0 (by omega)).1
  have hb := (hT.2 0 (by omega)).2
  rw [hX] at hc
  simp only [accLo, accHi, Nat.reduceMul, Nat.reduceAdd, Nat.reduceEqDiff, if_true, if_false] at ha hb hd
  rw [hd]
  clear hT hX hd
  by_cases hn : s.size < 4
  · have hnz : (s.size : Int) < 4 := by omega
    generalize at8 s 0 = x0 at *
    go_enter Tryd.func67, Tryd.ntmps67
    go_wp2
    all_goals (go_ret2; refine ⟨?_, (Kept.refl _ _).alloc _⟩; unfold slowN; rw [if_pos hn]; rfl)
  · have hnz : ¬ ((s.size : Int) < 4) := by omega
    have k1 : (1 : Int) < (s.size : Int) := by omega
    have hs1 := at8_in (show 1 < s.size by omega)
    have k2 : (2 : Int) < (s.size : Int) := by omega
    have hs2 := at8_in (show 2 < s.size by omega)
    have k3 : (3 : Int) < (s.size : Int) := by omega
    have hs3 := at8_in (show 3 < s.size by omega)
    generalize at8 s 0 = x0 at *
    generalize at8 s 1 = x1 at *
    generalize at8 s 2 = x2 at *
    generalize at8 s 3 = x3 at *
    go_enter Tryd.func67, Tryd.ntmps67
    go_wp2
    all_goals
      go_ret2
      refine ⟨?_, (Kept.refl _ _).alloc _⟩
      unfold slowN
      repeat' split
      all_goals first
        | (exfalso; omega)
        | rfl
        | (simp only [Int.natCast_add, Int.natCast_mul, Int.natCast_emod, Int.natCast_ofNat]; rfl)

set_option maxHeartbeats 4000000 in
set_option maxRecDepth 1000000 in
theorem slow_68 (s : ByteArray) (w : World) (hT : Tab w) (h0 : 0 < s.size) (hX : firstT (at8 s 0) = 68) : Slow s w := by
  unfold Slow
  have l0 := at8_lt s 0
  have l1 := at8_lt s 1
  have l2 := at8_lt s 2
  have l3 := at8_lt s 3
  have hd : Utf8.decode s 0 = slowN s.size (at8 s 0) (at8 s 1) (at8 s 2) (at8 s 3) 4 (accLo 4) (accHi 4) := by
    rw [dec_eq]
    have := slow_eq s.size (at8 s 0) (at8 s 1) (at8 s 2) (at8 s 3) (by omega) l1 l2 l3 (by omega)
    rw [hX] at this
    exact this.symm
  have hz0 : (0 : Int) < (s.size : Int) := by omega
  have hz1 : ¬ ((s.size : Int) < 1) := by omega
  have hs0 := at8_in h0
  have hc := hT.1 (at8 s 0) l0
  have ha := (hT.2 4 (by omega)).1
  have hb := (hT.2 4 (by omega)).2
  rw [hX] at hc
  simp only [accLo, accHi, Nat.reduceMul, Nat.reduceAdd, Nat.reduceEqDiff, if_true, if_false] at ha hb hd
  rw [hd]
  clear hT hX hd
  by_cases hn : s.size < 4
  · have hnz : (s.size : Int) < 4 := by omega
    generalize at8 s 0 = x0 at *
    go_enter Tryd.func67, Tryd.ntmps67
    go_wp2
    all_goals (go_ret2; refine ⟨?_, (Kept.refl _ _).alloc _⟩; unfold slowN; rw [if_pos hn]; rfl)
  · have hnz : ¬ ((s.size : Int) < 4) := by omega
    have k1 : (1 : Int) < (s.size : Int) := by omega
    have hs1 := at8_in (show 1 < s.size by omega)
    have k2 : (2 : Int) < (s.size : Int) := by omega
    have hs2 := at8_in (show 2 < s.size by omega)
    have k3 : (3 : Int) < (s.size : Int) := by omega
    have hs3 := at8_in (show 3 < s.size by omega)
    generalize at8 s 0 = x0 at *
    generalize at8 s 1 = x1 at *
    generalize at8 s 2 = x2 at *
    generalize at8 s 3 = x3 at *
    go_enter Tryd.func67, Tryd.ntmps67
    go_wp2
    all_goals
      go_ret2
      refine ⟨?_, (Kept.refl _ _).alloc _⟩
      unfold slowN
      repeat' split
      all_goals first
        | (exfalso; omega)
        | rfl
        | (simp only [Int.natCast_add, Int.natCast_mul, Int.natCast_emod, Int.natCast_ofNat]; rfl)

theorem slow_any (s : ByteArray) (w : World) (hT : Tab w) (h0 : 0 < s.size) (h : 128 ≤ at8 s 0) : Slow s w := by
  rcases first_any (at8 s 0) h with hX | hX | hX | hX | hX | hX | hX | hX
  · exact slow_241 s w hT h0 hX
  · exact slow_2 s w hT h0 hX
  · exact slow_19 s w hT h0 hX
  · exact slow_3 s w hT h0 hX
  · exact slow_35 s w hT h0 hX
  · exact slow_52 s w hT h0 hX
  · exact slow_4 s w hT h0 hX
  · exact slow_68 s w hT h0 hX

end Go.Proofs.YtgfdcnjnkljahaaDoor
