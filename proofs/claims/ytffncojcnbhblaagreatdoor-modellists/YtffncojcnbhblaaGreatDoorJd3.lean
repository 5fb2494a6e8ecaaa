/-
  Joined of my texts Dc Nm Aw Bits By.
-/
import Derived.Test.YtffncojcnbhblaaGreatDoorJd1
import Derived.Lib.DecodeNEq
import Derived.Laws.BitsLemmas
import Derived.Laws.Strings3
import Derived.Laws.RangeAny
import Derived.Laws.BytesArg
import Derived.Laws.Rows
import Derived.Laws.MakeOwn
import Derived.Laws.Bits128
set_option linter.unusedVariables false
set_option linter.unusedSimpArgs false
set_option maxRecDepth 100000
set_option maxHeartbeats 8000000
namespace Go.Proofs.YtffncojcnbhblaaGreatDoor
open Go.RowKit Go.Lib
def Tab (w : World) : Prop :=
 (∀ c, c < 256 → w.cell? ⟨0, c, none⟩ = some (.int .u8 (firstT c))) ∧
 (∀ i, i < 16 → w.cell? ⟨1, 2 * i, none⟩ = some (.int .u8 (accLo i)) ∧ w.cell? ⟨1, 2 * i + 1, none⟩ = some (.int .u8 (accHi i)))
theorem Tab.kept {w w' : World} (h : Tab w) (k : Kept [] w w') : Tab w' :=
 ⟨fun c hc => k.cell (h.1 c hc) (by simp), fun i hi => ⟨k.cell (h.2 i hi).1 (by simp), k.cell (h.2 i hi).2 (by simp)⟩⟩
theorem first_any (b : Nat) (h : 128 ≤ b) : firstT b = 241 ∨ firstT b = 2 ∨ firstT b = 19 ∨ firstT b = 3 ∨ firstT b = 35 ∨ firstT b = 52 ∨ firstT b = 4 ∨ firstT b = 68 := by
 unfold firstT
 rw [if_neg (by omega)]
 repeat' split
 all_goals simp
theorem stray_mask : wrap32 517543559168 / 2147483648 = -1 := by unfold wrap32; omega
theorem stray_byte : ∀ x : Fin 256, bits .or .i32 (bits .andNot .i32 ((x.val : Nat) : Int) (-1)) (bits .and .i32 65533 (-1)) = 65533 := by decide
def Slow (s : ByteArray) (w : World) : Prop :=
 Calls Tryz.prog 166 #[.string s] w fun e w' => e = .returned (.tuple #[.int .i32 ((Utf8.decode s 0).1 : Int), .int .i64 ((Utf8.decode s 0).2 : Int)]) ∧ Kept [] w w'
theorem dec_eq (s : ByteArray) : Utf8.decode s 0 = decodeN s.size (at8 s 0) (at8 s 1) (at8 s 2) (at8 s 3) := by
 rw [decode_at]; rfl
theorem at8_in {s : ByteArray} {i : Nat} (h : i < s.size) : (s[i]'h).toNat = at8 s i := (at8_get s i h).symm
theorem slow_241 (s : ByteArray) (w : World) (hT : Tab w) (h0 : 0 < s.size) (hX : firstT (at8 s 0) = 241) : Slow s w := by
 unfold Slow
 have hd : Utf8.decode s 0 = (65533, 1) := by rw [dec_eq]; exact bad_eq _ _ _ _ _ (at8_lt s 0) hX
 rw [hd]
 have l0 := at8_lt s 0
 have hz0 : (0 : Int) < (s.size : Int) := by omega
 have hz1 : ¬ ((s.size : Int) < 1) := by omega
 have hs0 := at8_in h0
 have hc := hT.1 (at8 s 0) l0
 rw [hX] at hc
 clear hT hX hd
 have HS : Hid (_) := hs0
 generalize at8 s 0 = x0 at *
 go_enter Tryz.func166, Tryz.ntmps166
 go_wp2
 rw [stray_mask, stray_byte ⟨x0, l0⟩]
 go_ret2
 exact ⟨rfl, Kept.refl _ _⟩
theorem slow_2 (s : ByteArray) (w : World) (hT : Tab w) (h0 : 0 < s.size) (hX : firstT (at8 s 0) = 2) : Slow s w := by
 unfold Slow
 have l0 := at8_lt s 0
 have l1 := at8_lt s 1
 have l2 := at8_lt s 2
 have l3 := at8_lt s 3
 have hd : Utf8.decode s 0 = slowN s.size (at8 s 0) (at8 s 1) (at8 s 2) (at8 s 3) 2 (accLo 0) (accHi 0) := by
  rw [dec_eq]
  have := slow_eq s.size (at8 s 0) (at8 s 1) (at8 s 2) (at8 s 3) (by omega) l1 l2 l3 (by omega)
  rw [hX] at this
  exact this.symm
 have hz0 : (0 : Int) < (s.size : Int) := by omega
 have hz1 : ¬ ((s.size : Int) < 1) := by omega
 have hs0 := at8_in h0
 have hc := hT.1 (at8 s 0) l0
 have ha := (hT.2 0 (by omega)).1
 have hb := (hT.2 0 (by omega)).2
 rw [hX] at hc
 simp only [accLo, accHi, Nat.reduceMul, Nat.reduceAdd, Nat.reduceEqDiff, if_true, if_false] at ha hb hd
 rw [hd]
 clear hT hX hd
 by_cases hn : s.size < 2
 ·
  have hnz : (s.size : Int) < 2 := by omega
  generalize at8 s 0 = x0 at *
  go_enter Tryz.func166, Tryz.ntmps166
  go_wp2
  all_goals (go_ret2; refine ⟨?_, (Kept.refl _ _).alloc _⟩; unfold slowN; rw [if_pos hn]; rfl)
 ·
  have hnz : ¬ ((s.size : Int) < 2) := by omega
  have k1 : (1 : Int) < (s.size : Int) := by omega
  have hs1 := at8_in (show 1 < s.size by omega)
  generalize at8 s 0 = x0 at *
  generalize at8 s 1 = x1 at *
  generalize at8 s 2 = x2 at *
  generalize at8 s 3 = x3 at *
  go_enter Tryz.func166, Tryz.ntmps166
  go_wp2
  all_goals
   go_ret2
   refine ⟨?_, (Kept.refl _ _).alloc _⟩
   unfold slowN
   repeat' split
   all_goals first
    | (exfalso; omega)
    | rfl
    | (simp only [Int.natCast_add, Int.natCast_mul, Int.natCast_emod, Int.natCast_ofNat]; rfl)
theorem slow_19 (s : ByteArray) (w : World) (hT : Tab w) (h0 : 0 < s.size) (hX : firstT (at8 s 0) = 19) : Slow s w := by
 unfold Slow
 have l0 := at8_lt s 0
 have l1 := at8_lt s 1
 have l2 := at8_lt s 2
 have l3 := at8_lt s 3
 have hd : Utf8.decode s 0 = slowN s.size (at8 s 0) (at8 s 1) (at8 s 2) (at8 s 3) 3 (accLo 1) (accHi 1) := by
  rw [dec_eq]
  have := slow_eq s.size (at8 s 0) (at8 s 1) (at8 s 2) (at8 s 3) (by omega) l1 l2 l3 (by omega)
  rw [hX] at this
  exact this.symm
 have hz0 : (0 : Int) < (s.size : Int) := by omega
 have hz1 : ¬ ((s.size : Int) < 1) := by omega
 have hs0 := at8_in h0
 have hc := hT.1 (at8 s 0) l0
 have ha := (hT.2 1 (by omega)).1
 have hb := (hT.2 1 (by omega)).2
 rw [hX] at hc
 simp only [accLo, accHi, Nat.reduceMul, Nat.reduceAdd, Nat.reduceEqDiff, if_true, if_false] at ha hb hd
 rw [hd]
 clear hT hX hd
 by_cases hn : s.size < 3
 ·
  have hnz : (s.size : Int) < 3 := by omega
  generalize at8 s 0 = x0 at *
  go_enter Tryz.func166, Tryz.ntmps166
  go_wp2
  all_goals (go_ret2; refine ⟨?_, (Kept.refl _ _).alloc _⟩; unfold slowN; rw [if_pos hn]; rfl)
 ·
  have hnz : ¬ ((s.size : Int) < 3) := by omega
  have k1 : (1 : Int) < (s.size : Int) := by omega
  have hs1 := at8_in (show 1 < s.size by omega)
  have k2 : (2 : Int) < (s.size : Int) := by omega
  have hs2 := at8_in (show 2 < s.size by omega)
  generalize at8 s 0 = x0 at *
  generalize at8 s 1 = x1 at *
  generalize at8 s 2 = x2 at *
  generalize at8 s 3 = x3 at *
  go_enter Tryz.func166, Tryz.ntmps166
  go_wp2
  all_goals
   go_ret2
   refine ⟨?_, (Kept.refl _ _).alloc _⟩
   unfold slowN
   repeat' split
   all_goals first
    | (exfalso; omega)
    | rfl
    | (simp only [Int.natCast_add, Int.natCast_mul, Int.natCast_emod, Int.natCast_ofNat]; rfl)
theorem slow_3 (s : ByteArray) (w : World) (hT : Tab w) (h0 : 0 < s.size) (hX : firstT (at8 s 0) = 3) : Slow s w := by
 unfold Slow
 have l0 := at8_lt s 0
 have l1 := at8_lt s 1
 have l2 := at8_lt s 2
 have l3 := at8_lt s 3
 have hd : Utf8.decode s 0 = slowN s.size (at8 s 0) (at8 s 1) (at8 s 2) (at8 s 3) 3 (accLo 0) (accHi 0) := by
  rw [dec_eq]
  have := slow_eq s.size (at8 s 0) (at8 s 1) (at8 s 2) (at8 s 3) (by omega) l1 l2 l3 (by omega)
  rw [hX] at this
  exact this.symm
 have hz0 : (0 : Int) < (s.size : Int) := by omega
 have hz1 : ¬ ((s.size : Int) < 1) := by omega
 have hs0 := at8_in h0
 have hc := hT.1 (at8 s 0) l0
 have ha := (hT.2 0 (by omega)).1
 have hb := (hT.2 0 (by omega)).2
 rw [hX] at hc
 simp only [accLo, accHi, Nat.reduceMul, Nat.reduceAdd, Nat.reduceEqDiff, if_true, if_false] at ha hb hd
 rw [hd]
 clear hT hX hd
 by_cases hn : s.size < 3
 ·
  have hnz : (s.size : Int) < 3 := by omega
  generalize at8 s 0 = x0 at *
  go_enter Tryz.func166, Tryz.ntmps166
  go_wp2
  all_goals (go_ret2; refine ⟨?_, (Kept.refl _ _).alloc _⟩; unfold slowN; rw [if_pos hn]; rfl)
 ·
  have hnz : ¬ ((s.size : Int) < 3) := by omega
  have k1 : (1 : Int) < (s.size : Int) := by omega
  have hs1 := at8_in (show 1 < s.size by omega)
  have k2 : (2 : Int) < (s.size : Int) := by omega
  have hs2 := at8_in (show 2 < s.size by omega)
  generalize at8 s 0 = x0 at *
  generalize at8 s 1 = x1 at *
  generalize at8 s 2 = x2 at *
  generalize at8 s 3 = x3 at *
  go_enter Tryz.func166, Tryz.ntmps166
  go_wp2
  all_goals
   go_ret2
   refine ⟨?_, (Kept.refl _ _).alloc _⟩
   unfold slowN
   repeat' split
   all_goals first
    | (exfalso; omega)
    | rfl
    | (simp only [Int.natCast_add, Int.natCast_mul, Int.natCast_emod, Int.natCast_ofNat]; rfl)
theorem slow_35 (s : ByteArray) (w : World) (hT : Tab w) (h0 : 0 < s.size) (hX : firstT (at8 s 0) = 35) : Slow s w := by
 unfold Slow
 have l0 := at8_lt s 0
 have l1 := at8_lt s 1
 have l2 := at8_lt s 2
 have l3 := at8_lt s 3
 have hd : Utf8.decode s 0 = slowN s.size (at8 s 0) (at8 s 1) (at8 s 2) (at8 s 3) 3 (accLo 2) (accHi 2) := by
  rw [dec_eq]
  have := slow_eq s.size (at8 s 0) (at8 s 1) (at8 s 2) (at8 s 3) (by omega) l1 l2 l3 (by omega)
  rw [hX] at this
  exact this.symm
 have hz0 : (0 : Int) < (s.size : Int) := by omega
 have hz1 : ¬ ((s.size : Int) < 1) := by omega
 have hs0 := at8_in h0
 have hc := hT.1 (at8 s 0) l0
 have ha := (hT.2 2 (by omega)).1
 have hb := (hT.2 2 (by omega)).2
 rw [hX] at hc
 simp only [accLo, accHi, Nat.reduceMul, Nat.reduceAdd, Nat.reduceEqDiff, if_true, if_false] at ha hb hd
 rw [hd]
 clear hT hX hd
 by_cases hn : s.size < 3
 ·
  have hnz : (s.size : Int) < 3 := by omega
  generalize at8 s 0 = x0 at *
  go_enter Tryz.func166, Tryz.ntmps166
  go_wp2
  all_goals (go_ret2; refine ⟨?_, (Kept.refl _ _).alloc _⟩; unfold slowN; rw [if_pos hn]; rfl)
 ·
  have hnz : ¬ ((s.size : Int) < 3) := by omega
  have k1 : (1 : Int) < (s.size : Int) := by omega
  have hs1 := at8_in (show 1 < s.size by omega)
  have k2 : (2 : Int) < (s.size : Int) := by omega
  have hs2 := at8_in (show 2 < s.size by omega)
  generalize at8 s 0 = x0 at *
  generalize at8 s 1 = x1 at *
  generalize at8 s 2 = x2 at *
  generalize at8 s 3 = x3 at *
  go_enter Tryz.func166, Tryz.ntmps166
  go_wp2
  all_goals
   go_ret2
   refine ⟨?_, (Kept.refl _ _).alloc _⟩
   unfold slowN
   repeat' split
   all_goals first
    | (exfalso; omega)
    | rfl
    | (simp only [Int.natCast_add, Int.natCast_mul, Int.natCast_emod, Int.natCast_ofNat]; rfl)
theorem slow_52 (s : ByteArray) (w : World) (hT : Tab w) (h0 : 0 < s.size) (hX : firstT (at8 s 0) = 52) : Slow s w := by
 unfold Slow
 have l0 := at8_lt s 0
 have l1 := at8_lt s 1
 have l2 := at8_lt s 2
 have l3 := at8_lt s 3
 have hd : Utf8.decode s 0 = slowN s.size (at8 s 0) (at8 s 1) (at8 s 2) (at8 s 3) 4 (accLo 3) (accHi 3) := by
  rw [dec_eq]
  have := slow_eq s.size (at8 s 0) (at8 s 1) (at8 s 2) (at8 s 3) (by omega) l1 l2 l3 (by omega)
  rw [hX] at this
  exact this.symm
 have hz0 : (0 : Int) < (s.size : Int) := by omega
 have hz1 : ¬ ((s.size : Int) < 1) := by omega
 have hs0 := at8_in h0
 have hc := hT.1 (at8 s 0) l0
 have ha := (hT.2 3 (by omega)).1
 have hb := (hT.2 3 (by omega)).2
 rw [hX] at hc
 simp only [accLo, accHi, Nat.reduceMul, Nat.reduceAdd, Nat.reduceEqDiff, if_true, if_false] at ha hb hd
 rw [hd]
 clear hT hX hd
 by_cases hn : s.size < 4
 ·
  have hnz : (s.size : Int) < 4 := by omega
  generalize at8 s 0 = x0 at *
  go_enter Tryz.func166, Tryz.ntmps166
  go_wp2
  all_goals (go_ret2; refine ⟨?_, (Kept.refl _ _).alloc _⟩; unfold slowN; rw [if_pos hn]; rfl)
 ·
  have hnz : ¬ ((s.size : Int) < 4) := by omega
  have k1 : (1 : Int) < (s.size : Int) := by omega
  have hs1 := at8_in (show 1 < s.size by omega)
  have k2 : (2 : Int) < (s.size : Int) := by omega
  have hs2 := at8_in (show 2 < s.size by omega)
  have k3 : (3 : Int) < (s.size : Int) := by omega
  have hs3 := at8_in (show 3 < s.size by omega)
  generalize at8 s 0 = x0 at *
  generalize at8 s 1 = x1 at *
  generalize at8 s 2 = x2 at *
  generalize at8 s 3 = x3 at *
  go_enter Tryz.func166, Tryz.ntmps166
  go_wp2
  all_goals
   go_ret2
   refine ⟨?_, (Kept.refl _ _).alloc _⟩
   unfold slowN
   repeat' split
   all_goals first
    | (exfalso; omega)
    | rfl
    | (simp only [Int.natCast_add, Int.natCast_mul, Int.natCast_emod, Int.natCast_ofNat]; rfl)
theorem slow_4 (s : ByteArray) (w : World) (hT : Tab w) (h0 : 0 < s.size) (hX : firstT (at8 s 0) = 4) : Slow s w := by
 unfold Slow
 have l0 := at8_lt s 0
 have l1 := at8_lt s 1
 have l2 := at8_lt s 2
 have l3 := at8_lt s 3
 have hd : Utf8.decode s 0 = slowN s.size (at8 s 0) (at8 s 1) (at8 s 2) (at8 s 3) 4 (accLo 0) (accHi 0) := by
  rw [dec_eq]
  have := slow_eq s.size (at8 s 0) (at8 s 1) (at8 s 2) (at8 s 3) (by omega) l1 l2 l3 (by omega)
  rw [hX] at this
  exact this.symm
 have hz0 : (0 : Int) < (s.size : Int) := by omega
 have hz1 : ¬ ((s.size : Int) < 1) := by omega
 have hs0 := at8_in h0
 have hc := hT.1 (at8 s 0) l0
 have ha := (hT.2 0 (by omega)).1
 have hb := (hT.2 0 (by omega)).2
 rw [hX] at hc
 simp only [accLo, accHi, Nat.reduceMul, Nat.reduceAdd, Nat.reduceEqDiff, if_true, if_false] at ha hb hd
 rw [hd]
 clear hT hX hd
 by_cases hn : s.size < 4
 ·
  have hnz : (s.size : Int) < 4 := by omega
  generalize at8 s 0 = x0 at *
  go_enter Tryz.func166, Tryz.ntmps166
  go_wp2
  all_goals (go_ret2; refine ⟨?_, (Kept.refl _ _).alloc _⟩; unfold slowN; rw [if_pos hn]; rfl)
 ·
  have hnz : ¬ ((s.size : Int) < 4) := by omega
  have k1 : (1 : Int) < (s.size : Int) := by omega
  have hs1 := at8_in (show 1 < s.size by omega)
  have k2 : (2 : Int) < (s.size : Int) := by omega
  have hs2 := at8_in (show 2 < s.size by omega)
  have k3 : (3 : Int) < (s.size : Int) := by omega
  have hs3 := at8_in (show 3 < s.size by omega)
  generalize at8 s 0 = x0 at *
  generalize at8 s 1 = x1 at *
  generalize at8 s 2 = x2 at *
  generalize at8 s 3 = x3 at *
  go_enter Tryz.func166, Tryz.ntmps166
  go_wp2
  all_goals
   go_ret2
   refine ⟨?_, (Kept.refl _ _).alloc _⟩
   unfold slowN
   repeat' split
   all_goals first
    | (exfalso; omega)
    | rfl
    | (simp only [Int.natCast_add, Int.natCast_mul, Int.natCast_emod, Int.natCast_ofNat]; rfl)
theorem slow_68 (s : ByteArray) (w : World) (hT : Tab w) (h0 : 0 < s.size) (hX : firstT (at8 s 0) = 68) : Slow s w := by
 unfold Slow
 have l0 := at8_lt s 0
 have l1 := at8_lt s 1
 have l2 := at8_lt s 2
 have l3 := at8_lt s 3
 have hd : Utf8.decode s 0 = slowN s.size (at8 s 0) (at8 s 1) (at8 s 2) (at8 s 3) 4 (accLo 4) (accHi 4) := by
  rw [dec_eq]
  have := slow_eq s.size (at8 s 0) (at8 s 1) (at8 s 2) (at8 s 3) (by omega) l1 l2 l3 (by omega)
  rw [hX] at this
  exact this.symm
 have hz0 : (0 : Int) < (s.size : Int) := by omega
 have hz1 : ¬ ((s.size : Int) < 1) := by omega
 have hs0 := at8_in h0
 have hc := hT.1 (at8 s 0) l0
 have ha := (hT.2 4 (by omega)).1
 have hb := (hT.2 4 (by omega)).2
 rw [hX] at hc
 simp only [accLo, accHi, Nat.reduceMul, Nat.reduceAdd, Nat.reduceEqDiff, if_true, if_false] at ha hb hd
 rw [hd]
 clear hT hX hd
 by_cases hn : s.size < 4
 ·
  have hnz : (s.size : Int) < 4 := by omega
  generalize at8 s 0 = x0 at *
  go_enter Tryz.func166, Tryz.ntmps166
  go_wp2
  all_goals (go_ret2; refine ⟨?_, (Kept.refl _ _).alloc _⟩; unfold slowN; rw [if_pos hn]; rfl)
 ·
  have hnz : ¬ ((s.size : Int) < 4) := by omega
  have k1 : (1 : Int) < (s.size : Int) := by omega
  have hs1 := at8_in (show 1 < s.size by omega)
  have k2 : (2 : Int) < (s.size : Int) := by omega
  have hs2 := at8_in (show 2 < s.size by omega)
  have k3 : (3 : Int) < (s.size : Int) := by omega
  have hs3 := at8_in (show 3 < s.size by omega)
  generalize at8 s 0 = x0 at *
  generalize at8 s 1 = x1 at *
  generalize at8 s 2 = x2 at *
  generalize at8 s 3 = x3 at *
  go_enter Tryz.func166, Tryz.ntmps166
  go_wp2
  all_goals
   go_ret2
   refine ⟨?_, (Kept.refl _ _).alloc _⟩
   unfold slowN
   repeat' split
   all_goals first
    | (exfalso; omega)
    | rfl
    | (simp only [Int.natCast_add, Int.natCast_mul, Int.natCast_emod, Int.natCast_ofNat]; rfl)
theorem slow_any (s : ByteArray) (w : World) (hT : Tab w) (h0 : 0 < s.size) (h : 128 ≤ at8 s 0) : Slow s w := by
 rcases first_any (at8 s 0) h with hX | hX | hX | hX | hX | hX | hX | hX
 · exact slow_241 s w hT h0 hX
 · exact slow_2 s w hT h0 hX
 · exact slow_19 s w hT h0 hX
 · exact slow_3 s w hT h0 hX
 · exact slow_35 s w hT h0 hX
 · exact slow_52 s w hT h0 hX
 · exact slow_4 s w hT h0 hX
 · exact slow_68 s w hT h0 hX
def iterTo (W : World) (b : Nat) (s : ByteArray) (j : Nat) : World := { W with heap := W.heap.setIfInBounds b (.stringIter s j) }
theorem next_at {W : World} {b : Nat} {s : ByteArray} {j : Nat} (hb : W.heap[b]? = some (.stringIter s j)) (h : j < s.size) (ty : TypeId) :
  (Instr.next (.pointer (some ⟨b, 0, none⟩)) true ty).run Tryz.prog W =
   .ok (.tuple #[.bool true, .int .i64 (j : Int), .int .i32 (one s j).1]) (iterTo W b s (j + max (one s j).2 1)) := by
 rw [← (decode_one s j).2, ← (decode_one s j).1]
 simp only [Instr.next, getObj, setObj, Sem.run_bind, Sem.run, hb, Result.andThen, h, if_true, iterTo]
 simp [goInt]
theorem next_none {W : World} {b : Nat} {s : ByteArray} {j : Nat} (hb : W.heap[b]? = some (.stringIter s j)) (h : ¬ j < s.size) (ty : TypeId) :
  (Instr.next (.pointer (some ⟨b, 0, none⟩)) true ty).run Tryz.prog W = .ok (.tuple #[.bool false]) W := by
 simp [Instr.next, getObj, Sem.run, hb, h]
structure It (w0 W : World) (s : ByteArray) (j : Nat) : Prop where
 kept : Kept [] w0 W
 here : W.heap[w0.heap.size]? = some (.stringIter s j)
theorem It.begin (w : World) (s : ByteArray) : It w (w.iter s 0) s 0 := ⟨(Kept.refl [] w).alloc _, World.iter_heap w s 0⟩
theorem It.next {w0 W : World} {s : ByteArray} {j : Nat} (h : It w0 W s j) (k : Nat) : It w0 (iterTo W w0.heap.size s k) s k := by
 have hlt := lt_of_heap h.here
 refine ⟨⟨h.kept.os, h.kept.tape, h.kept.output, ?_, ?_⟩, ?_⟩
 ·
  show w0.heap.size ≤ (W.heap.setIfInBounds _ _).size
  rw [Array.size_setIfInBounds]; exact h.kept.size
 ·
  intro i hi hF
  show (W.heap.setIfInBounds _ _)[i]? = _
  rw [Array.getElem?_setIfInBounds, if_neg (by omega)]
  exact h.kept.block i hi hF
 ·
  show (W.heap.setIfInBounds _ _)[_]? = _
  rw [Array.getElem?_setIfInBounds, if_pos rfl, if_pos hlt]
theorem It.turn {w0 W W' : World} {s : ByteArray} {j : Nat} (h : It w0 W s j) (k : Kept [] W W') : It w0 W' s j :=
 ⟨h.kept.trans k (by simp), (k.block _ (lt_of_heap h.here) (by simp)).trans h.here⟩
theorem It.pos {w0 W : World} {s : ByteArray} {j : Nat} (h : It w0 W s j) : W.iterPos w0.heap.size = j := by simp [World.iterPos, h.here]
theorem may_stand (r : Int) (w : World) :
  Calls Tryz.prog 145 #[.int .i32 r] w fun e w' => e = .returned (.bool (!(decide (r < 32) || r == 127 || r == 47))) ∧ w' = w := by
 by_cases h1 : r < 32
 ·
  have e1 : (!(decide (r < 32) || r == 127 || r == 47)) = false := by simp [h1]
  rw [e1]
  have i1 : ¬ (32 : Int) ≤ r := by omega
  go_enter Tryz.func145, Tryz.ntmps145
  go_wp2
  go_ret
  exact ⟨rfl, rfl⟩
 have i1 : (32 : Int) ≤ r := by omega
 by_cases h2 : r = 127
 ·
  subst h2
  go_enter Tryz.func145, Tryz.ntmps145
  go_wp2
  go_ret
  exact ⟨rfl, rfl⟩
 have c2 : (r == 127) = false := by simpa using h2
 have c1 : decide (r < 32) = false := by simpa using h1
 have c3 : (r != 127) = true := by simpa using h2
 rw [c1, c2]
 by_cases h3 : r = 47
 ·
  subst h3
  go_enter Tryz.func145, Tryz.ntmps145
  go_wp2
  go_ret
  exact ⟨rfl, rfl⟩
 have c4 : (r == 47) = false := by simpa using h3
 have c5 : (r != 47) = true := by simpa using h3
 rw [c4]
 go_enter Tryz.func145, Tryz.ntmps145
 go_wp2
 go_ret
 exact ⟨rfl, rfl⟩
theorem t_decode (s : ByteArray) (w : World) (hT : Tab w) (h0 : 0 < s.size) :
  Calls Tryz.prog 158 #[.string s] w fun e w' => e = .returned (.tuple #[.int .i32 (one s 0).1, .int .i64 ((max (one s 0).2 1 : Nat) : Int)]) ∧ Kept [] w w' := by
 have hne : s.toList.isEmpty = false := by
  rw [← Bool.not_eq_true, List.isEmpty_iff]
  intro h
  have : s.toList.length = s.size := by rw [ByteArray.toList_eq]; simp
  rw [h] at this
  simp at this
  omega
 have hz0 : (0 : Int) < (s.size : Int) := by omega
 have hs0 := at8_in h0
 by_cases ha : at8 s 0 < 128
 ·
  have hd : one s 0 = ((at8 s 0 : Int), 1) := by unfold one; simp only []; rw [if_pos (by omega)]
  rw [hd]
  have haz : (at8 s 0 : Int) < 128 := by omega
  clear hT hd
  generalize at8 s 0 = x0 at *
  go_enter Tryz.func158, Tryz.ntmps158
  go_wp2
  go_ret2
  exact ⟨rfl, Kept.refl _ _⟩
 ·
  have hsl := slow_any s w hT h0 (by omega)
  unfold Slow at hsl
  rw [(decode_one s 0).1, (decode_one s 0).2] at hsl
  have haz : ¬ (at8 s 0 : Int) < 128 := by omega
  have HS : Hid (_) := hsl
  clear hsl hT
  generalize at8 s 0 = x0 at *
  go_enter Tryz.func158, Tryz.ntmps158
  go_wp2_with fail
  refine Calls.mono HS.out ?_
  rintro e w1 ⟨rfl, hk⟩
  go_wp2_with fail
  go_ret2
  exact ⟨rfl, hk⟩
theorem one_cases (s : ByteArray) (i : Nat) : ((one s i).2 = 0 ∧ (one s i).1 = 65533) ∨ ((one s i).2 = 1 ∧ (one s i).1 < 128) ∨ 2 ≤ (one s i).2 := by
 unfold one
 simp only []
 repeat' split
 all_goals first
  | (left; exact ⟨rfl, rfl⟩)
  | (right; left; exact ⟨rfl, by assumption⟩)
  | (right; right; simp only []; omega)
theorem is_stray (s : ByteArray) (w : World) (hT : Tab w) (h0 : 0 < s.size) :
  Calls Tryz.prog 146 #[.string s] w fun e w' => e = .returned (.bool ((one s 0).2 == 0)) ∧ Kept [] w w' := by
 have hd := t_decode s w hT h0
 have hc := one_cases s 0
 generalize (one s 0).1 = r at *
 generalize (one s 0).2 = k at *
 have HS : Hid (_) := hd
 clear hd hT
 rcases hc with ⟨rfl, rfl⟩ | ⟨rfl, h⟩ | h
 ·
  go_enter Tryz.func146, Tryz.ntmps146
  go_wp2_with fail
  refine Calls.mono HS.out ?_
  rintro e w1 ⟨rfl, hk⟩
  go_wp2_with fail
  go_ret
  exact ⟨rfl, hk⟩
 ·
  have c : (r == 65533) = false := by simp; omega
  go_enter Tryz.func146, Tryz.ntmps146
  go_wp2_with fail
  refine Calls.mono HS.out ?_
  rintro e w1 ⟨rfl, hk⟩
  go_wp2_with fail
  go_ret
  exact ⟨rfl, hk⟩
 ·
  have e1 : max k 1 = k := by omega
  rw [e1] at HS
  have c : (k == 0) = false := by simp; omega
  have c1 : ((k : Int) == 1) = false := by simp; omega
  rw [c]
  go_enter Tryz.func146, Tryz.ntmps146
  go_wp2_with fail
  refine Calls.mono HS.out ?_
  rintro e w1 ⟨rfl, hk⟩
  go_wp2_with fail
  all_goals (go_ret; exact ⟨rfl, hk⟩)
theorem ext_split (s : ByteArray) (j : Nat) (h : j ≤ s.size) : s.extract 0 j ++ s.extract j s.size = s := by
 rw [ByteArray.extract_append_extract, Nat.min_eq_left (by omega), Nat.max_eq_right h, ByteArray.extract_zero_size]
theorem one_from (s : ByteArray) (j : Nat) (h : j < s.size) : one (s.extract j s.size) 0 = one s j ∧ 0 < (s.extract j s.size).size := by
 have hs : (s.extract 0 j).size = j := by rw [ByteArray.size_extract]; omega
 refine ⟨?_, by rw [ByteArray.size_extract]; omega⟩
 have := one_right (s.extract 0 j) (s.extract j s.size) 0
 rw [ext_split s j (by omega), hs] at this
 exact this.symm
theorem stray_from (s : ByteArray) (j : Nat) (w : World) (hT : Tab w) (h : j < s.size) :
  Calls Tryz.prog 146 #[.string (s.extract j s.size)] w fun e w' => e = .returned (.bool ((one s j).2 == 0)) ∧ Kept [] w w' := by
 have := is_stray (s.extract j s.size) w hT (one_from s j h).2
 rw [(one_from s j h).1] at this
 exact this
theorem n_check (s : ByteArray) (w : World) (hT : Tab w) :
  Calls Tryz.prog 118 #[.string s] w fun e w' => e = .returned (.int .i64 (chk s)) ∧ Kept [] w w' := by
 obtain ⟨z, hz⟩ : ∃ z, chk s = z := ⟨_, rfl⟩
 rw [hz]
 by_cases hl : 12 < s.size
 ·
  have i0 : (12 : Int) < (s.size : Int) := by omega
  have HZ : Hid (801 = z) := by show 801 = z; rw [← hz]; unfold chk; rw [if_pos hl]
  clear hz hT
  go_enter Tryz.func118, Tryz.ntmps118
  go_wp2_with fail
  go_ret
  exact ⟨ret_int HZ.out, Kept.refl _ _⟩
 have i0 : ¬ (12 : Int) < (s.size : Int) := by omega
 by_cases he : s.toList = [] ∨ s.toList = [46] ∨ s.toList = [46, 46]
 ·
  have HZ : Hid (800 = z) := by show 800 = z; rw [← hz]; unfold chk; rw [if_neg hl, if_pos he]
  clear hz hT
  rcases he with he | he | he
  ·
   have t1 : s.toList.isEmpty = true := by rw [he]; rfl
   go_enter Tryz.func118, Tryz.ntmps118
   go_wp2_with fail
   go_ret
   exact ⟨ret_int HZ.out, Kept.refl _ _⟩
  ·
   have t1 : s.toList.isEmpty = false := by rw [he]; rfl
   have t2 : (s.toList == [46]) = true := by rw [he]; rfl
   go_enter Tryz.func118, Tryz.ntmps118
   go_wp2_with fail
   go_ret
   exact ⟨ret_int HZ.out, Kept.refl _ _⟩
  ·
   have t1 : s.toList.isEmpty = false := by rw [he]; rfl
   have t2 : (s.toList == [46]) = false := by rw [he]; rfl
   have t3 : (s.toList == [46, 46]) = true := by rw [he]; rfl
   go_enter Tryz.func118, Tryz.ntmps118
   go_wp2_with fail
   go_ret
   exact ⟨ret_int HZ.out, Kept.refl _ _⟩
 have HZ : Hid ((if (rs s 0).any badR then 800 else 0) = z) := by show _ = z; rw [← hz]; unfold chk; rw [if_neg hl, if_neg he]
 clear hz
 have n1 : ¬ s.toList = [] := fun h => he (Or.inl h)
 have n2 : ¬ s.toList = [46] := fun h => he (Or.inr (Or.inl h))
 have n3 : ¬ s.toList = [46, 46] := fun h => he (Or.inr (Or.inr h))
 have t1 : s.toList.isEmpty = false := by rw [← Bool.not_eq_true, List.isEmpty_iff]; exact n1
 have t2 : (s.toList == [46]) = false := by simpa using n2
 have t3 : (s.toList == [46, 46]) = false := by simpa using n3
 clear he
 have HT : Hid (Tab w) := hT
 clear hT
 go_enter Tryz.func118, Tryz.ntmps118
 go_wp2_with fail
 go_loopw [] (fun wr => ∃ (j : Nat), Hid (It w wr s j) ∧ j ≤ s.size ∧ Hid ((rs s j).any badR = (rs s 0).any badR)) (fun wr => s.size - wr.iterPos w.heap.size)
 case atStart => exact ⟨0, It.begin w s, by omega, rfl⟩
 case round =>
  obtain ⟨j, HI, hj, HH⟩ := hrel
  by_cases hlt : j < s.size
  ·
   have hnx := next_at HI.out.here hlt
   have hst := step_le hlt
   have hj1 : (0 : Int) ≤ (j : Int) := by omega
   have hj2 : (j : Int) ≤ (s.size : Int) := by omega
   obtain ⟨W1, hW1⟩ : ∃ W1, iterTo wr w.heap.size s (j + max (one s j).2 1) = W1 := ⟨_, rfl⟩
   have hI1 : It w W1 s (j + max (one s j).2 1) := by rw [← hW1]; exact HI.out.next _
   rw [hW1] at hnx
   have HJ : Hid (It w W1 s (j + max (one s j).2 1) ∧ Tab W1 ∧ wr.iterPos w.heap.size = j) := ⟨hI1, HT.out.kept hI1.kept, HI.out.pos⟩
   clear hI1 hW1 HI
   go_wp2_with fail
   refine (may_stand (one s j).1 W1).mono ?_
   rintro e w1 ⟨rfl, rfl⟩
   by_cases hb : badR (one s j) = true
   ·
    have HE : Hid (800 = z) := by
     show 800 = z
     have h1 := bad_yes hlt hb
     rw [HH.out] at h1
     rw [← HZ.out, h1]; rfl
    clear HH HZ
    by_cases hm : (decide ((one s j).1 < 32) || (one s j).1 == 127 || (one s j).1 == 47) = true
    ·
     rw [hm]
     go_wp2_with fail
     go_ret
     exact ⟨ret_int HE.out, HJ.out.1.kept⟩
    ·
     have hm2 : (decide ((one s j).1 < 32) || (one s j).1 == 127 || (one s j).1 == 47) = false := by simpa using hm
     rw [hm2]
     have hk0 : ((one s j).2 == 0) = true := by
      unfold badR at hb
      simp only [Bool.or_eq_true, beq_iff_eq, decide_eq_true_eq] at hb hm ⊢
      omega
     clear hm hm2 hb
     go_wp2_with fail
     refine (stray_from s j w1 HJ.out.2.1 hlt).mono ?_
     rintro e w2 ⟨rfl, hk⟩
     rw [hk0]
     have HK : Hid (_) := HJ.out.1.kept.trans hk (by simp)
     clear hk
     go_wp2_with fail
     go_ret
     exact ⟨ret_int HE.out, HK.out⟩
   ·
    have hb2 : badR (one s j) = false := by simpa using hb
    obtain ⟨h1, h2⟩ := bad_no hlt hb2
    have e1 : max (one s j).2 1 = (one s j).2 := by omega
    have HN : Hid ((rs s (j + (one s j).2)).any badR = (rs s 0).any badR) := h1.trans HH.out
    clear HH h1 hb2
    rw [e1] at HJ hst
    unfold badR at hb
    simp only [Bool.or_eq_true, beq_iff_eq, decide_eq_true_eq] at hb
    have hm2 : (decide ((one s j).1 < 32) || (one s j).1 == 127 || (one s j).1 == 47) = false := by
     rw [← Bool.not_eq_true]
     simp only [Bool.or_eq_true, beq_iff_eq, decide_eq_true_eq]
     omega
    have hk0 : ((one s j).2 == 0) = false := by simp; omega
    rw [hm2]
    clear hb hm2
    go_wp2_with fail
    refine (stray_from s j w1 HJ.out.2.1 hlt).mono ?_
    rintro e w2 ⟨rfl, hk⟩
    rw [hk0]
    have HK : Hid (_) := HJ.out.1.turn hk
    clear hk
    go_wp2_with fail
    go_roundw
    case rel => exact ⟨j + (one s j).2, HK.out, hst, HN.out⟩
    case measure =>
     have m1 := HK.out.pos
     have m2 := HJ.out.2.2
     simp only [m1, m2]
     omega
  ·
   have hnx := next_none HI.out.here hlt
   have HE : Hid (0 = z) := by
    have := HH.out
    rw [rs_end hlt] at this
    show 0 = z
    rw [← HZ.out, ← this]; rfl
   clear HH HZ
   go_wp2_with fail
   go_ret
   exact ⟨ret_int HE.out, HI.out.kept⟩
theorem n_may (s : ByteArray) (w : World) (hT : Tab w) :
  Calls Tryz.prog 78 #[.string s] w fun e w' => e = .returned (.bool (chk s == 0)) ∧ Kept [] w w' := by
 have HC : Hid (_) := n_check s w hT
 clear hT
 obtain ⟨z, hz⟩ : ∃ z, chk s = z := ⟨_, rfl⟩
 rw [hz] at HC ⊢
 clear hz
 go_enter Tryz.func78, Tryz.ntmps78
 go_wp2_with fail
 refine Calls.mono HC.out ?_
 rintro e w1 ⟨rfl, hk⟩
 have HK : Hid (_) := hk
 clear hk
 go_wp2_with fail
 go_ret
 exact ⟨rfl, HK.out⟩
end Go.Proofs.YtffncojcnbhblaaGreatDoor
namespace Go.Proofs.YtffncojcnbhblaaGreatDoor
end Go.Proofs.YtffncojcnbhblaaGreatDoor
namespace Go.Proofs.YtffncojcnbhblaaGreatDoor
open Go.RowKit Go.Lib
structure Bs (w0 W : World) (B : Nat) (xs : List Int) : Prop where
 kept : Kept [] w0 W
 new : w0.heap.size ≤ B
 here : W.heap[B]? = some (.cells (xs.map (Value.int .u8)).toArray 5 (0, 0))
theorem Bs.cell {w0 W : World} {B : Nat} {xs : List Int} (h : Bs w0 W B xs) {i : Nat} (hi : i < xs.length) : W.cell? ⟨B, i, none⟩ = some (.int .u8 (xs.getD i 0)) := by
 simp [World.cell?, h.here, hi]
theorem Bs.frozen {w0 W : World} {B : Nat} {xs : List Int} (h : Bs w0 W B xs) (i : Nat) : W.frozen? ⟨B, i, none⟩ = false := by
 simp [World.frozen?, h.here]
theorem Bs.set {w0 W : World} {B : Nat} {xs : List Int} (h : Bs w0 W B xs) (i : Nat) (v : Int) : Bs w0 (W.setCell ⟨B, i, none⟩ (.int .u8 v)) B (xs.set i v) := by
 refine ⟨h.kept.setCell (Or.inr h.new) _, h.new, ?_⟩
 rw [heap_setCell_same W B i _ 5 _ h.here]
 simp [List.map_set]
theorem Bs.turn {w0 W W' : World} {B : Nat} {xs : List Int} (h : Bs w0 W B xs) (k : Kept [] W W') : Bs w0 W' B xs :=
 ⟨h.kept.trans k (by simp), h.new, (k.block B (lt_of_heap h.here) (by simp)).trans h.here⟩
theorem Bs.conv {w0 W : World} {B : Nat} {xs : List Int} (h : Bs w0 W B xs) (n : Nat) (hn : xs.length = n) (c : Nat) : (convert 133 9 (.slice (some ⟨B, 0, none⟩) n c)).run Tryz.prog W = .ok (.string (strOfNums xs)) W :=
 run_convert_bytes_arg (P := Tryz.prog) W 133 5 Tryz.underlying133 Tryz.underlying5 B 0 n c xs hn (fun i hi => by rw [Nat.zero_add]; exact h.cell (by omega)) 9 Tryz.underlying9
theorem info5 : (Tryz.prog.info? 5).map (fun i => (i.zero, i.size, i.bytes)) = some (some (.int .u8 0), 1, 1) := by kernel_rfl
theorem make_bytes (n : Nat) (h : n ≤ 140737488351232) (w : World) : (Instr.makeSlice 133 (.int .i64 (n : Int)) (.int .i64 (n : Int))).run Tryz.prog w = .ok (.slice (some ⟨w.heap.size, 0, none⟩) n n) (w.alloc (.cells ((List.replicate n (0 : Int)).map (Value.int .u8)).toArray 5)) := by
 obtain ⟨i0, hi, hx⟩ : ∃ i0, Tryz.prog.info? 5 = some i0 ∧ (i0.zero, i0.size, i0.bytes) = (some (Value.int .u8 0), 1, 1) := by
  cases hi : Tryz.prog.info? 5 with
  | none => have := info5; rw [hi] at this; cases this
  | some i0 => have := info5; rw [hi] at this; exact ⟨i0, rfl, Option.some.inj this⟩
 obtain ⟨hz0, hz1, hz2⟩ : i0.zero = some (Value.int .u8 0) ∧ i0.size = 1 ∧ i0.bytes = 1 := by simpa using hx
 have := run_make (P := Tryz.prog) w 133 5 i0 (.int .u8 0) Tryz.underlying133 hi hz0 .i64 .i64 n n (by omega) (by omega) (by rw [hz2]; omega) (by omega)
 rw [this]
 have e : madeCells (Value.int .u8 0).cells ((n : Int).toNat * i0.size) = ((List.replicate n (0 : Int)).map (Value.int .u8)).toArray := by
  apply Array.ext'
  rw [hz1]
  simp [toList_madeCells_one, Value.cells]
 rw [e]
 simp
theorem Bs.made {w0 w : World} (h : Kept [] w0 w) (n : Nat) : Bs w0 (w.alloc (.cells ((List.replicate n (0 : Int)).map (Value.int .u8)).toArray 5)) w.heap.size (List.replicate n 0) :=
 ⟨h.alloc _, h.size, by show (w.heap.push _)[w.heap.size]? = _; simp⟩
end Go.Proofs.YtffncojcnbhblaaGreatDoor
