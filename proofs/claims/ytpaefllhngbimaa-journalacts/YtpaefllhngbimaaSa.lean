/-
  Sums, told plainly; the program's Of comes to them.
-/
import Derived.Test.YtpaefllhngbimaaBase
import Derived.Laws.BytesArg
import Derived.Laws.Rows
import Derived.Laws.MakeOwn
namespace Go.Proofs.Ytpaefllhngbimaa
open Go.RowKit Go.Lib
set_option linter.unusedVariables false

/-- One step of the rule. -/
def stp (h : BitVec 64) (b : Nat) : BitVec 64 := (h ^^^ BitVec.ofNat 64 b) * 1099511628211#64

/-- The sum of bytes, from h on. -/
def sumL (l : List UInt8) (h : BitVec 64) : BitVec 64 := l.foldl (fun h b => stp h b.toNat) h

/-- The sum of a text. -/
def sumS (s : ByteArray) : BitVec 64 := sumL s.toList 14695981039346656037#64

theorem stp_int (h : BitVec 64) (b : Nat) (hb : b < 256) : IntKind.u64.wrap (bits .xor .u64 (h.toNat : Int) (b : Int) * 1099511628211) = ((stp h b).toNat : Int) := by
  have e1 : bits .xor .u64 (h.toNat : Int) (b : Int) = ((h ^^^ BitVec.ofNat 64 b).toNat : Int) := by
    show IntKind.u64.wrap ((BitVec.ofInt 64 (h.toNat : Int) ^^^ BitVec.ofInt 64 (b : Int)).toNat : Nat) = _
    rw [show BitVec.ofInt 64 (h.toNat : Int) = h from by rw [BitVec.ofInt_natCast]; simp, BitVec.ofInt_natCast, IntKind.wrap_u64]
    have := (h ^^^ BitVec.ofNat 64 b).isLt
    omega
  rw [e1, IntKind.wrap_u64]
  unfold stp
  rw [BitVec.toNat_mul, show (1099511628211#64 : BitVec 64).toNat = 1099511628211 from rfl]
  generalize (h ^^^ BitVec.ofNat 64 b).toNat = k
  rw [show (2 : Nat) ^ 64 = 18446744073709551616 from by decide]
  omega

theorem toList_at {s : ByteArray} {i : Nat} (hi : i < s.size) (hl : i < s.toList.length) : s.toList[i]'hl = s[i]'hi := by
  have e : s.toList = s.data.toList := ByteArray.toList_eq s
  have : s.toList[i]? = s.data.toList[i]? := by rw [e]
  rw [List.getElem?_eq_getElem hl, List.getElem?_eq_getElem (by rw [← e]; exact hl)] at this
  exact Option.some.inj this

theorem wrap_byte (b : UInt8) : IntKind.u64.wrap (b.toNat : Int) = (b.toNat : Int) := by
  have := b.toNat_lt
  rw [IntKind.wrap_u64]
  omega

theorem sumL_cons (b : UInt8) (l : List UInt8) (h : BitVec 64) : sumL (b :: l) h = sumL l (stp h b.toNat) := by
  unfold sumL; exact List.foldl_cons ..

theorem sumL_drop {s : ByteArray} {i : Nat} (hi : i < s.size) (h : BitVec 64) : sumL (s.toList.drop i) h = sumL (s.toList.drop (i + 1)) (stp h (s[i]'hi).toNat) := by
  have hl : i < s.toList.length := by rw [ByteArray.toList_eq]; exact hi
  rw [List.drop_eq_getElem_cons hl, sumL_cons, toList_at hi hl]

theorem sumL_end {s : ByteArray} {i : Nat} (hi : ¬ i < s.size) (h : BitVec 64) : sumL (s.toList.drop i) h = h := by
  have hl : s.toList.length ≤ i := by rw [ByteArray.toList_eq]; show s.size ≤ i; omega
  rw [List.drop_eq_nil_of_le hl]; rfl

set_option maxRecDepth 100000 in
set_option maxHeartbeats 1000000 in
theorem p_of (s : ByteArray) (w : World) (hs : s.size ≤ 9223372036854775000) :
    Calls Try.prog 57 #[.string s] w fun e w' => e = .returned (.int .u64 ((sumS s).toNat : Int)) ∧ w' = w := by
  go_enter Try.func57, Try.ntmps57
  go_wp2_with fail
  go_loopw [3, 7] (fun h i wr => ∃ (z : BitVec 64) (j : Nat), h = .int .u64 (z.toNat : Int) ∧ i = .int .i64 (j : Int) ∧ j ≤ s.size ∧ Hid (wr = w ∧ sumL (s.toList.drop j) z = sumS s)) (fun _ i _ => (s.size - intOf i).toNat)
  case atStart => exact ⟨14695981039346656037#64, 0, rfl, rfl, by omega, rfl, rfl⟩
  case round =>
    obtain ⟨z, j, rfl, rfl, hj, HJ⟩ := hrel
    obtain ⟨hw, hh⟩ := HJ.out
    subst hw
    have HH : Hid (_ = _) := hh
    clear hh HJ
    by_cases hlt : j < s.size
    · have i1 : (j : Int) < (s.size : Int) := by omega
      have HN : Hid (sumL (s.toList.drop (j + 1)) (stp z (s[j]'hlt).toNat) = sumS s) := by
        have := HH.out
        rw [sumL_drop hlt] at this
        exact this
      have HS := stp_int z (s[j]'hlt).toNat (s[j]'hlt).toNat_lt
      have HW := wrap_byte (s[j]'hlt)
      go_wp2_with fail
      go_roundw
      case rel => exact ⟨_, j + 1, by first | rfl | rw [HW, HS], by go_num, by omega, trivial, HN.out⟩
      case measure => simp [intOf]; omega
    · have i1 : ¬ (j : Int) < (s.size : Int) := by omega
      have HE : Hid (z = sumS s) := by
        have := HH.out
        rw [sumL_end hlt] at this
        exact this
      clear HH
      go_wp2_with fail
      go_ret
      exact ⟨by rw [HE.out]; rfl, rfl⟩

end Go.Proofs.Ytpaefllhngbimaa
