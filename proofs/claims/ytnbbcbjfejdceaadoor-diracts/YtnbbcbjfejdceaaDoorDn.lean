/-
  Names made of a letter and a number's digits: they may be, no two are one, and each bucket has five among any four hundred on end. (No program stands in this text.)
-/
import Derived.Test.YtnbbcbjfejdceaaDoorDe
import Derived.Test.YtnbbcbjfejdceaaDoorAw
import Derived.Laws.BytesArg
namespace Go.Proofs.YtnbbcbjfejdceaaDoor
open Go.RowKit
set_option linter.unusedVariables false

/-- The digits of a number below 1000, as bytes. -/
def digs (n : Nat) : List Int := if n < 10 then [48 + (n : Int)] else if n < 100 then [48 + ((n / 10 : Nat) : Int), 48 + ((n % 10 : Nat) : Int)] else [48 + ((n / 100 : Nat) : Int), 48 + ((n / 10 % 10 : Nat) : Int), 48 + ((n % 10 : Nat) : Int)]

theorem digs_length (n : Nat) : 1 ≤ (digs n).length ∧ (digs n).length ≤ 3 := by unfold digs; split <;> (try split) <;> simp

/-- 'k' (107) or 'm' (109) and the digits. -/
def kn (c : UInt8) (n : Nat) : ByteArray := ⟨#[c]⟩ ++ strOfNums (digs n)

theorem kn_size (c : UInt8) (n : Nat) : (kn c n).size ≤ 4 := by
  unfold kn
  rw [ByteArray.size_append, strOfNums_size]
  have := (digs_length n).2
  show 1 + _ ≤ 4
  omega

theorem kn_may_k : ∀ n : Fin 464, chkF (kn 107 n.1) = 0 := by decide +kernel
theorem kn_may_m : ∀ n : Fin 376, chkF (kn 109 n.1) = 0 := by decide +kernel
theorem may_k (n : Nat) (h : n < 464) : chk (kn 107 n) = 0 := by rw [chk_eq]; exact kn_may_k ⟨n, h⟩
theorem may_m (n : Nat) (h : n < 376) : chk (kn 109 n) = 0 := by rw [chk_eq]; exact kn_may_m ⟨n, h⟩

/-- The number that a text's digits tell, behind its first byte. -/
def undig (s : ByteArray) : Nat := (s.data.toList.drop 1).foldl (fun a b => a * 10 + (b.toNat - 48)) 0

theorem undig_all : ∀ n : Fin 464, undig (kn 107 n.1) = n.1 ∧ undig (kn 109 n.1) = n.1 := by decide +kernel
theorem kn_inj_k {n m : Nat} (hn : n < 464) (hm : m < 464) (h : kn 107 n = kn 107 m) : n = m := by
  have h1 := (undig_all ⟨n, hn⟩).1
  have h2 := (undig_all ⟨m, hm⟩).1
  exact h1.symm.trans ((congrArg undig h).trans h2)
theorem kn_inj_m {n m : Nat} (hn : n < 464) (hm : m < 464) (h : kn 109 n = kn 109 m) : n = m := by
  have h1 := (undig_all ⟨n, hn⟩).2
  have h2 := (undig_all ⟨m, hm⟩).2
  exact h1.symm.trans ((congrArg undig h).trans h2)

/-- The buckets of 'k0', 'k1' .. -/
def kb : List Int := [4, 5, 6, 7, 0, 1, 2, 3, 4, 5, 3, 4, 5, 6, 7, 0, 1, 2, 3, 4, 2, 3, 4, 5, 6, 7, 0, 1, 2, 3, 1, 2, 3, 4, 5, 6, 7, 0, 1, 2, 0, 1, 2, 3, 4, 5, 6, 7, 0, 1, 7, 0, 1, 2, 3, 4, 5, 6, 7, 0, 6, 7, 0, 1, 2, 3, 4, 5, 6, 7, 5, 6, 7, 0, 1, 2, 3, 4, 5, 6, 4, 5, 6, 7, 0, 1, 2, 3, 4, 5, 3, 4, 5, 6, 7, 0, 1, 2, 3, 4, 5, 6, 7, 0, 1, 2, 3, 4, 5, 6, 4, 5, 6, 7, 0, 1, 2, 3, 4, 5, 3, 4, 5, 6, 7, 0, 1, 2, 3, 4, 2, 3, 4, 5, 6, 7, 0, 1, 2, 3, 1, 2, 3, 4, 5, 6, 7, 0, 1, 2, 0, 1, 2, 3, 4, 5, 6, 7, 0, 1, 7, 0, 1, 2, 3, 4, 5, 6, 7, 0, 6, 7, 0, 1, 2, 3, 4, 5, 6, 7, 5, 6, 7, 0, 1, 2, 3, 4, 5, 6, 4, 5, 6, 7, 0, 1, 2, 3, 4, 5, 6, 7, 0, 1, 2, 3, 4, 5, 6, 7, 5, 6, 7, 0, 1, 2, 3, 4, 5, 6, 4, 5, 6, 7, 0, 1, 2, 3, 4, 5, 3, 4, 5, 6, 7, 0, 1, 2, 3, 4, 2, 3, 4, 5, 6, 7, 0, 1, 2, 3, 1, 2, 3, 4, 5, 6, 7, 0, 1, 2, 0, 1, 2, 3, 4, 5, 6, 7, 0, 1, 7, 0, 1, 2, 3, 4, 5, 6, 7, 0, 6, 7, 0, 1, 2, 3, 4, 5, 6, 7, 5, 6, 7, 0, 1, 2, 3, 4, 5, 6, 7, 0, 1, 2, 3, 4, 5, 6, 7, 0, 6, 7, 0, 1, 2, 3, 4, 5, 6, 7, 5, 6, 7, 0, 1, 2, 3, 4, 5, 6, 4, 5, 6, 7, 0, 1, 2, 3, 4, 5, 3, 4, 5, 6, 7, 0, 1, 2, 3, 4, 2, 3, 4, 5, 6, 7, 0, 1, 2, 3, 1, 2, 3, 4, 5, 6, 7, 0, 1, 2, 0, 1, 2, 3, 4, 5, 6, 7, 0, 1, 7, 0, 1, 2, 3, 4, 5, 6, 7, 0, 6, 7, 0, 1, 2, 3, 4, 5, 6, 7, 0, 1, 2, 3, 4, 5, 6, 7, 0, 1, 7, 0, 1, 2, 3, 4, 5, 6, 7, 0, 6, 7, 0, 1, 2, 3, 4, 5, 6, 7, 5, 6, 7, 0, 1, 2, 3, 4, 5, 6, 4, 5, 6, 7, 0, 1, 2, 3, 4, 5, 3, 4, 5, 6, 7, 0, 1, 2, 3, 4, 2, 3, 4, 5]

theorem kb_all : ((List.range 464).map fun n => hashL (rsF 4 (kn 107 n) 0) 7 % 8) = kb := by decide +kernel

theorem kb_at (n : Nat) (h : n < 464) : kb.getD n 0 = bkt (kn 107 n) := by
  rw [← kb_all, List.getD, List.getElem?_map, List.getElem?_range h]
  show hashL (rsF 4 (kn 107 n) 0) 7 % 8 = bkt (kn 107 n)
  unfold bkt
  rw [rs_fuel _ 4 0 (by have := kn_size 107 n; omega)]

theorem five_all : ((List.range 64).all fun o => (List.range 8).all fun B => decide (5 ≤ ((List.range 100).filter fun i => kb.getD (i + o) 0 == (B : Int)).length)) = true := by decide +kernel

/-- Five of each bucket among any hundred on end. -/
theorem five (o B : Nat) (ho : o < 64) (hB : B < 8) : 5 ≤ ((List.range 100).filter fun i => bkt (kn 107 (i + o)) == (B : Int)).length := by
  have h := List.all_eq_true.1 (List.all_eq_true.1 five_all o (List.mem_range.2 ho)) B (List.mem_range.2 hB)
  rw [decide_eq_true_eq] at h
  have e : ((List.range 100).filter fun i => kb.getD (i + o) 0 == (B : Int)) = ((List.range 100).filter fun i => bkt (kn 107 (i + o)) == (B : Int)) := by
    apply List.filter_congr
    intro i hi
    rw [kb_at (i + o) (by have := List.mem_range.1 hi; omega)]
  rw [← e]; exact h

end Go.Proofs.YtnbbcbjfejdceaaDoor
