/-
  Texts made of the bytes of one rune of two bytes: what is told of them.
-/
import Derived.Test.YtecddbolgegdfaaDoorBy
namespace Go.Proofs.YtecddbolgegdfaaDoor
open Go.RowKit Go.Lib
set_option linter.unusedVariables false

/-- The bytes of a rune of two bytes, and what is told of texts made of them. -/
def ab (q t : Nat) : ByteArray := strOfNums [192 + (q : Int), 128 + (t : Int)]
def ao (q : Nat) : ByteArray := strOfNums [192 + (q : Int)]
def at' (t : Nat) : ByteArray := strOfNums [128 + (t : Int)]

def utfAll (q t : Nat) : Bool :=
  chkF (ab q t) == 0 && (rsF 2 (ab q t) 0).length == 1 && hashL (rsF 2 (ab q t) 0) 7 == (217 + (q * 64 + t : Nat) : Int) && chkF (ao q) == 800 && chkF (at' t) == 800 && hashL (rsF 1 (ao q) 0) 7 == 65750
    && chkF (⟨#[97]⟩ ++ ab q t) == 0 && chkF (ab q t ++ ao q) == 800 && (rsF 5 (ab q t ++ at' t ++ ab q t) 0).length == 3

theorem utf_all : ((List.range 30).all fun q => (List.range 64).all fun t => utfAll (q + 2) t) = true := by decide +kernel

theorem utf_facts (q t : Nat) (hq : 2 ≤ q) (hq2 : q < 32) (ht : t < 64) :
    chk (ab q t) = 0 ∧ (rs (ab q t) 0).length = 1 ∧ hashL (rs (ab q t) 0) 7 = 217 + ((q * 64 + t : Nat) : Int) ∧ chk (ao q) = 800 ∧ chk (at' t) = 800 ∧ hashL (rs (ao q) 0) 7 = 65750
    ∧ chk (⟨#[97]⟩ ++ ab q t) = 0 ∧ chk (ab q t ++ ao q) = 800 ∧ (rs (ab q t ++ at' t ++ ab q t) 0).length = 3 := by
  have h := List.all_eq_true.1 (List.all_eq_true.1 utf_all (q - 2) (List.mem_range.2 (by omega))) t (List.mem_range.2 ht)
  rw [show q - 2 + 2 = q by omega] at h
  unfold utfAll at h
  simp only [Bool.and_eq_true, beq_iff_eq] at h
  obtain ⟨⟨⟨⟨⟨⟨⟨⟨h1, h2⟩, h3⟩, h4⟩, h5⟩, h6⟩, h7⟩, h8⟩, h9⟩ := h
  have s2 : (ab q t).size = 2 := strOfNums_size _
  have s1 : (ao q).size = 1 := strOfNums_size _
  have s0 : (at' t).size = 1 := strOfNums_size _
  refine ⟨by rw [chk_eq]; exact h1, ?_, ?_, by rw [chk_eq]; exact h4, by rw [chk_eq]; exact h5, ?_, by rw [chk_eq]; exact h7, by rw [chk_eq]; exact h8, ?_⟩
  · rw [rs_fuel _ 2 0 (by omega)]; exact h2
  · rw [rs_fuel _ 2 0 (by omega)]; exact h3
  · rw [rs_fuel _ 1 0 (by omega)]; exact h6
  · rw [rs_fuel _ 5 0 (by rw [ByteArray.size_append, ByteArray.size_append]; omega)]; exact h9


end Go.Proofs.YtecddbolgegdfaaDoor
