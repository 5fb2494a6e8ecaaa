/-
  Joined of my texts Laid Sg Sr Bits By.
-/
import Derived.Test.YtejadbpfkeeooaaGreatDoorJ2
import Derived.ProofKit
import Derived.LaidMore
import Derived.OpenShut
import Derived.Lay
import Derived.Stop.Joined
import Derived.Test.YtejadbpfkeeooaaGreatDoorJ1
import Derived.Maps.AppendAt
import Derived.Laws.BytesArg
import Derived.Laws.Rows
import Derived.Laws.MakeOwn
import Derived.Laws.Bits128
namespace Go.Proofs.YtejadbpfkeeooaaGreatDoor
open Go.ChangeShapes Go.WideShapes Go.ChangeAt Go.WideMaps Go.WideElems Go.RowKit Go.Lib
def laid2 : List (String × DataW Unit) := [("unicode/utf8.acceptRanges", Rows.laid_unicode_utf8_acceptRanges), ("unicode/utf8.first", Rows.laid_unicode_utf8_first)]
theorem own : ownKnob Tryz.prog.godebug = none := by kernel_rfl
theorem gFirst : Tryz.prog.globalNamed "unicode/utf8.first" = some 0 := by kernel_rfl
theorem tFirst : (Tryz.prog.globals[0]?).map (·.type) = some 156 := by kernel_rfl
theorem gAcc : Tryz.prog.globalNamed "unicode/utf8.acceptRanges" = some 1 := by kernel_rfl
theorem tAcc : (Tryz.prog.globals[1]?).map (·.type) = some 159 := by kernel_rfl
theorem first_listed : Rows.laid_unicode_utf8_first = .agg ((List.range 256).map fun i => .lit (.int .u8 (firstT i))) := by kernel_rfl
theorem acc_listed : (Rows.laid_unicode_utf8_acceptRanges : DataW Unit) = .agg ((List.range 16).map fun i => .agg [.lit (.int .u8 (accLo i)), .lit (.int .u8 (accHi i))]) := by kernel_rfl
/-- A world that meets the condition. -/
theorem met_laid (os : Os) (args : Array Value) : laidMetH Tryz.prog laid2 ((World.laidAll Tryz.prog os laid2).forCall (fun _ _ => 0) ⟨#[], args, []⟩).memory := by
 rw [MakeChecks.laidMetH_plain _ _ _ (by kernel_rfl)]
 exact laidMet_laidAll _ (by kernel_rfl) (by kernel_rfl)
theorem head_of_take {cs : List Value} {i : Nat} {v : Value} (h : (cs.drop i).take 1 = [v]) : cs[i]? = some v := by
 have := congrArg List.head? h
 simpa [List.head?_take] using this
/-- What the condition gives the walks. -/
theorem of_laid {W : World} (h : laidMetH Tryz.prog laid2 W) : Tab W := by
 rw [MakeChecks.laidMetH_plain _ _ _ (by kernel_rfl)] at h
 obtain ⟨ps, ⟨g0, t0, cs0, f0, p0, q0, hg0, ht0, hv0, hd0, ⟨g1, t1, cs1, f1, p1, q1, hg1, ht1, hv1, hd1, _, _⟩, _⟩, _, _⟩ := h
 obtain rfl := Option.some.inj (gAcc.symm.trans hg0)
 obtain rfl := Option.some.inj (tAcc.symm.trans ht0)
 obtain rfl := Option.some.inj (gFirst.symm.trans hg1)
 obtain rfl := Option.some.inj (tFirst.symm.trans ht1)
 have c5 : Tryz.prog.cellsOf 5 = 1 := by kernel_rfl
 have c43 : Tryz.prog.cellsOf 158 = 2 := by kernel_rfl
 refine ⟨fun i hi => ?_, fun i hi => ?_⟩
 · obtain ⟨xs, m1, rfl, hx1, hlen, hn3, hel⟩ := DataW.trod_array Tryz.underlying156 hd1
   have hc := World.var?_cell hg1 hv1 i
   have h0 := hel i (by omega)
   have hix : i < xs.length := by omega
   rw [List.getElem?_eq_getElem hix] at h0
   obtain ⟨k, e1, e2, _⟩ := DataW.trod_int Tryz.underlying5 h0
   rw [c5, Nat.mul_one] at e1
   have hcs := head_of_take e1
   have hL := congrArg (fun x => x.1) hx1
   simp only [first_listed, DataW.agg.injEq] at hL
   have hLi := congrArg (fun l => l[i]?) hL
   simp only [List.getElem?_map, List.getElem?_range hi, Option.map_some, List.getElem?_eq_getElem hix, e2] at hLi
   have hk : (firstT i : Int) = k := by simpa using hLi
   rw [hc, ← Array.getElem?_toList, hcs, hk]
 · obtain ⟨xs, m1, rfl, hx1, hlen, hn3, hel⟩ := DataW.trod_array Tryz.underlying159 hd0
   have hca := World.var?_cell hg0 hv0 (2 * i)
   have hcb := World.var?_cell hg0 hv0 (2 * i + 1)
   have h0 := hel i (by omega)
   have hix : i < xs.length := by omega
   rw [List.getElem?_eq_getElem hix, c43] at h0
   obtain ⟨y0, y1, n, e0, _, d0, d1⟩ := trod_struct2 Tryz.underlying158 h0
   simp only [c5, List.drop_zero] at d0 d1
   obtain ⟨k0, e1, e2, _⟩ := DataW.trod_int Tryz.underlying5 d0
   obtain ⟨k1, e3, e4, _⟩ := DataW.trod_int Tryz.underlying5 d1
   have hL := congrArg (fun x => x.1) hx1
   simp only [acc_listed, DataW.agg.injEq] at hL
   have hLi := congrArg (fun l => l[i]?) hL
   simp only [List.getElem?_map, List.getElem?_range hi, Option.map_some, List.getElem?_eq_getElem hix, e0, e2, e4] at hLi
   have hk : (accLo i : Int) = k0 ∧ (accHi i : Int) = k1 := by simpa using hLi
   have ea : cs0.toList[2 * i]? = some (.int .u8 k0) := by
     have := congrArg (fun l => l[0]?) e1
     simp only [List.getElem?_take, List.getElem?_drop] at this
     simpa [Nat.mul_comm] using this
   have eb : cs0.toList[2 * i + 1]? = some (.int .u8 k1) := by
     have := congrArg (fun l => l[0]?) e3
     simp only [List.getElem?_take, List.getElem?_drop] at this
     simpa [Nat.mul_comm] using this
   exact ⟨by rw [hca, ← Array.getElem?_toList, ea, hk.1], by rw [hcb, ← Array.getElem?_toList, eb, hk.2]⟩
end Go.Proofs.YtejadbpfkeeooaaGreatDoor

namespace Go.Proofs.YtejadbpfkeeooaaGreatDoor
open Go
set_option linter.unusedVariables false
/-- What stands between the strokes of s: the first piece begins at f, and its bytes ahead of i are none. -/
def segs (s : ByteArray) (f i : Nat) : List ByteArray :=
 if h : i < s.size then (if at8 s i = 47 then s.extract f i :: segs s (i + 1) (i + 1) else segs s f (i + 1)) else [s.extract f s.size]
termination_by s.size - i
theorem segs_end {s : ByteArray} {f i : Nat} (h : ¬ i < s.size) : segs s f i = [s.extract f s.size] := by rw [segs, dif_neg h]
theorem segs_stroke {s : ByteArray} {f i : Nat} (h : i < s.size) (e : at8 s i = 47) : segs s f i = s.extract f i :: segs s (i + 1) (i + 1) := by rw [segs, dif_pos h, if_pos e]
theorem segs_on {s : ByteArray} {f i : Nat} (h : i < s.size) (e : at8 s i ≠ 47) : segs s f i = segs s f (i + 1) := by rw [segs, dif_pos h, if_neg e]
theorem segs_run {s : ByteArray} {f i : Nat} (k : Nat) (h : i + k ≤ s.size) (e : ∀ j, j < k → at8 s (i + j) ≠ 47) : segs s f i = segs s f (i + k) := by
 induction k with
 | zero => rfl
 | succ k ih =>
   rw [ih (by omega) fun j hj => e j (by omega), segs_on (by omega) (e k (by omega))]
   rfl
theorem goes_no {s : ByteArray} {k : Nat} (h : 0 ≤ goes s k) : at8 s k ≠ 47 := by
 unfold goes at h
 split at h
 · omega
 · omega
/-- No byte of a rune is a stroke, but the stroke's. -/
theorem one_no {s : ByteArray} {i : Nat} (h : (one s i).1 ≠ 47) : ∀ j, j < max (one s i).2 1 → at8 s (i + j) ≠ 47 := by
 have g1 := @goes_no s (i + 1)
 have g2 := @goes_no s (i + 2)
 have g3 := @goes_no s (i + 3)
 have key : at8 s i ≠ 47 ∧ (2 ≤ (one s i).2 → 0 ≤ goes s (i + 1)) ∧ (3 ≤ (one s i).2 → 0 ≤ goes s (i + 2)) ∧ (4 ≤ (one s i).2 → 0 ≤ goes s (i + 3)) ∧ (one s i).2 ≤ 4 := by
   revert h
   unfold one
   simp only []
   generalize at8 s i = c at *
   generalize goes s (i + 1) = a at *
   generalize goes s (i + 2) = b at *
   generalize goes s (i + 3) = d at *
   intro h
   split at h
   · rename_i q1; rw [if_pos q1]; simp only [] at h ⊢; omega
   rename_i q1
   rw [if_neg q1]
   split at h
   · rename_i q2; rw [if_pos q2]; simp only [] at h ⊢; omega
   rename_i q2
   rw [if_neg q2]
   split at h
   · rename_i q3
     rw [if_pos q3]
     split at h
     · rename_i q4; rw [if_pos q4]; simp only [] at h ⊢; omega
     · rename_i q4; rw [if_neg q4]; simp only [] at h ⊢; omega
   rename_i q3
   rw [if_neg q3]
   split at h
   · rename_i q3
     rw [if_pos q3]
     split at h
     · rename_i q4; rw [if_pos q4]; simp only [] at h ⊢; omega
     · rename_i q4; rw [if_neg q4]; simp only [] at h ⊢; omega
   · rename_i q5; rw [if_neg q5]; simp only [] at h ⊢; omega
 intro j hj
 obtain ⟨k0, k1, k2, k3, k4⟩ := key
 have hj4 : j = 0 ∨ j = 1 ∨ j = 2 ∨ j = 3 := by omega
 rcases hj4 with rfl | rfl | rfl | rfl
 · exact k0
 · exact g1 (k1 (by omega))
 · exact g2 (k2 (by omega))
 · exact g3 (k3 (by omega))
theorem one_stroke {s : ByteArray} {i : Nat} (h : (one s i).1 = 47) : at8 s i = 47 ∧ (one s i).2 = 1 := by
 have g : ∀ k, -1 ≤ goes s k ∧ goes s k ≤ 63 := fun k => by
   unfold goes
   split
   · omega
   · omega
 have g1 := g (i + 1)
 have g2 := g (i + 2)
 have g3 := g (i + 3)
 revert h
 unfold one
 simp only []
 generalize at8 s i = c at *
 generalize goes s (i + 1) = a at *
 generalize goes s (i + 2) = b at *
 generalize goes s (i + 3) = d at *
 intro h
 split at h
 · rename_i q1; rw [if_pos q1]; exact ⟨by have : (c : Int) = 47 := h; omega, rfl⟩
 rename_i q1
 split at h
 · simp only [] at h; omega
 split at h
 · split at h
   · simp only [] at h; omega
   · simp only [] at h; omega
 split at h
 · split at h
   · simp only [] at h; omega
   · simp only [] at h; omega
 · simp only [] at h; omega
/-- A rune of a loop over the text that is no stroke. -/
theorem segs_rune {s : ByteArray} {f i : Nat} (h : i < s.size) (e : (one s i).1 ≠ 47) : segs s f i = segs s f (i + max (one s i).2 1) :=
 segs_run _ (by have := one_width s i h; omega) (one_no e)
theorem segs_mark {s : ByteArray} {f i : Nat} (h : i < s.size) (e : (one s i).1 = 47) : segs s f i = s.extract f i :: segs s (i + 1) (i + max (one s i).2 1) := by
 obtain ⟨h1, h2⟩ := one_stroke e
 rw [segs_stroke h h1, h2]
 rfl
theorem at8_data (s : ByteArray) (i : Nat) : at8 s i = ((s.data[i]?).getD 0).toNat := by unfold at8; rw [get_data]
theorem at8_ext {s : ByteArray} {a b i : Nat} (h : a + i < b) (hb : b ≤ s.size) : at8 (s.extract a b) i = at8 s (a + i) := by
 rw [at8_data, at8_data]
 congr 2
 rw [ByteArray.data_extract, Array.getElem?_extract]
 have : b ≤ s.data.size := hb
 rw [if_pos (by omega)]
theorem ext_ext (s : ByteArray) (a b c : Nat) (hb : a + c ≤ s.size) : (s.extract a s.size).extract b c = s.extract (a + b) (a + c) := by
 apply ByteArray.ext
 rw [ByteArray.data_extract, ByteArray.data_extract, ByteArray.data_extract, Array.extract_extract]
 congr 1
 have : s.data.size = s.size := rfl
 omega
/-- What stands behind the first byte, cut as the whole. -/
theorem segs_behind (s : ByteArray) (h1 : 1 ≤ s.size) (n : Nat) : ∀ f i, i ≤ s.size - 1 → s.size ≤ i + n + 1 → segs (s.extract 1 s.size) f i = segs s (1 + f) (1 + i) := by
 have hz : (s.extract 1 s.size).size = s.size - 1 := by rw [ByteArray.size_extract]; omega
 induction n with
 | zero =>
   intro f i hi hn
   rw [segs_end (by omega), segs_end (by omega), hz, ext_ext _ _ _ _ (by omega)]
   congr 2
   omega
 | succ n ih =>
   intro f i hi hn
   by_cases h : i < s.size - 1
   · have e : at8 (s.extract 1 s.size) i = at8 s (1 + i) := at8_ext (by omega) (Nat.le_refl _)
     by_cases h2 : at8 s (1 + i) = 47
     · rw [segs_stroke (by omega) (e.trans h2), segs_stroke (by omega) h2, ih _ _ (by omega) (by omega), ext_ext _ _ _ _ (by omega)]
       rfl
     · rw [segs_on (by omega) (by rw [e]; exact h2), segs_on (by omega) h2, ih _ _ (by omega) (by omega)]
       rfl
   · rw [segs_end (by omega), segs_end (by omega), hz, ext_ext _ _ _ _ (by omega)]
     congr 2
     omega
theorem segs_below (s : ByteArray) (h1 : 1 ≤ s.size) : segs (s.extract 1 s.size) 0 0 = segs s 1 1 := segs_behind s h1 s.size 0 0 (by omega) (by omega)
theorem segs_len (s : ByteArray) (n : Nat) : ∀ f i, s.size ≤ i + n → (segs s f i).length ≤ n + 1 := by
 induction n with
 | zero => intro f i h; rw [segs_end (by omega)]; simp
 | succ n ih =>
   intro f i h
   by_cases h2 : i < s.size
   · by_cases h3 : at8 s i = 47
     · rw [segs_stroke h2 h3, List.length_cons]; have := ih (i + 1) (i + 1) (by omega); omega
     · rw [segs_on h2 h3]; have := ih f (i + 1) (by omega); omega
   · rw [segs_end h2]; simp
/-- The first error among the pieces, as an error of paths. -/
def firstErr : List ByteArray → Int
 | [] => 0
 | p :: l => if chk p = 0 then firstErr l else if chk p = 801 then 1101 else 1100
/-- What Parse answers. -/
def parseR (s : ByteArray) : List ByteArray × Int :=
 if 64 < s.size then ([], 1101) else if s.size = 0 ∨ at8 s 0 ≠ 47 then ([], 1100) else if s.size = 1 then ([], 0)
 else if firstErr (segs s 1 1) ≠ 0 then ([], firstErr (segs s 1 1)) else if 4 < (segs s 1 1).length then ([], 1102) else (segs s 1 1, 0)
/-- A stroke ahead of each name. -/
def joinL : List ByteArray → ByteArray
 | [] => ⟨#[]⟩
 | p :: l => ⟨#[47]⟩ ++ (p ++ joinL l)
def joinP (l : List ByteArray) : ByteArray := if l = [] then ⟨#[47]⟩ else joinL l
/-- All of these may be names. -/
def allMay (l : List ByteArray) : Bool := l.all fun p => chk p == 0
/-- What Print answers. -/
def printR (l : List ByteArray) : ByteArray × Int :=
 if allMay l = false then (⟨#[]⟩, 1100) else if 4 < l.length then (⟨#[]⟩, 1102) else (joinP l, 0)
/-- What Code answers. -/
def codeR (e : Int) : Int := if e = 0 then 0 else if e = 1101 ∨ e = 1102 then 6 else 9
/-- What Below answers. -/
def belowR (a b : ByteArray) : Bool := (parseR a).2 == 0 && (parseR b).2 == 0 && decide ((parseR a).1.length < (parseR b).1.length) && decide ((parseR a).1 = (parseR b).1.take (parseR a).1.length)
theorem chk_any (s : ByteArray) : chk s = 0 ∨ chk s = 800 ∨ chk s = 801 := by
 unfold chk
 split
 · simp
 split
 · simp
 split
 · simp
 · simp
theorem chk_size {s : ByteArray} (h : chk s = 0) : s.size ≤ 12 ∧ (rs s 0).any badR = false := by
 unfold chk at h
 split at h
 · omega
 split at h
 · omega
 split at h
 · omega
 · rename_i h1 h2 h3
   exact ⟨by omega, by simpa using h3⟩
theorem first_ok (l : List ByteArray) : firstErr l = 0 ↔ allMay l = true := by
 induction l with
 | nil => simp [firstErr, allMay]
 | cons p l ih =>
   unfold allMay at ih ⊢
   rw [firstErr, List.all_cons, Bool.and_eq_true, beq_iff_eq, ← ih]
   split
   · rename_i h; simp [h]
   · rename_i h
     split
     · simp [h]
     · simp [h]
theorem all_may {l : List ByteArray} (h : allMay l = true) : ∀ q ∈ l, chk q = 0 := fun q hq => by
 unfold allMay at h
 simpa using List.all_eq_true.1 h q hq
theorem parse_few (s : ByteArray) : (parseR s).1.length ≤ 4 ∧ ((parseR s).2 ≠ 0 → (parseR s).1 = []) ∧ (∀ q ∈ (parseR s).1, chk q = 0) := by
 unfold parseR
 split
 · simp
 split
 · simp
 split
 · simp
 split
 · simp
 split
 · simp
 · rename_i h1 h2 h3 h4 h5
   refine ⟨by simp only []; omega, fun h => absurd rfl h, all_may ((first_ok _).1 (by simpa using h4))⟩
end Go.Proofs.YtejadbpfkeeooaaGreatDoor

namespace Go.Proofs.YtejadbpfkeeooaaGreatDoor
open Go.RowKit
set_option linter.unusedVariables false
/-- A text of a row (none behind its end). -/
def tx (xs : List ByteArray) (i : Nat) : ByteArray := xs.getD i ⟨#[]⟩
theorem tx_ext {xs ys : List ByteArray} (hl : xs.length = ys.length) (h : ∀ j, j < xs.length → tx xs j = tx ys j) : xs = ys := by
 apply List.ext_getElem hl
 intro i h1 h2
 have := h i h1
 unfold tx at this
 rw [List.getD_eq_getElem?_getD, List.getD_eq_getElem?_getD, List.getElem?_eq_getElem h1, List.getElem?_eq_getElem h2] at this
 exact this
theorem ret_bool {x y : Bool} (h : x = y) : Ending.returned (.bool x) = .returned (.bool y) := by rw [h]
/-- A slice's texts lie there. -/
def Ss (w : World) (a : Option Addr) (xs : List ByteArray) : Prop :=
 xs.length ≤ 9223372036854775807 ∧ ∀ i, i < xs.length → ∃ b off, a = some ⟨b, off, none⟩ ∧ w.cell? ⟨b, off + i, none⟩ = some (.string (tx xs i))
theorem Ss.same {w w' : World} {a : Option Addr} {xs : List ByteArray} (h : Ss w a xs) (hk : ∀ x, a = some x → w'.heap[x.block]? = w.heap[x.block]?) : Ss w' a xs :=
 ⟨h.1, fun i hi => by
   obtain ⟨b, off, rfl, hc⟩ := h.2 i hi
   refine ⟨b, off, rfl, ?_⟩
   have := hk _ rfl
   unfold World.cell? at hc ⊢
   simp only [] at hc ⊢ this
   rw [this]
   exact hc⟩
theorem Ss.lt {w : World} {a : Option Addr} {xs : List ByteArray} (h : Ss w a xs) (hx : xs ≠ []) {x : Addr} (hax : a = some x) : x.block < w.heap.size := by
 obtain ⟨b, off, rfl, hc⟩ := h.2 0 (by cases xs with | nil => exact absurd rfl hx | cons => simp)
 simp at hax
 subst hax
 rcases Nat.lt_or_ge b w.heap.size with h' | h'
 · exact h'
 · simp [World.cell?, Array.getElem?_eq_none h'] at hc
theorem Ss.none {w : World} {a : Option Addr} : Ss w a [] := ⟨by simp, fun i hi => by simp at hi⟩
theorem Ss.kept {w w' : World} {a : Option Addr} {xs : List ByteArray} (h : Ss w a xs) (k : Kept [] w w') : Ss w' a xs := by
 by_cases hx : xs = []
 · subst hx; exact Ss.none
 · exact h.same fun x hax => k.block _ (h.lt hx hax) (by simp)
theorem Ss.drewN {w : World} {a : Option Addr} {xs : List ByteArray} (h : Ss w a xs) (n : Nat) : Ss (w.drewN n) a xs := h
theorem Ss.take {w : World} {a : Option Addr} {xs : List ByteArray} (h : Ss w a xs) (n : Nat) : Ss w a (xs.take n) :=
 ⟨by have := h.1; rw [List.length_take]; omega, fun i hi => by
   rw [List.length_take] at hi
   obtain ⟨b, off, rfl, hc⟩ := h.2 i (by omega)
   refine ⟨b, off, rfl, ?_⟩
   rw [hc]
   congr 2
   unfold tx
   rw [List.getD_eq_getElem?_getD, List.getD_eq_getElem?_getD, List.getElem?_take_of_lt (by omega)]⟩
/-- A row of texts of a call's own, in a block from H on. -/
def Sr (w : World) (H : Nat) (v : Value) (xs : List ByteArray) : Prop := w.ownsRow H 9 1 v xs.length (xs.map Value.string)
theorem Sr.nil (w : World) (H : Nat) : Sr w H (.slice none 0 0) [] := World.ownsRow_nil w H 9 1
theorem Sr.same {w w' : World} {H : Nat} {v : Value} {xs : List ByteArray} (h : Sr w H v xs) (hk : ∀ k, v.ownBlock = some k → w'.heap[k]? = w.heap[k]?) : Sr w' H v xs := by
 refine ⟨h.1, ?_⟩
 rcases h.2 with hn | ⟨g, cap, cur, rfl, hb, hgg, rest⟩
 · exact .inl hn
 · exact .inr ⟨g, cap, cur, rfl, hb, by rw [hk g rfl]; exact hgg, rest⟩
theorem Sr.block {w : World} {H : Nat} {v : Value} {xs : List ByteArray} (h : Sr w H v xs) : ∀ k, v.ownBlock = some k → H ≤ k ∧ k < w.heap.size := World.ownsRow.lt h
theorem Sr.kept {w w' : World} {H : Nat} {v : Value} {xs : List ByteArray} (h : Sr w H v xs) (k : Kept [] w w') : Sr w' H v xs :=
 h.same fun x hx => k.block x (h.block x hx).2 (by simp)
theorem Sr.less {w : World} {H H' : Nat} {v : Value} {xs : List ByteArray} (h : Sr w H v xs) (hH : H' ≤ H) : Sr w H' v xs := by
 refine ⟨h.1, ?_⟩
 rcases h.2 with hn | ⟨g, cap, cur, rfl, hb, rest⟩
 · exact .inl hn
 · exact .inr ⟨g, cap, cur, rfl, by omega, rest⟩
/-- Its form, and its texts. -/
theorem Sr.read {w : World} {H : Nat} {v : Value} {xs : List ByteArray} (h : Sr w H v xs) : ∃ a c, v = .slice a xs.length c ∧ Ss w a xs ∧ ∀ x, a = some x → H ≤ x.block := by
 rcases h.2 with ⟨rfl, h2⟩ | ⟨g, cap, cur, rfl, hb, hgg, h4, h5, h6, h7⟩
 · have : xs = [] := List.eq_nil_of_length_eq_zero h2
   subst this
   exact ⟨_, _, rfl, Ss.none, fun x hx => by cases hx⟩
 · refine ⟨_, _, rfl, ⟨by unfold maxLen at h5; omega, fun i hi => ⟨g, 0, rfl, ?_⟩⟩, fun x hx => by cases hx; exact hb⟩
   rw [Nat.zero_add, cell_of_row _ _ _ _ _ _ hgg]
   have h8 : (cur.toList.take (xs.length * 1))[i]? = (xs.map Value.string)[i]? := by rw [h7]
   rw [List.getElem?_take_of_lt (by omega), Array.getElem?_toList] at h8
   rw [h8]
   unfold tx
   rw [List.getD_eq_getElem?_getD]
   simp [hi]
theorem info9 : (Tryz.prog.info? 9).map (fun i => (i.zero, i.size, i.bytes)) = some (some (.string ⟨#[]⟩), 1, 16) := by kernel_rfl
theorem texts_oneCell (xs : List ByteArray) : ∀ u ∈ xs.map Value.string, u.oneCell' = true := by
 intro u hu
 simp only [List.mem_map] at hu
 obtain ⟨a, _, rfl⟩ := hu
 rfl
/-- An append of texts that lie somewhere. -/
theorem append_texts {w : World} {H : Nat} {v : Value} {xs ys : List ByteArray} (h : Sr w H v xs) (hH : H ≤ w.heap.size) (a : Option Addr) (n c : Nat) (hn : n = ys.length) (hy : Ss w a ys) (ha : a ≠ none) (hb : (xs.length + ys.length) * 16 ≤ 140737488355328) (ty : TypeId) :
   ∃ v' w', (Builtin.append_ #[30, 30] ty #[v, .slice a n c]).run Tryz.prog w = .ok v' w' ∧ Sr w' H v' (xs ++ ys) ∧ w.grownBy w' v.ownBlock := by
 subst hn
 obtain ⟨i0, hi, hz0, hz1, hz2⟩ := info_parts info9
 cases a with
 | none => exact absurd rfl ha
 | some ad =>
   obtain ⟨v', w', hr, h2, h3, _, h5⟩ := run_append_own_at (P := Tryz.prog) w H 30 ty 9 i0 (.string ⟨#[]⟩) 1 16 Tryz.underlying30 hi hz0 hz1 hz2 rfl (by omega) v xs.length (xs.map Value.string) h ad ys.length c (ys.map Value.string) (by simp)
     (fun j u hu => by
       rw [List.getElem?_map] at hu
       rcases Nat.lt_or_ge j ys.length with hj | hj
       · obtain ⟨b, off, e, hc⟩ := hy.2 j hj
         cases e
         have ea : (⟨b, off, none⟩ : Addr).add j = ⟨b, off + j, none⟩ := by unfold Addr.add; split <;> simp_all
         rw [ea, hc]
         unfold tx
         rw [List.getD_eq_getElem?_getD]
         rw [List.getElem?_eq_getElem hj] at hu ⊢
         simpa using hu
       · rw [List.getElem?_eq_none hj] at hu; cases hu)
     (texts_oneCell ys) (by unfold maxLen; omega) hb hH
   refine ⟨v', w', hr, ?_, h3⟩
   unfold Sr
   rw [List.length_append, List.map_append]
   exact h2
/-- An append of one text, built for it. -/
theorem append_text {w : World} {H : Nat} {v : Value} {xs : List ByteArray} (h : Sr w H v xs) (hH : H ≤ w.heap.size) (e : ByteArray) (hb : xs.length + 1 ≤ 1000000) (ty : TypeId) :
   ∃ v' w', (Builtin.append_ #[30, 30] ty #[v, .slice (some ⟨w.heap.size, 0, none⟩) 1 1]).run Tryz.prog (w.alloc (.cells #[.string e] 9)) = .ok v' w' ∧ Sr w' H v' (xs ++ [e]) ∧ Kept v.ownBlock.toList w w' := by
 have hk : Kept [] w (w.alloc (.cells #[.string e] 9)) := (Kept.refl [] w).alloc _
 have hs : Ss (w.alloc (.cells #[.string e] 9)) (some ⟨w.heap.size, 0, none⟩) [e] := ⟨by simp, fun i hi => ⟨_, _, rfl, by
   have : i = 0 := by simpa using hi
   subst this
   rw [cell_of_row _ _ _ _ _ _ (heap_alloc_new w _)]
   rfl⟩⟩
 obtain ⟨v', w', hr, h2, h3⟩ := append_texts (h.kept hk) (by have := hk.size; omega) _ 1 1 rfl hs (by simp) (by simp; omega) ty
 exact ⟨v', w', hr, h2, (hk.mono (by simp)).grown h3 fun x hx => Or.inl (by rw [hx]; simp)⟩
/-- At an append: whatever it does, by its run. -/
theorem wpList_append_run {P : Program} (w : World) {ops : Array Oper} {rest : List Oper} {o : Oper} {a : Act} {Q : Exit → Act → World → Prop} (hgd : o.guard = none) (s x : Operand) (t1 t2 : TypeId)
   (ho : o.op = .call { callee := .builtin .append, args := #[s, x], argTypes := #[t1, t2] }) (v u : Value) (hs : a.eval s = v) (hx : a.eval x = u) (v' : Value) (w' : World)
   (hr : (Builtin.append_ #[t1, t2] o.type #[v, u]).run P w = .ok v' w') (h : wpList P ops Q rest (a.put o.dst v') w') : wpList P ops Q (o :: rest) a w := by
 refine wpList_plain hgd fun K hK => ?_
 unfold Oper.wp execOp
 simp only [ho, resolve, invoke, builtin, Sem.run_bind, Sem.run_pure, Result.andThen_ok, List.map_toArray, List.map_cons, List.map_nil, hs, hx, hr]
 exact hK _ _ h
theorem kept_of_own {w w' : World} {H : Nat} {v : Value} {w0 : World} (h0 : Kept [] w0 w) (h : Kept v.ownBlock.toList w w') (hv : ∀ k, v.ownBlock = some k → w0.heap.size ≤ k) : Kept [] w0 w' :=
 h0.trans h fun x hx => Or.inr (hv x (by simpa using hx))
set_option maxRecDepth 100000 in
set_option maxHeartbeats 2000000 in
set_option maxRecDepth 100000 in
set_option maxHeartbeats 2000000 in
theorem slices_equal (a b : Option Addr) (n m c d : Nat) (xs ys : List ByteArray) (w : World) (hn : n = xs.length) (hm : m = ys.length) (ha : Ss w a xs) (hb : Ss w b ys) :
   Calls Tryz.prog 38 #[.slice a n c, .slice b m d] w fun e w' => e = .returned (.bool (decide (xs = ys))) ∧ ∃ q, w' = w.drewN q := by
 have hn63 := ha.1
 have hm63 := hb.1
 obtain ⟨z, hz⟩ : ∃ z, decide (xs = ys) = z := ⟨_, rfl⟩
 rw [hz]
 by_cases hnm : n = m
 · subst hnm
   have HB : Hid (Ss w a xs ∧ Ss w b ys ∧ n = xs.length ∧ n = ys.length ∧ decide (xs = ys) = z) := ⟨ha, hb, hn, hm, hz⟩
   have hbig : n ≤ 9223372036854775807 := by omega
   clear ha hb hn hm hz hn63 hm63
   go_enter Tryz.func38, Tryz.ntmps38
   go_wp2_with fail
   go_loopw [13] (fun s wr => ∃ (k q : Nat), s = .int .i64 (k : Int) ∧ k ≤ n ∧ wr = w.drewN q ∧ Hid (∀ j, j < k → tx xs j = tx ys j)) (fun s _ => (n - intOf s).toNat)
   case atStart => exact ⟨0, 0, rfl, by omega, rfl, fun j hj => by omega⟩
   case round =>
     obtain ⟨k, q, rfl, hk, rfl, HJ⟩ := hrel
     by_cases hlt : k < n
     · have i1 : (k : Int) < (n : Int) := by omega
       obtain ⟨b1, o1, rfl, c1⟩ := HB.out.1.2 k (by have := HB.out.2.2.1; omega)
       obtain ⟨b2, o2, rfl, c2⟩ := HB.out.2.1.2 k (by have := HB.out.2.2.2.1; omega)
       obtain ⟨x, hx⟩ : ∃ x, tx xs k = x := ⟨_, rfl⟩
       obtain ⟨y, hy⟩ : ∃ y, tx ys k = y := ⟨_, rfl⟩
       rw [hx] at c1
       rw [hy] at c2
       by_cases hxy : x = y
       · subst hxy
         have HX : Hid (tx xs k = tx ys k) := hx.trans hy.symm
         clear hx hy
         go_wp2_with fail
         go_region
         go_wp2_with fail
         go_roundw
         case rel => exact ⟨k + 1, q + 1, by go_num, by omega, rfl, fun j hj => by
           rcases Nat.lt_or_ge j k with h | h
           · exact HJ.out j h
           · have : j = k := by omega
             rw [this]; exact HX.out⟩
         case measure => simp [intOf]; omega
       · have hne : ¬ x.toList = y.toList := fun e => hxy (by apply ByteArray.ext; apply Array.ext'; rw [ByteArray.toList_eq, ByteArray.toList_eq] at e; exact e)
         have hnb : (x.toList == y.toList) = false := by simpa using hne
         have HX : Hid (false = z) := by
           show false = z
           rw [← HB.out.2.2.2.2]
           symm
           rw [decide_eq_false_iff_not]
           intro e
           rw [e, hy] at hx
           exact hxy hx.symm
         clear hx hy hxy
         go_wp2_with fail
         go_region
         go_wp2_with fail
         go_ret
         exact ⟨ret_bool HX.out, q + 1, rfl⟩
     · have i1 : ¬ (k : Int) < (n : Int) := by omega
       have HX : Hid (true = z) := by
         show true = z
         rw [← HB.out.2.2.2.2]
         symm
         rw [decide_eq_true_eq]
         have h1 := HB.out.2.2.1
         have h2 := HB.out.2.2.2.1
         refine tx_ext (by omega) fun j hj => HJ.out j (by omega)
       go_wp2_with fail
       go_ret
       exact ⟨ret_bool HX.out, q, rfl⟩
 · have i0 : ¬ (n : Int) = (m : Int) := by omega
   have HX : Hid (false = z) := by
     show false = z
     rw [← hz]
     symm
     rw [decide_eq_false_iff_not]
     intro e
     exact hnm (by rw [hn, hm, e])
   clear ha hb hn hm hz hn63 hm63
   go_enter Tryz.func38, Tryz.ntmps38
   go_wp2_with fail
   go_ret
   exact ⟨ret_bool HX.out, 0, rfl⟩
end Go.Proofs.YtejadbpfkeeooaaGreatDoor

namespace Go.Proofs.YtejadbpfkeeooaaGreatDoor
theorem i64_and3 (n : Int) : bits .and .i64 n 3 = n % 4 := by
 have h1 : (BitVec.ofInt 64 3).toNat = 2 ^ 2 - 1 := by decide
 have key : (BitVec.ofInt 64 n &&& BitVec.ofInt 64 3).toNat = (n % ((2 ^ 64 : Nat) : Int)).toNat % 2 ^ 2 := by
   rw [BitVec.toNat_and, BitVec.toNat_ofInt, h1, Nat.and_two_pow_sub_one_eq_mod]
 show IntKind.i64.wrap ((BitVec.ofInt 64 n &&& BitVec.ofInt 64 3).toNat : Nat) = n % 4
 rw [key, IntKind.wrap_i64]
 omega
end Go.Proofs.YtejadbpfkeeooaaGreatDoor

namespace Go.Proofs.YtejadbpfkeeooaaGreatDoor
open Go.RowKit Go.Lib
set_option linter.unusedVariables false
/-! ### Texts -/
/-! ### Rows of bytes -/
/-- A row of bytes of the call's own. -/
structure Bs (w0 W : World) (B : Nat) (xs : List Int) : Prop where
 kept : Kept [] w0 W
 new : w0.heap.size ≤ B
 here : W.heap[B]? = some (.cells (xs.map (Value.int .u8)).toArray 5 (0, 0))
theorem Bs.cell {w0 W : World} {B : Nat} {xs : List Int} (h : Bs w0 W B xs) {i : Nat} (hi : i < xs.length) : W.cell? ⟨B, i, none⟩ = some (.int .u8 (xs.getD i 0)) := by
 simp [World.cell?, h.here, hi]
theorem Bs.frozen {w0 W : World} {B : Nat} {xs : List Int} (h : Bs w0 W B xs) (i : Nat) : W.frozen? ⟨B, i, none⟩ = false := by
 simp [World.frozen?, h.here]
theorem Bs.set {w0 W : World} {B : Nat} {xs : List Int} (h : Bs w0 W B xs) (i : Nat) (v : Int) : Bs w0 (W.setCell ⟨B, i, none⟩ (.int .u8 v)) B (xs.set i v) := by
 refine ⟨h.kept.setCell (Or.inr h.new) _, h.new, ?_⟩
 rw [heap_setCell_same W B i _ 5 _ h.here]
 simp [List.map_set]
theorem Bs.turn {w0 W W' : World} {B : Nat} {xs : List Int} (h : Bs w0 W B xs) (k : Kept [] W W') : Bs w0 W' B xs :=
 ⟨h.kept.trans k (by simp), h.new, (k.block B (lt_of_heap h.here) (by simp)).trans h.here⟩
theorem Bs.conv {w0 W : World} {B : Nat} {xs : List Int} (h : Bs w0 W B xs) (n : Nat) (hn : xs.length = n) (c : Nat) : (convert 48 9 (.slice (some ⟨B, 0, none⟩) n c)).run Tryz.prog W = .ok (.string (strOfNums xs)) W :=
 run_convert_bytes_arg (P := Tryz.prog) W 48 5 Tryz.underlying48 Tryz.underlying5 B 0 n c xs hn (fun i hi => by rw [Nat.zero_add]; exact h.cell (by omega)) 9 Tryz.underlying9
theorem info5 : (Tryz.prog.info? 5).map (fun i => (i.zero, i.size, i.bytes)) = some (some (.int .u8 0), 1, 1) := by kernel_rfl
theorem make_bytes (n : Nat) (h : n ≤ 2000000) (w : World) : (Instr.makeSlice 48 (.int .i64 (n : Int)) (.int .i64 (n : Int))).run Tryz.prog w = .ok (.slice (some ⟨w.heap.size, 0, none⟩) n n) (w.alloc (.cells ((List.replicate n (0 : Int)).map (Value.int .u8)).toArray 5)) := by
 obtain ⟨i0, hi, hx⟩ : ∃ i0, Tryz.prog.info? 5 = some i0 ∧ (i0.zero, i0.size, i0.bytes) = (some (Value.int .u8 0), 1, 1) := by
   cases hi : Tryz.prog.info? 5 with
   | none => have := info5; rw [hi] at this; cases this
   | some i0 => have := info5; rw [hi] at this; exact ⟨i0, rfl, Option.some.inj this⟩
 obtain ⟨hz0, hz1, hz2⟩ : i0.zero = some (Value.int .u8 0) ∧ i0.size = 1 ∧ i0.bytes = 1 := by simpa using hx
 have := run_make (P := Tryz.prog) w 48 5 i0 (.int .u8 0) Tryz.underlying48 hi hz0 .i64 .i64 n n (by omega) (by omega) (by rw [hz2]; omega) (by omega)
 rw [this]
 have e : madeCells (Value.int .u8 0).cells ((n : Int).toNat * i0.size) = ((List.replicate n (0 : Int)).map (Value.int .u8)).toArray := by
   apply Array.ext'
   rw [hz1]
   simp [toList_madeCells_one, Value.cells]
 rw [e]
 simp
theorem Bs.made {w0 w : World} (h : Kept [] w0 w) (n : Nat) : Bs w0 (w.alloc (.cells ((List.replicate n (0 : Int)).map (Value.int .u8)).toArray 5)) w.heap.size (List.replicate n 0) :=
 ⟨h.alloc _, h.size, by show (w.heap.push _)[w.heap.size]? = _; simp⟩
end Go.Proofs.YtejadbpfkeeooaaGreatDoor
