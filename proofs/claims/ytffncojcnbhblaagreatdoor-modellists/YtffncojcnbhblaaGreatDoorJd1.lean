/-
  Joined of my texts Base U8 Rf Rh.
-/
import Derived.Test.YtffncojcnbhblaaGreatDoorRows
import Derived.WalkKit
import Derived.WalkSpells
import Derived.WalkLawsBesides
import Derived.Deep.Draws
import Derived.Deep.AppendLies
import Derived.Laws.RangeAny
set_option linter.unusedVariables false
set_option linter.unusedSimpArgs false
set_option maxRecDepth 100000
set_option maxHeartbeats 8000000
namespace Go.Proofs.YtffncojcnbhblaaGreatDoor
open Go.RowKit
def i64s (xs : List Int) : Array Value := (xs.map (Value.int .i64)).toArray
def wordAt (xs : List Int) (i : Nat) : Int := xs.getD i 0
structure Kept (F : List Nat) (w w' : World) : Prop where
 os : w'.os = w.os
 tape : w'.tape = w.tape
 output : w'.output = w.output
 size : w.heap.size ≤ w'.heap.size
 block : ∀ k, k < w.heap.size → k ∉ F → w'.heap[k]? = w.heap[k]?
theorem nor {F : List Nat} {i n : Nat} (hF : i ∉ F) (hi : i < n) (h : i ∈ F ∨ n ≤ i) : False := by
 rcases h with h | h
 · exact hF h
 · omega
theorem Kept.refl (F : List Nat) (w : World) : Kept F w w := ⟨rfl, rfl, rfl, Nat.le_refl _, fun _ _ _ => rfl⟩
theorem Kept.trans {F G : List Nat} {a b c : World} (h : Kept F a b) (k : Kept G b c) (hG : ∀ x ∈ G, x ∈ F ∨ a.heap.size ≤ x) : Kept F a c :=
 ⟨k.os.trans h.os, k.tape.trans h.tape, k.output.trans h.output, Nat.le_trans h.size k.size, fun i hi hF =>
  (k.block i (Nat.lt_of_lt_of_le hi h.size) (fun hm => by exact nor hF hi (hG i hm))).trans (h.block i hi hF)⟩
theorem Kept.mono {F G : List Nat} {a b : World} (h : Kept F a b) (hG : ∀ x ∈ F, x ∈ G ∨ a.heap.size ≤ x) : Kept G a b :=
 ⟨h.os, h.tape, h.output, h.size, fun i hi hF => h.block i hi (fun hm => by exact nor hF hi (hG i hm))⟩
theorem Kept.drew {F : List Nat} {a w : World} (h : Kept F a w) : Kept F a w.drew := ⟨h.os, h.tape, h.output, h.size, h.block⟩
theorem Kept.drewN {F : List Nat} {a w : World} (h : Kept F a w) (n : Nat) : Kept F a (w.drewN n) := ⟨h.os, h.tape, h.output, h.size, h.block⟩
theorem Kept.alloc {F : List Nat} {a w : World} (h : Kept F a w) (o : Obj) : Kept F a (w.alloc o) :=
 ⟨h.os, h.tape, h.output, by have := h.size; simp; omega, fun i hi hF => by rw [Below.heap_alloc _ _ _ (Nat.lt_of_lt_of_le hi h.size)]; exact h.block i hi hF⟩
theorem Kept.setCell {F : List Nat} {a w : World} (h : Kept F a w) {p : Addr} (hp : p.block ∈ F ∨ a.heap.size ≤ p.block) (u : Value) : Kept F a (w.setCell p u) :=
 ⟨h.os, h.tape, h.output, by have := h.size; simpa using this, fun i hi hF => by
  rw [Below.heap_setCell _ _ _ _ (fun e => nor hF hi (by rw [e]; exact hp))]; exact h.block i hi hF⟩
theorem Kept.setRow {F : List Nat} {a w : World} (h : Kept F a w) {g : Nat} (hp : g ∈ F ∨ a.heap.size ≤ g) (cs : Array Value) : Kept F a (w.setRow g cs) :=
 ⟨h.os, h.tape, h.output, by have := h.size; simpa using this, fun i hi hF => by
  have : (w.setRow g cs).heap[i]? = w.heap[i]? := by
   simp only [World.setRow, Array.getElem?_modify]
   rw [if_neg (fun e => nor hF hi (by rw [← e]; exact hp))]
  rw [this]; exact h.block i hi hF⟩
theorem Kept.below {F : List Nat} {B : Nat} {a w : World} (h : Kept F a w) (hB : B ≤ a.heap.size) (hF : ∀ x ∈ F, B ≤ x) : Below B a w :=
 ⟨h.os, h.tape, h.output, h.size, fun i hi => h.block i (by omega) (fun hm => by have := hF i hm; omega)⟩
theorem Kept.cell {F : List Nat} {w w' : World} (h : Kept F w w') {x i : Nat} {v : Value} (ha : w.cell? ⟨x, i, none⟩ = some v) (hF : x ∉ F) : w'.cell? ⟨x, i, none⟩ = some v := by
 rw [World.cell?_of_block (a := ⟨x, i, none⟩) (h.block x (block_lt_of_cell ha) hF)]; exact ha
theorem Kept.grown {F : List Nat} {a w w' : World} {r : Option Nat} (h : Kept F a w) (hg : w.grownBy w' r) (hr : ∀ k, r = some k → k ∈ F ∨ a.heap.size ≤ k) : Kept F a w' :=
 ⟨hg.os.trans h.os, hg.tape.trans h.tape, hg.output.trans h.output, Nat.le_trans h.size hg.size, fun i hi hF => by
  rw [hg.block i (Nat.lt_of_lt_of_le hi h.size) (fun e => nor hF hi (hr i e.symm))]; exact h.block i hi hF⟩
theorem lt_of_heap {w : World} {k : Nat} {o : Obj} (h : w.heap[k]? = some o) : k < w.heap.size := (Array.getElem?_eq_some_iff.1 h).1
theorem num (n : Int) (w : World) : Calls Tryz.prog 17 #[.int .i64 n] w fun e w' => e = .returned (.int .i64 n) ∧ w' = w := by
 go_enter Tryz.func17, Tryz.ntmps17
 go_wp2
 go_ret
 exact ⟨rfl, rfl⟩
end Go.Proofs.YtffncojcnbhblaaGreatDoor
namespace Go.Proofs.YtffncojcnbhblaaGreatDoor
open Go
def at8 (s : ByteArray) (i : Nat) : Nat := (s.get! i).toNat
def goes (s : ByteArray) (i : Nat) : Int := if i < s.size ∧ 128 ≤ at8 s i ∧ at8 s i ≤ 191 then (at8 s i : Int) - 128 else -1
def one (s : ByteArray) (i : Nat) : Int × Nat :=
 let c : Int := at8 s i
 let a := goes s (i + 1)
 let b := goes s (i + 2)
 let d := goes s (i + 3)
 if c < 128 then (c, 1)
 else if 194 ≤ c ∧ c ≤ 223 ∧ 0 ≤ a then ((c - 192) * 64 + a, 2)
 else if 224 ≤ c ∧ c ≤ 239 ∧ 0 ≤ a ∧ 0 ≤ b then
  if 2048 ≤ (c - 224) * 4096 + a * 64 + b ∧ ((c - 224) * 4096 + a * 64 + b < 55296 ∨ 57343 < (c - 224) * 4096 + a * 64 + b) then ((c - 224) * 4096 + a * 64 + b, 3) else (65533, 0)
 else if 240 ≤ c ∧ c ≤ 244 ∧ 0 ≤ a ∧ 0 ≤ b ∧ 0 ≤ d then
  if 65536 ≤ (c - 240) * 262144 + a * 4096 + b * 64 + d ∧ (c - 240) * 262144 + a * 4096 + b * 64 + d ≤ 1114111 then ((c - 240) * 262144 + a * 4096 + b * 64 + d, 4) else (65533, 0)
 else (65533, 0)
theorem at8_lt (s : ByteArray) (i : Nat) : at8 s i < 256 := (s.get! i).toNat_lt
theorem goes_cases (s : ByteArray) (i : Nat) : (goes s i = -1 ∧ (decide (i < s.size) && at8 s i / 64 == 2) = false) ∨ (goes s i = (at8 s i % 64 : Nat) ∧ (decide (i < s.size) && at8 s i / 64 == 2) = true) := by
 unfold goes
 have h := at8_lt s i
 by_cases h1 : i < s.size ∧ 128 ≤ at8 s i ∧ at8 s i ≤ 191
 ·
  right
  rw [if_pos h1]
  refine ⟨by omega, ?_⟩
  simp only [Bool.and_eq_true, decide_eq_true_eq, beq_iff_eq]
  exact ⟨h1.1, by omega⟩
 ·
  left
  rw [if_neg h1]
  refine ⟨rfl, ?_⟩
  rw [← Bool.not_eq_true]
  simp only [Bool.and_eq_true, decide_eq_true_eq, beq_iff_eq]
  omega
theorem valid_of (z : Nat) : Utf8.valid (z : Int) = true ↔ (z < 55296 ∨ (57344 ≤ z ∧ z ≤ 1114111)) := by
 unfold Utf8.valid
 rw [Bool.or_eq_true, Bool.and_eq_true, Bool.and_eq_true, decide_eq_true_eq, decide_eq_true_eq, decide_eq_true_eq, decide_eq_true_eq]
 omega
theorem decode_one (s : ByteArray) (i : Nat) : ((Utf8.decode s i).1 : Int) = (one s i).1 ∧ (Utf8.decode s i).2 = max (one s i).2 1 := by
 have h0 := at8_lt s i
 have h1 := at8_lt s (i + 1)
 have h2 := at8_lt s (i + 2)
 have h3 := at8_lt s (i + 3)
 have c1 := goes_cases s (i + 1)
 have c2 := goes_cases s (i + 2)
 have c3 := goes_cases s (i + 3)
 unfold one Utf8.decode
 simp only [show (s.get! (i + 0)).toNat = at8 s i from rfl, show (s.get! (i + 1)).toNat = at8 s (i + 1) from rfl, show (s.get! (i + 2)).toNat = at8 s (i + 2) from rfl, show (s.get! (i + 3)).toNat = at8 s (i + 3) from rfl]
 generalize at8 s i = c at *
 generalize at8 s (i + 1) = x1 at *
 generalize at8 s (i + 2) = x2 at *
 generalize at8 s (i + 3) = x3 at *
 generalize goes s (i + 1) = a at *
 generalize goes s (i + 2) = b at *
 generalize goes s (i + 3) = d at *
 generalize (decide (i + 1 < s.size) && x1 / 64 == 2) = q1 at *
 generalize (decide (i + 2 < s.size) && x2 / 64 == 2) = q2 at *
 generalize (decide (i + 3 < s.size) && x3 / 64 == 2) = q3 at *
 by_cases r0 : c < 128
 ·
  rw [if_pos r0, if_pos (by omega : (c : Int) < 128)]
  exact ⟨rfl, rfl⟩
 rw [if_neg r0, if_neg (by omega : ¬ (c : Int) < 128)]
 by_cases r1 : c / 32 = 6
 ·
  have e1 : (c / 32 == 6) = true := by simpa using r1
  have e2 : (c / 16 == 14) = false := by simp; omega
  have e3 : (c / 8 == 30) = false := by simp; omega
  simp only [e1, e2, e3, Bool.true_and, Bool.false_and, Bool.false_eq_true, if_false]
  rcases c1 with ⟨rfl, rfl⟩ | ⟨rfl, rfl⟩
  ·
   simp only [Bool.false_eq_true, if_false]
   rw [if_neg (by omega), if_neg (by omega), if_neg (by omega)]
   exact ⟨rfl, rfl⟩
  ·
   simp only [if_true]
   by_cases r2 : 194 ≤ c
   ·
    rw [if_pos (by omega), if_pos (by omega)]
    exact ⟨by simp only []; omega, rfl⟩
   ·
    rw [if_neg (by omega), if_neg (by omega), if_neg (by omega), if_neg (by omega)]
    exact ⟨rfl, rfl⟩
 have e1 : (c / 32 == 6) = false := by simpa using r1
 rw [if_neg (by omega : ¬ (194 ≤ (c : Int) ∧ (c : Int) ≤ 223 ∧ 0 ≤ a))]
 by_cases r2 : c / 16 = 14
 ·
  have e2 : (c / 16 == 14) = true := by simpa using r2
  have e3 : (c / 8 == 30) = false := by simp; omega
  simp only [e1, e2, e3, Bool.true_and, Bool.false_and, Bool.false_eq_true, if_false]
  rcases c1 with ⟨rfl, rfl⟩ | ⟨rfl, rfl⟩
  ·
   simp only [Bool.false_and, Bool.false_eq_true, if_false]
   rw [if_neg (by omega), if_neg (by omega)]
   exact ⟨rfl, rfl⟩
  rcases c2 with ⟨rfl, rfl⟩ | ⟨rfl, rfl⟩
  ·
   simp only [Bool.and_false, Bool.false_eq_true, if_false]
   rw [if_neg (by omega), if_neg (by omega)]
   exact ⟨rfl, rfl⟩
  simp only [Bool.and_true, if_true]
  rw [if_pos (by omega : 224 ≤ (c : Int) ∧ (c : Int) ≤ 239 ∧ 0 ≤ ((x1 % 64 : Nat) : Int) ∧ 0 ≤ ((x2 % 64 : Nat) : Int))]
  have eq : ((c : Int) - 224) * 4096 + ((x1 % 64 : Nat) : Int) * 64 + ((x2 % 64 : Nat) : Int) = ((c % 16 * 4096 + x1 % 64 * 64 + x2 % 64 : Nat) : Int) := by omega
  rw [eq]
  generalize c % 16 * 4096 + x1 % 64 * 64 + x2 % 64 = z at *
  by_cases r3 : 2048 ≤ (z : Int) ∧ ((z : Int) < 55296 ∨ 57343 < (z : Int))
  ·
   have : (decide (z ≥ 2048) && Utf8.valid (z : Int)) = true := by
    rw [Bool.and_eq_true, decide_eq_true_eq, valid_of]; omega
   rw [if_pos r3, if_pos this]
   exact ⟨rfl, rfl⟩
  ·
   have : ¬ (decide (z ≥ 2048) && Utf8.valid (z : Int)) = true := by
    rw [Bool.and_eq_true, decide_eq_true_eq, valid_of]; omega
   rw [if_neg r3, if_neg this]
   exact ⟨rfl, rfl⟩
 have e2 : (c / 16 == 14) = false := by simpa using r2
 rw [if_neg (by omega : ¬ (224 ≤ (c : Int) ∧ (c : Int) ≤ 239 ∧ 0 ≤ a ∧ 0 ≤ b))]
 by_cases r3 : c / 8 = 30
 ·
  have e3 : (c / 8 == 30) = true := by simpa using r3
  simp only [e1, e2, e3, Bool.true_and, Bool.false_and, Bool.false_eq_true, if_false]
  rcases c1 with ⟨rfl, rfl⟩ | ⟨rfl, rfl⟩
  ·
   simp only [Bool.false_and, Bool.false_eq_true, if_false]
   rw [if_neg (by omega)]
   exact ⟨rfl, rfl⟩
  rcases c2 with ⟨rfl, rfl⟩ | ⟨rfl, rfl⟩
  ·
   simp only [Bool.and_false, Bool.false_and, Bool.false_eq_true, if_false]
   rw [if_neg (by omega)]
   exact ⟨rfl, rfl⟩
  rcases c3 with ⟨rfl, rfl⟩ | ⟨rfl, rfl⟩
  ·
   simp only [Bool.and_false, Bool.false_eq_true, if_false]
   rw [if_neg (by omega)]
   exact ⟨rfl, rfl⟩
  simp only [Bool.and_true, if_true]
  have eq : ((c : Int) - 240) * 262144 + ((x1 % 64 : Nat) : Int) * 4096 + ((x2 % 64 : Nat) : Int) * 64 + ((x3 % 64 : Nat) : Int) = ((c % 8 * 262144 + x1 % 64 * 4096 + x2 % 64 * 64 + x3 % 64 : Nat) : Int) := by omega
  rw [eq]
  have hz : ¬ c ≤ 244 → 1114111 < c % 8 * 262144 + x1 % 64 * 4096 + x2 % 64 * 64 + x3 % 64 := by omega
  generalize c % 8 * 262144 + x1 % 64 * 4096 + x2 % 64 * 64 + x3 % 64 = z at *
  by_cases r4 : 65536 ≤ (z : Int) ∧ (z : Int) ≤ 1114111
  ·
   have : (decide (z ≥ 65536) && Utf8.valid (z : Int)) = true := by
    rw [Bool.and_eq_true, decide_eq_true_eq, valid_of]; omega
   rw [if_pos this, if_pos (by omega), if_pos r4]
   exact ⟨rfl, rfl⟩
  ·
   have : ¬ (decide (z ≥ 65536) && Utf8.valid (z : Int)) = true := by
    rw [Bool.and_eq_true, decide_eq_true_eq, valid_of]; omega
   rw [if_neg this]
   split
   · exact ⟨rfl, rfl⟩
   · exact ⟨rfl, rfl⟩
 have e3 : (c / 8 == 30) = false := by simpa using r3
 simp only [e1, e2, e3, Bool.false_and, Bool.false_eq_true, if_false]
 rw [if_neg (by omega)]
 exact ⟨rfl, rfl⟩
theorem one_width (s : ByteArray) (i : Nat) (h : i < s.size) : (one s i).2 ≤ 4 ∧ i + (one s i).2 ≤ s.size ∧ 0 ≤ (one s i).1 ∧ (one s i).1 ≤ 1114111 ∧ ((one s i).2 = 0 → (one s i).1 = 65533) := by
 have h0 := at8_lt s i
 have g : ∀ k, 0 ≤ goes s k → k < s.size := fun k hk => by
  unfold goes at hk
  split at hk
  · rename_i h1; exact h1.1
  · omega
 have g2 : ∀ k, goes s k ≤ 63 := fun k => by
  unfold goes
  split
  · omega
  · omega
 have k1 := g (i + 1)
 have k2 := g (i + 2)
 have k3 := g (i + 3)
 have l1 := g2 (i + 1)
 have l2 := g2 (i + 2)
 have l3 := g2 (i + 3)
 unfold one
 simp only []
 generalize at8 s i = c at *
 generalize goes s (i + 1) = a at *
 generalize goes s (i + 2) = b at *
 generalize goes s (i + 3) = d at *
 split
 · exact ⟨by simp only []; omega, by simp only []; omega, by simp only []; omega, by simp only []; omega, by simp only []; omega⟩
 split
 · exact ⟨by simp only []; omega, by simp only []; omega, by simp only []; omega, by simp only []; omega, by simp only []; omega⟩
 split
 ·
  split
  · exact ⟨by simp only []; omega, by simp only []; omega, by simp only []; omega, by simp only []; omega, by simp only []; omega⟩
  · exact ⟨by simp only []; omega, by simp only []; omega, by simp only []; omega, by simp only []; omega, fun _ => rfl⟩
 split
 ·
  split
  · exact ⟨by simp only []; omega, by simp only []; omega, by simp only []; omega, by simp only []; omega, by simp only []; omega⟩
  · exact ⟨by simp only []; omega, by simp only []; omega, by simp only []; omega, by simp only []; omega, fun _ => rfl⟩
 · exact ⟨by simp only []; omega, by simp only []; omega, by simp only []; omega, by simp only []; omega, fun _ => rfl⟩
theorem step_pos (s : ByteArray) (i : Nat) : 1 ≤ max (one s i).2 1 := Nat.le_max_right ..
def rs (s : ByteArray) (i : Nat) : List (Int × Nat) := if h : i < s.size then one s i :: rs s (i + max (one s i).2 1) else []
termination_by s.size - i
decreasing_by have := step_pos s i; omega
theorem rs_end {s : ByteArray} {i : Nat} (h : ¬ i < s.size) : rs s i = [] := by rw [rs, dif_neg h]
theorem rs_next {s : ByteArray} {i : Nat} (h : i < s.size) : rs s i = one s i :: rs s (i + max (one s i).2 1) := by rw [rs, dif_pos h]
theorem get_data (s : ByteArray) (i : Nat) : s.get! i = (s.data[i]?).getD 0 := by
 cases s
 rename_i bs
 show bs[i]! = _
 simp [getElem!_def]
 cases bs[i]? <;> rfl
theorem at8_left {a t : ByteArray} {i : Nat} (h : i < a.size) : at8 (a ++ t) i = at8 a i := by
 unfold at8
 have h1 : i < a.data.size := h
 rw [get_data, get_data, ByteArray.data_append, Array.getElem?_append_left h1]
theorem at8_right (a t : ByteArray) (i : Nat) : at8 (a ++ t) (a.size + i) = at8 t i := by
 unfold at8
 have h1 : a.data.size ≤ a.size + i := by show a.size ≤ _; omega
 rw [get_data, get_data, ByteArray.data_append, Array.getElem?_append_right h1]
 congr 4
 show a.size + i - a.size = i
 omega
theorem goes_right (a t : ByteArray) (i : Nat) : goes (a ++ t) (a.size + i) = goes t i := by
 unfold goes
 rw [at8_right, ByteArray.size_append]
 have : (a.size + i < a.size + t.size) = (i < t.size) := by simp
 simp only [this]
theorem one_right (a t : ByteArray) (i : Nat) : one (a ++ t) (a.size + i) = one t i := by
 unfold one
 rw [at8_right, Nat.add_assoc, Nat.add_assoc, Nat.add_assoc, goes_right, goes_right, goes_right]
end Go.Proofs.YtffncojcnbhblaaGreatDoor
namespace Go.Proofs.YtffncojcnbhblaaGreatDoor
open Go.RowKit
theorem ret_int {k : IntKind} {x y : Int} (h : x = y) : Ending.returned (.int k x) = .returned (.int k y) := by rw [h]
theorem at8_get (s : ByteArray) (i : Nat) (h : i < s.size) : at8 s i = (s[i]'h).toNat := by
 unfold at8
 exact congrArg UInt8.toNat (get_at s i h)
theorem f_next (s : ByteArray) (i : Nat) (x : Int) (hx : x = (i : Int)) (w : World) :
  Calls Tryz.prog 39 #[.string s, .int .i64 x] w fun e w' => e = .returned (.int .i64 (goes s i)) ∧ w' = w := by
 subst hx
 by_cases h : i < s.size
 ·
  have i0 : (0 : Int) ≤ (i : Int) := by omega
  have i1 : (i : Int) < (s.size : Int) := by omega
  have i2 : ¬ (s.size : Int) ≤ (i : Int) := by omega
  go_enter Tryz.func39, Tryz.ntmps39
  go_wp2_with fail
  all_goals
   go_ret
   refine ⟨ret_int ?_, rfl⟩
   unfold goes
   rw [at8_get s i h]
   first
    | (rw [if_pos (by omega)]; done)
    | (rw [if_neg (by omega)]; done)
 ·
  have i2 : (s.size : Int) ≤ (i : Int) := by omega
  go_enter Tryz.func39, Tryz.ntmps39
  go_wp2_with fail
  go_ret
  refine ⟨ret_int ?_, rfl⟩
  unfold goes
  rw [if_neg (by omega)]
def oneOf (c a b d : Int) : Int × Nat :=
 if c < 128 then (c, 1)
 else if 194 ≤ c ∧ c ≤ 223 ∧ 0 ≤ a then ((c - 192) * 64 + a, 2)
 else if 224 ≤ c ∧ c ≤ 239 ∧ 0 ≤ a ∧ 0 ≤ b then
  if 2048 ≤ (c - 224) * 4096 + a * 64 + b ∧ ((c - 224) * 4096 + a * 64 + b < 55296 ∨ 57343 < (c - 224) * 4096 + a * 64 + b) then ((c - 224) * 4096 + a * 64 + b, 3) else (65533, 0)
 else if 240 ≤ c ∧ c ≤ 244 ∧ 0 ≤ a ∧ 0 ≤ b ∧ 0 ≤ d then
  if 65536 ≤ (c - 240) * 262144 + a * 4096 + b * 64 + d ∧ (c - 240) * 262144 + a * 4096 + b * 64 + d ≤ 1114111 then ((c - 240) * 262144 + a * 4096 + b * 64 + d, 4) else (65533, 0)
 else (65533, 0)
theorem one_of (s : ByteArray) (i : Nat) : one s i = oneOf (at8 s i) (goes s (i + 1)) (goes s (i + 2)) (goes s (i + 3)) := rfl
theorem goes_bounds (s : ByteArray) (i : Nat) : -1 ≤ goes s i ∧ goes s i ≤ 63 := by
 unfold goes
 split <;> omega
theorem f_rune1 (s : ByteArray) (i : Nat) (w : World) (h : i < s.size) (hs : s.size ≤ 9223372036854775000) :
  Calls Tryz.prog 24 #[.string s, .int .i64 (i : Int)] w fun e w' => e = .returned (.tuple #[.int .i64 (one s i).1, .int .i64 ((one s i).2 : Int)]) ∧ w' = w := by
 have i0 : (0 : Int) ≤ (i : Int) := by omega
 have i1 : (i : Int) < (s.size : Int) := by omega
 have hc := at8_get s i h
 have hc2 := at8_lt s i
 rw [one_of]
 have g1 := goes_bounds s (i + 1)
 have g2 := goes_bounds s (i + 2)
 have g3 := goes_bounds s (i + 3)
 obtain ⟨a, ha⟩ : ∃ a, goes s (i + 1) = a := ⟨_, rfl⟩
 obtain ⟨b, hb⟩ : ∃ b, goes s (i + 2) = b := ⟨_, rfl⟩
 obtain ⟨d, hd⟩ : ∃ d, goes s (i + 3) = d := ⟨_, rfl⟩
 obtain ⟨c, hcc⟩ : ∃ c : Nat, (s[i]'h).toNat = c := ⟨_, rfl⟩
 rw [ha, hb, hd, hc, hcc]
 rw [ha] at g1
 rw [hb] at g2
 rw [hd] at g3
 rw [hc, hcc] at hc2
 obtain ⟨g1, g1'⟩ := g1
 obtain ⟨g2, g2'⟩ := g2
 obtain ⟨g3, g3'⟩ := g3
 have HH : Hid (_ ∧ _ ∧ _ ∧ _) := ⟨ha, hb, hd, hcc⟩
 clear ha hb hd hc
 go_enter Tryz.func24, Tryz.ntmps24
 go_wp2_with fail
 refine (f_next s (i + 1) _ (by omega) w).mono ?_
 rintro e w1 ⟨rfl, rfl⟩
 rw [HH.out.1]
 go_wp2_with fail
 refine (f_next s (i + 2) _ (by omega) w1).mono ?_
 rintro e w2 ⟨rfl, rfl⟩
 rw [HH.out.2.1]
 go_wp2_with fail
 refine (f_next s (i + 3) _ (by omega) w2).mono ?_
 rintro e w1 ⟨rfl, rfl⟩
 rw [HH.out.2.2.1]
 go_wp2_with fail
 all_goals
  go_ret2
  unfold oneOf
  (repeat (first | rw [if_pos (by omega)] | rw [if_neg (by omega)]))
  exact ⟨rfl, rfl⟩
def hashL (l : List (Int × Nat)) (h : Int) : Int := l.foldl (fun h r => (31 * h + r.1) % 4294967296) h
def badR (x : Int × Nat) : Bool := x.2 == 0 || x.1 == 47 || decide (x.1 < 32) || x.1 == 127
def chk (s : ByteArray) : Int := if 12 < s.size then 801 else if s.toList = [] ∨ s.toList = [46] ∨ s.toList = [46, 46] then 800 else if (rs s 0).any badR then 800 else 0
theorem max1 (k : Nat) (W : World) : (Builtin.max_ #[3, 3] 3 #[.int .i64 (k : Int), .int .i64 1]).run Tryz.prog W = .ok (.int .i64 ((max k 1 : Nat) : Int)) W := by
 have e : (if (k : Int) < 1 then (1 : Int) else (k : Int)) = ((max k 1 : Nat) : Int) := by
  rw [Nat.max_def]; split <;> split <;> omega
 simp [Builtin.max_, Builtin.max2]
 exact e
theorem step_le {s : ByteArray} {i : Nat} (h : i < s.size) : i + max (one s i).2 1 ≤ s.size := by
 have := one_width s i h
 rw [Nat.max_def]; split <;> omega
theorem hashL_range (l : List (Int × Nat)) : ∀ h, 0 ≤ h ∧ h < 4294967296 → 0 ≤ hashL l h ∧ hashL l h < 4294967296 := by
 induction l with
 | nil => intro h hh; exact hh
 | cons x l ih => intro h hh; have := ih ((31 * h + x.1) % 4294967296) ⟨by omega, by omega⟩; exact this
theorem bad_yes {s : ByteArray} {j : Nat} (h : j < s.size) (hb : badR (one s j) = true) : (rs s j).any badR = true := by
 rw [rs_next h, List.any_cons, hb]; rfl
theorem bad_no {s : ByteArray} {j : Nat} (h : j < s.size) (hb : badR (one s j) = false) : (rs s (j + (one s j).2)).any badR = (rs s j).any badR ∧ 1 ≤ (one s j).2 := by
 have h1 : 1 ≤ (one s j).2 := by
  rcases Nat.eq_zero_or_pos (one s j).2 with h2 | h2
  · simp [badR, h2] at hb
  · exact h2
 refine ⟨?_, h1⟩
 rw [rs_next h, List.any_cons, hb, Nat.max_eq_left h1]; rfl
theorem f_check (s : ByteArray) (w : World) (hs : s.size ≤ 9223372036854775000) :
  Calls Tryz.prog 10 #[.string s] w fun e w' => e = .returned (.int .i64 (chk s)) ∧ w' = w := by
 obtain ⟨z, hz⟩ : ∃ z, chk s = z := ⟨_, rfl⟩
 rw [hz]
 by_cases hl : 12 < s.size
 ·
  have i0 : (12 : Int) < (s.size : Int) := by omega
  have HZ : Hid (801 = z) := by show 801 = z; rw [← hz]; unfold chk; rw [if_pos hl]
  clear hz
  go_enter Tryz.func10, Tryz.ntmps10
  go_wp2_with fail
  go_ret
  exact ⟨ret_int HZ.out, rfl⟩
 have i0 : ¬ (12 : Int) < (s.size : Int) := by omega
 by_cases he : s.toList = [] ∨ s.toList = [46] ∨ s.toList = [46, 46]
 ·
  have HZ : Hid (800 = z) := by show 800 = z; rw [← hz]; unfold chk; rw [if_neg hl, if_pos he]
  clear hz
  rcases he with he | he | he
  ·
   have t1 : s.toList.isEmpty = true := by rw [he]; rfl
   go_enter Tryz.func10, Tryz.ntmps10
   go_wp2_with fail
   go_ret
   exact ⟨ret_int HZ.out, rfl⟩
  ·
   have t1 : s.toList.isEmpty = false := by rw [he]; rfl
   have t2 : (s.toList == [46]) = true := by rw [he]; rfl
   go_enter Tryz.func10, Tryz.ntmps10
   go_wp2_with fail
   go_ret
   exact ⟨ret_int HZ.out, rfl⟩
  ·
   have t1 : s.toList.isEmpty = false := by rw [he]; rfl
   have t2 : (s.toList == [46]) = false := by rw [he]; rfl
   have t3 : (s.toList == [46, 46]) = true := by rw [he]; rfl
   go_enter Tryz.func10, Tryz.ntmps10
   go_wp2_with fail
   go_ret
   exact ⟨ret_int HZ.out, rfl⟩
 have HZ : Hid ((if (rs s 0).any badR then 800 else 0) = z) := by show _ = z; rw [← hz]; unfold chk; rw [if_neg hl, if_neg he]
 clear hz
 have n1 : ¬ s.toList = [] := fun h => he (Or.inl h)
 have n2 : ¬ s.toList = [46] := fun h => he (Or.inr (Or.inl h))
 have n3 : ¬ s.toList = [46, 46] := fun h => he (Or.inr (Or.inr h))
 have t1 : s.toList.isEmpty = false := by rw [← Bool.not_eq_true, List.isEmpty_iff]; exact n1
 have t2 : (s.toList == [46]) = false := by simpa using n2
 have t3 : (s.toList == [46, 46]) = false := by simpa using n3
 clear he
 go_enter Tryz.func10, Tryz.ntmps10
 go_wp2_with fail
 go_loopw [3] (fun i wr => ∃ (j : Nat), i = .int .i64 (j : Int) ∧ j ≤ s.size ∧ Hid (wr = w ∧ (rs s j).any badR = (rs s 0).any badR)) (fun i _ => (s.size - intOf i).toNat)
 case atStart => exact ⟨0, rfl, by omega, rfl, rfl⟩
 case round =>
  obtain ⟨j, rfl, hj, HJ⟩ := hrel
  obtain ⟨hw, hh⟩ := HJ.out
  subst hw
  have HH : Hid (_) := hh
  clear hh HJ
  by_cases hlt : j < s.size
  ·
   have i1 : (j : Int) < (s.size : Int) := by omega
   have hw := one_width s j hlt
   go_wp2_with fail
   refine (f_rune1 s j wr hlt hs).mono ?_
   rintro e w1 ⟨rfl, rfl⟩
   by_cases hb : badR (one s j) = true
   ·
    have HE : Hid (800 = z) := by
     show 800 = z
     have h1 := bad_yes hlt hb
     rw [HH.out] at h1
     rw [← HZ.out, h1]; rfl
    clear HH HZ hw
    unfold badR at hb
    generalize (one s j).1 = r at *
    generalize (one s j).2 = k at *
    simp only [Bool.or_eq_true, beq_iff_eq, decide_eq_true_eq] at hb
    by_cases b0 : k = 0
    ·
     subst b0
     clear hb
     go_wp2_with fail
     go_ret
     exact ⟨ret_int HE.out, rfl⟩
    have c0 : ((k : Int) == 0) = false := by simp; omega
    by_cases b1 : r = 47
    ·
     subst b1
     clear hb
     go_wp2_with fail
     go_ret
     exact ⟨ret_int HE.out, rfl⟩
    have c1 : (r == 47) = false := by simpa using b1
    by_cases b2 : r < 32
    ·
     clear hb b1
     go_wp2_with fail
     go_ret
     exact ⟨ret_int HE.out, rfl⟩
    have b3 : r = 127 := by omega
    subst b3
    clear hb b1 c1 b2
    go_wp2_with fail
    go_ret
    exact ⟨ret_int HE.out, rfl⟩
   ·
    have hb2 : badR (one s j) = false := by simpa using hb
    obtain ⟨h1, h2⟩ := bad_no hlt hb2
    have HN : Hid ((rs s (j + (one s j).2)).any badR = (rs s 0).any badR) := h1.trans HH.out
    clear HH h1 hb2
    unfold badR at hb
    obtain ⟨-, hw2, -⟩ := hw
    generalize (one s j).1 = r at *
    generalize (one s j).2 = k at *
    simp only [Bool.or_eq_true, beq_iff_eq, decide_eq_true_eq] at hb
    have c0 : ((k : Int) == 0) = false := by simp; omega
    have c1 : (r == 47) = false := by simp; omega
    have c2 : ¬ r < 32 := by omega
    have c3 : (r == 127) = false := by simp; omega
    have c4 : decide (r < 32) = false := by simp; omega
    clear hb
    go_wp2_with fail
    go_roundw
    case rel => exact ⟨j + k, by go_num, hw2, trivial, HN.out⟩
    case measure => simp [intOf]; omega
  ·
   have i1 : ¬ (j : Int) < (s.size : Int) := by omega
   have HE : Hid (0 = z) := by
    have := HH.out
    rw [rs_end hlt] at this
    show 0 = z
    rw [← HZ.out, ← this]; rfl
   clear HH HZ
   go_wp2_with fail
   go_ret
   exact ⟨ret_int HE.out, rfl⟩
end Go.Proofs.YtffncojcnbhblaaGreatDoor
