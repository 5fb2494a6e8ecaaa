/-
  What a journal's words say; what a Write leaves, wherever the power goes. Plain.
-/
import Derived.Test.YtpaefllhngbimaaJo
import Derived.Test.YtpaefllhngbimaaSa
namespace Go.Proofs.Ytpaefllhngbimaa
set_option linter.unusedVariables false
set_option maxRecDepth 10000

/-- Byte i of a text (0 behind its end). -/
def byteOf (s : ByteArray) (i : Nat) : Int := if h : i < s.size then ((s[i]'h).toNat : Int) else 0

theorem byteOf_range (s : ByteArray) (i : Nat) : 0 ≤ byteOf s i ∧ byteOf s i < 256 := by
  unfold byteOf
  split
  · have := (s[i]).toNat_lt; omega
  · omega

/-- Eight bytes as a word, the first lowest. -/
def word8 (f : Nat → Int) : Int := f 0 + 256 * (f 1 + 256 * (f 2 + 256 * (f 3 + 256 * (f 4 + 256 * (f 5 + 256 * (f 6 + 256 * f 7))))))

/-- The word i of a text. -/
def wordOf (s : ByteArray) (i : Nat) : Int := word8 fun j => byteOf s (8 * i + j)

def nWords (s : ByteArray) : Nat := (s.size + 7) / 8

/-- Byte i of words from at on. -/
def byteAt (X : List Int) (at_ i : Nat) : Int := wordAt X (at_ + i / 8) / 256 ^ (i % 8) % 256

def textAt (X : List Int) (at_ n : Nat) : ByteArray := strOfNums ((List.range n).map (byteAt X at_))

theorem word8_range (f : Nat → Int) (h : ∀ j, 0 ≤ f j ∧ f j < 256) : 0 ≤ word8 f ∧ word8 f < 18446744073709551616 := by
  unfold word8
  have := h 0; have := h 1; have := h 2; have := h 3; have := h 4; have := h 5; have := h 6; have := h 7
  omega

theorem word8_byte (f : Nat → Int) (h : ∀ j, 0 ≤ f j ∧ f j < 256) (j : Nat) (hj : j < 8) : word8 f / 256 ^ j % 256 = f j := by
  unfold word8
  have := h 0; have := h 1; have := h 2; have := h 3; have := h 4; have := h 5; have := h 6; have := h 7
  rcases (show j = 0 ∨ j = 1 ∨ j = 2 ∨ j = 3 ∨ j = 4 ∨ j = 5 ∨ j = 6 ∨ j = 7 from by omega) with rfl | rfl | rfl | rfl | rfl | rfl | rfl | rfl
  · rw [show (256 : Int) ^ 0 = 1 from rfl]; omega
  · rw [show (256 : Int) ^ 1 = 256 from rfl]; omega
  · rw [show (256 : Int) ^ 2 = 65536 from rfl]; omega
  · rw [show (256 : Int) ^ 3 = 16777216 from rfl]; omega
  · rw [show (256 : Int) ^ 4 = 4294967296 from rfl]; omega
  · rw [show (256 : Int) ^ 5 = 1099511627776 from rfl]; omega
  · rw [show (256 : Int) ^ 6 = 281474976710656 from rfl]; omega
  · rw [show (256 : Int) ^ 7 = 72057594037927936 from rfl]; omega

theorem textAt_of {X : List Int} {at_ : Nat} {s : ByteArray} (h : ∀ i, i < nWords s → wordAt X (at_ + i) = wordOf s i) : textAt X at_ s.size = s := by
  have hb : ∀ i, i < s.size → byteAt X at_ i = byteOf s i := by
    intro i hi
    unfold byteAt
    rw [h (i / 8) (by unfold nWords; omega)]
    unfold wordOf
    rw [word8_byte _ (fun j => byteOf_range _ _) _ (by omega)]
    rw [show 8 * (i / 8) + i % 8 = i from by omega]
  apply ByteArray.ext
  apply Array.ext'
  unfold textAt
  rw [strOfNums_data]
  apply List.ext_getElem
  · rw [List.length_map, List.length_map, List.length_range]; rfl
  · intro i h1 h2
    have hi : i < s.size := by rw [List.length_map, List.length_map, List.length_range] at h1; exact h1
    simp only [List.map_map, List.getElem_map, List.getElem_range, Function.comp]
    rw [hb i hi]
    unfold byteOf
    rw [dif_pos hi]
    apply UInt8.toNat_inj.1
    simp
    rfl

/-- The head's word for an area. -/
def sealW (n a : Nat) : Int := 13889271118140669952 + (2 * n + a : Nat)

def headOf (X : List Int) (f n : Nat) : Option Nat := if wordAt X f = sealW n 0 then some 0 else if wordAt X f = sealW n 1 then some 1 else none

def areaOf (f n a : Nat) : Nat := f + 8 + a * ((n - 8) / 2 / 8) * 8

def roomOf (n : Nat) : Nat := min (2 * n - 64) 65536

def lookOf (X : List Int) (f n : Nat) : Option ByteArray :=
  match headOf X f n with
  | none => none
  | some a =>
    if wordAt X (areaOf f n a) ≤ (roomOf n : Int) ∧ ((sumS (textAt X (areaOf f n a + 2) (wordAt X (areaOf f n a)).toNat)).toNat : Int) = wordAt X (areaOf f n a + 1) then
      some (textAt X (areaOf f n a + 2) (wordAt X (areaOf f n a)).toNat)
    else none

/-- The area that is written to next. -/
def nextOf (X : List Int) (f n : Nat) : Nat := match headOf X f n with | some a => (a + 1) % 2 | none => 0

/-- The stores of a text. -/
def fillSts (at_ : Nat) (s : ByteArray) : List Op := [.st at_ s.size, .st (at_ + 1) (sumS s).toNat] ++ (List.range (nWords s)).map fun i => .st (at_ + (2 + i)) (wordOf s i)

def fillOps (at_ : Nat) (s : ByteArray) : List Op := fillSts at_ s ++ flOps at_ (2 + nWords s)

def replOps (X : List Int) (f n : Nat) (s : ByteArray) : List Op :=
  (fillOps (areaOf f n (nextOf X f n)) s ++ [.fe]) ++ ([.st f (sealW n (nextOf X f n))] ++ flOps f 1 ++ [.fe])

structure Fits (X : List Int) (f n : Nat) : Prop where
  mul : f % 8 = 0
  lo : 64 ≤ n
  hi : f + n ≤ X.length
  top : X.length ≤ 65536
  len8 : X.length % 8 = 0

theorem head_next {X : List Int} {f n : Nat} : nextOf X f n < 2 := by unfold nextOf; split <;> omega

theorem head_lt {X : List Int} {f n a : Nat} (h : headOf X f n = some a) : a < 2 := by
  unfold headOf at h
  split at h
  · cases h; omega
  · split at h
    · cases h; omega
    · cases h

theorem next_ne {X : List Int} {f n a : Nat} (h : headOf X f n = some a) : nextOf X f n ≠ a ∧ a < 2 := by
  have := head_lt h
  unfold nextOf; rw [h]; dsimp only; omega

theorem fill_sts {at_ : Nat} {s : ByteArray} : Sts at_ (2 + nWords s) (fillSts at_ s) := by
  intro o ho
  simp only [fillSts, List.mem_append, List.mem_cons, List.mem_map, List.mem_range, List.not_mem_nil, or_false] at ho
  rcases ho with (rfl | rfl) | ⟨i, hi, rfl⟩
  · exact ⟨_, _, rfl, by omega, by omega⟩
  · exact ⟨_, _, rfl, by omega, by omega⟩
  · exact ⟨_, _, rfl, by omega, by omega⟩

/-- The words of an area that a text is written to. -/
theorem fill_words {X : List Int} {at_ : Nat} {s : ByteArray} (hl : at_ + (2 + nWords s) ≤ X.length) :
    wordAt (seenBy X (fillSts at_ s)) at_ = s.size ∧ wordAt (seenBy X (fillSts at_ s)) (at_ + 1) = (sumS s).toNat ∧ ∀ i, i < nWords s → wordAt (seenBy X (fillSts at_ s)) (at_ + 2 + i) = wordOf s i := by
  have key : ∀ m, m ≤ nWords s → ∀ Y : List Int, Y.length = X.length → ∀ k, wordAt (seenBy Y ((List.range m).map fun i => Op.st (at_ + (2 + i)) (wordOf s i))) k = if at_ + 2 ≤ k ∧ k < at_ + 2 + m then wordOf s (k - (at_ + 2)) else wordAt Y k := by
    intro m
    induction m with
    | zero => intro _ Y _ k; rw [if_neg (by omega)]; rfl
    | succ m ih =>
      intro hm Y hY k
      rw [List.range_succ, List.map_append, seenBy_append]
      simp only [List.map_cons, List.map_nil, seenBy]
      rw [wordAt_set _ _ _ _ (by rw [seenBy_length, hY]; omega), ih (by omega) Y hY k]
      by_cases e : k = at_ + (2 + m)
      · subst e
        rw [if_pos rfl, if_pos (by omega), show at_ + (2 + m) - (at_ + 2) = m from by omega]
      · rw [if_neg e]
        by_cases e2 : at_ + 2 ≤ k ∧ k < at_ + 2 + m
        · rw [if_pos e2, if_pos (by omega)]
        · rw [if_neg e2, if_neg (by omega)]
  unfold fillSts
  rw [seenBy_append]
  simp only [seenBy]
  have hY : ((X.set at_ (s.size : Int)).set (at_ + 1) ((sumS s).toNat : Int)).length = X.length := by simp
  refine ⟨?_, ?_, ?_⟩
  · rw [key _ (Nat.le_refl _) _ hY, if_neg (by omega), wordAt_set _ _ _ _ (by simp; omega), if_neg (by omega), wordAt_set _ _ _ _ (by omega), if_pos rfl]
  · rw [key _ (Nat.le_refl _) _ hY, if_neg (by omega), wordAt_set _ _ _ _ (by simp; omega), if_pos rfl]
  · intro i hi
    rw [key _ (Nat.le_refl _) _ hY, if_pos (by omega), show at_ + 2 + i - (at_ + 2) = i from by omega]

theorem area_fits {X : List Int} {f n a : Nat} (h : Fits X f n) (ha : a < 2) {s : ByteArray} (hs : s.size ≤ roomOf n) :
    (areaOf f n a) % 8 = 0 ∧ f + 8 ≤ areaOf f n a ∧ areaOf f n a + (2 + nWords s) ≤ areaOf f n a + ((n - 8) / 2 / 8) * 8 ∧ areaOf f n a + ((n - 8) / 2 / 8) * 8 ≤ f + n := by
  have h1 := h.mul; have h2 := h.lo
  unfold areaOf nWords
  unfold roomOf at hs
  rcases (show a = 0 ∨ a = 1 from by omega) with rfl | rfl <;> omega

/-- What is seen behind a Write. -/
def Zof (X : List Int) (f n : Nat) (s : ByteArray) : List Int := (seenBy X (fillSts (areaOf f n (nextOf X f n)) s)).set f (sealW n (nextOf X f n))

theorem seenBy_flOps (at_ cnt : Nat) (X : List Int) : seenBy X (flOps at_ cnt) = X := by
  unfold flOps
  generalize (at_ + cnt + 7) / 8 - at_ / 8 = m
  induction m with
  | zero => rfl
  | succ m ih => rw [List.range_succ, List.map_append, seenBy_append, ih]; rfl

theorem repl_seen (X : List Int) (f n : Nat) (s : ByteArray) : seenBy X (replOps X f n s) = Zof X f n s := by
  unfold replOps fillOps Zof
  simp only [seenBy_append, seenBy_flOps, seenBy]

theorem seal_ne (n : Nat) : sealW n 0 ≠ sealW n 1 := by unfold sealW; omega

theorem look_new {X : List Int} {f n : Nat} (h : Fits X f n) {s : ByteArray} (hs : s.size ≤ roomOf n) : lookOf (Zof X f n s) f n = some s := by
  have ha := head_next (X := X) (f := f) (n := n)
  obtain ⟨h1, h2, h3, h4⟩ := area_fits h ha hs
  have hi := h.hi
  have hlo := h.lo
  obtain ⟨w1, w2, w3⟩ := fill_words (X := X) (at_ := areaOf f n (nextOf X f n)) (s := s) (by omega)
  have hlen : f < (seenBy X (fillSts (areaOf f n (nextOf X f n)) s)).length := by rw [seenBy_length]; omega
  have hZ : ∀ k, wordAt (Zof X f n s) k = if k = f then sealW n (nextOf X f n) else wordAt (seenBy X (fillSts (areaOf f n (nextOf X f n)) s)) k := fun k => by
    unfold Zof; rw [wordAt_set _ _ _ _ hlen]
  have hh : headOf (Zof X f n s) f n = some (nextOf X f n) := by
    unfold headOf
    rw [hZ f, if_pos rfl]
    rcases (show nextOf X f n = 0 ∨ nextOf X f n = 1 from by omega) with e | e
    · rw [e, if_pos rfl]
    · rw [e, if_neg (fun e2 => seal_ne n e2.symm), if_pos rfl]
  unfold lookOf
  rw [hh]
  dsimp only
  generalize areaOf f n (nextOf X f n) = at_ at *
  have e1 : wordAt (Zof X f n s) at_ = s.size := by rw [hZ, if_neg (by omega), w1]
  have e2 : wordAt (Zof X f n s) (at_ + 1) = (sumS s).toNat := by rw [hZ, if_neg (by omega), w2]
  have e3 : textAt (Zof X f n s) (at_ + 2) s.size = s := textAt_of fun i hi => by rw [hZ, if_neg (by omega), w3 i hi]
  rw [e1, e2, Int.toNat_natCast, e3, if_pos ⟨by omega, rfl⟩]

/-- A look hangs on the head and the area that it names. -/
theorem look_same {X Y : List Int} {f n : Nat} (hlo : 64 ≤ n) (h0 : wordAt Y f = wordAt X f) (h : ∀ a, headOf X f n = some a → ∀ k, areaOf f n a ≤ k → k < areaOf f n a + ((n - 8) / 2 / 8) * 8 → wordAt Y k = wordAt X k) : lookOf Y f n = lookOf X f n := by
  have hh : headOf Y f n = headOf X f n := by unfold headOf; rw [h0]
  unfold lookOf
  rw [hh]
  cases ha : headOf X f n with
  | none => rfl
  | some a =>
    dsimp only
    have hk := h a ha
    have w0 := hk (areaOf f n a) (by omega) (by omega)
    have w1 := hk (areaOf f n a + 1) (by omega) (by omega)
    rw [w0, w1]
    by_cases hr : wordAt X (areaOf f n a) ≤ (roomOf n : Int)
    · have ht : textAt Y (areaOf f n a + 2) (wordAt X (areaOf f n a)).toNat = textAt X (areaOf f n a + 2) (wordAt X (areaOf f n a)).toNat := by
        unfold textAt
        congr 1
        apply List.map_congr_left
        intro i hi
        rw [List.mem_range] at hi
        unfold byteAt
        rw [hk _ (by omega) (by unfold roomOf at hr; omega)]
      rw [ht]
    · rw [if_neg (fun h2 => hr h2.1), if_neg (fun h2 => hr h2.1)]

theorem look_old {X Y : List Int} {f n : Nat} (h : Fits X f n) {s : ByteArray} (hs : s.size ≤ roomOf n)
    (hY : ∀ i, i < X.length → ¬ (areaOf f n (nextOf X f n) ≤ i ∧ i < areaOf f n (nextOf X f n) + (2 + nWords s)) → wordAt Y i = wordAt X i) : lookOf Y f n = lookOf X f n := by
  have ha := head_next (X := X) (f := f) (n := n)
  obtain ⟨h1, h2, h3, h4⟩ := area_fits h ha hs
  have hi := h.hi
  have hlo := h.lo
  refine look_same hlo (hY f (by omega) (by omega)) fun a hh k hk1 hk2 => ?_
  obtain ⟨g1, g2⟩ := next_ne hh
  obtain ⟨q1, q2, q3, q4⟩ := area_fits h g2 hs
  refine hY k (by omega) ?_
  clear hY h1 q1
  generalize nextOf X f n = b at *
  generalize hL : (n - 8) / 2 / 8 = L at *
  unfold areaOf at *
  rw [hL] at *
  rcases (show (b = 0 ∧ a = 1) ∨ (b = 1 ∧ a = 0) from by omega) with ⟨rfl, rfl⟩ | ⟨rfl, rfl⟩ <;> omega

end Go.Proofs.Ytpaefllhngbimaa
