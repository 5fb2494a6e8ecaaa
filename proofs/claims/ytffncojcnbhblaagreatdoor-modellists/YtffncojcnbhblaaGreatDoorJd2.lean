/-
  Joined of my texts Sg Sr.
-/
import Derived.Test.YtffncojcnbhblaaGreatDoorJd1
import Derived.Maps.AppendAt
set_option linter.unusedVariables false
set_option linter.unusedSimpArgs false
set_option maxRecDepth 100000
set_option maxHeartbeats 8000000
namespace Go.Proofs.YtffncojcnbhblaaGreatDoor
open Go
def segs (s : ByteArray) (f i : Nat) : List ByteArray :=
 if h : i < s.size then (if at8 s i = 47 then s.extract f i :: segs s (i + 1) (i + 1) else segs s f (i + 1)) else [s.extract f s.size]
termination_by s.size - i
theorem segs_end {s : ByteArray} {f i : Nat} (h : ¬ i < s.size) : segs s f i = [s.extract f s.size] := by rw [segs, dif_neg h]
theorem segs_stroke {s : ByteArray} {f i : Nat} (h : i < s.size) (e : at8 s i = 47) : segs s f i = s.extract f i :: segs s (i + 1) (i + 1) := by rw [segs, dif_pos h, if_pos e]
theorem segs_on {s : ByteArray} {f i : Nat} (h : i < s.size) (e : at8 s i ≠ 47) : segs s f i = segs s f (i + 1) := by rw [segs, dif_pos h, if_neg e]
theorem segs_run {s : ByteArray} {f i : Nat} (k : Nat) (h : i + k ≤ s.size) (e : ∀ j, j < k → at8 s (i + j) ≠ 47) : segs s f i = segs s f (i + k) := by
 induction k with
 | zero => rfl
 | succ k ih =>
  rw [ih (by omega) fun j hj => e j (by omega), segs_on (by omega) (e k (by omega))]
  rfl
theorem goes_no {s : ByteArray} {k : Nat} (h : 0 ≤ goes s k) : at8 s k ≠ 47 := by
 unfold goes at h
 split at h
 · omega
 · omega
theorem one_no {s : ByteArray} {i : Nat} (h : (one s i).1 ≠ 47) : ∀ j, j < max (one s i).2 1 → at8 s (i + j) ≠ 47 := by
 have g1 := @goes_no s (i + 1)
 have g2 := @goes_no s (i + 2)
 have g3 := @goes_no s (i + 3)
 have key : at8 s i ≠ 47 ∧ (2 ≤ (one s i).2 → 0 ≤ goes s (i + 1)) ∧ (3 ≤ (one s i).2 → 0 ≤ goes s (i + 2)) ∧ (4 ≤ (one s i).2 → 0 ≤ goes s (i + 3)) ∧ (one s i).2 ≤ 4 := by
  revert h
  unfold one
  simp only []
  generalize at8 s i = c at *
  generalize goes s (i + 1) = a at *
  generalize goes s (i + 2) = b at *
  generalize goes s (i + 3) = d at *
  intro h
  split at h
  · rename_i q1; rw [if_pos q1]; simp only [] at h ⊢; omega
  rename_i q1
  rw [if_neg q1]
  split at h
  · rename_i q2; rw [if_pos q2]; simp only [] at h ⊢; omega
  rename_i q2
  rw [if_neg q2]
  split at h
  ·
   rename_i q3
   rw [if_pos q3]
   split at h
   · rename_i q4; rw [if_pos q4]; simp only [] at h ⊢; omega
   · rename_i q4; rw [if_neg q4]; simp only [] at h ⊢; omega
  rename_i q3
  rw [if_neg q3]
  split at h
  ·
   rename_i q3
   rw [if_pos q3]
   split at h
   · rename_i q4; rw [if_pos q4]; simp only [] at h ⊢; omega
   · rename_i q4; rw [if_neg q4]; simp only [] at h ⊢; omega
  · rename_i q5; rw [if_neg q5]; simp only [] at h ⊢; omega
 intro j hj
 obtain ⟨k0, k1, k2, k3, k4⟩ := key
 have hj4 : j = 0 ∨ j = 1 ∨ j = 2 ∨ j = 3 := by omega
 rcases hj4 with rfl | rfl | rfl | rfl
 · exact k0
 · exact g1 (k1 (by omega))
 · exact g2 (k2 (by omega))
 · exact g3 (k3 (by omega))
theorem one_stroke {s : ByteArray} {i : Nat} (h : (one s i).1 = 47) : at8 s i = 47 ∧ (one s i).2 = 1 := by
 have g : ∀ k, -1 ≤ goes s k ∧ goes s k ≤ 63 := fun k => by
  unfold goes
  split
  · omega
  · omega
 have g1 := g (i + 1)
 have g2 := g (i + 2)
 have g3 := g (i + 3)
 revert h
 unfold one
 simp only []
 generalize at8 s i = c at *
 generalize goes s (i + 1) = a at *
 generalize goes s (i + 2) = b at *
 generalize goes s (i + 3) = d at *
 intro h
 split at h
 · rename_i q1; rw [if_pos q1]; exact ⟨by have : (c : Int) = 47 := h; omega, rfl⟩
 rename_i q1
 split at h
 · simp only [] at h; omega
 split at h
 ·
  split at h
  · simp only [] at h; omega
  · simp only [] at h; omega
 split at h
 ·
  split at h
  · simp only [] at h; omega
  · simp only [] at h; omega
 · simp only [] at h; omega
theorem segs_rune {s : ByteArray} {f i : Nat} (h : i < s.size) (e : (one s i).1 ≠ 47) : segs s f i = segs s f (i + max (one s i).2 1) :=
 segs_run _ (by have := one_width s i h; omega) (one_no e)
theorem segs_mark {s : ByteArray} {f i : Nat} (h : i < s.size) (e : (one s i).1 = 47) : segs s f i = s.extract f i :: segs s (i + 1) (i + max (one s i).2 1) := by
 obtain ⟨h1, h2⟩ := one_stroke e
 rw [segs_stroke h h1, h2]
 rfl
theorem at8_data (s : ByteArray) (i : Nat) : at8 s i = ((s.data[i]?).getD 0).toNat := by unfold at8; rw [get_data]
theorem at8_out {s : ByteArray} {i : Nat} (h : ¬ i < s.size) : at8 s i = 0 := by
 rw [at8_data, Array.getElem?_eq_none (by simpa using h)]
 rfl
theorem at8_ext {s : ByteArray} {a b i : Nat} (h : a + i < b) (hb : b ≤ s.size) : at8 (s.extract a b) i = at8 s (a + i) := by
 rw [at8_data, at8_data]
 congr 2
 rw [ByteArray.data_extract, Array.getElem?_extract]
 have : b ≤ s.data.size := hb
 rw [if_pos (by omega)]
theorem ext_ext (s : ByteArray) (a b c : Nat) (hb : a + c ≤ s.size) : (s.extract a s.size).extract b c = s.extract (a + b) (a + c) := by
 apply ByteArray.ext
 rw [ByteArray.data_extract, ByteArray.data_extract, ByteArray.data_extract, Array.extract_extract]
 congr 1
 have : s.data.size = s.size := rfl
 omega
theorem segs_behind (s : ByteArray) (h1 : 1 ≤ s.size) (n : Nat) : ∀ f i, i ≤ s.size - 1 → s.size ≤ i + n + 1 → segs (s.extract 1 s.size) f i = segs s (1 + f) (1 + i) := by
 have hz : (s.extract 1 s.size).size = s.size - 1 := by rw [ByteArray.size_extract]; omega
 induction n with
 | zero =>
  intro f i hi hn
  rw [segs_end (by omega), segs_end (by omega), hz, ext_ext _ _ _ _ (by omega)]
  congr 2
  omega
 | succ n ih =>
  intro f i hi hn
  by_cases h : i < s.size - 1
  ·
   have e : at8 (s.extract 1 s.size) i = at8 s (1 + i) := at8_ext (by omega) (Nat.le_refl _)
   by_cases h2 : at8 s (1 + i) = 47
   ·
    rw [segs_stroke (by omega) (e.trans h2), segs_stroke (by omega) h2, ih _ _ (by omega) (by omega), ext_ext _ _ _ _ (by omega)]
    rfl
   ·
    rw [segs_on (by omega) (by rw [e]; exact h2), segs_on (by omega) h2, ih _ _ (by omega) (by omega)]
    rfl
  ·
   rw [segs_end (by omega), segs_end (by omega), hz, ext_ext _ _ _ _ (by omega)]
   congr 2
   omega
theorem segs_below (s : ByteArray) (h1 : 1 ≤ s.size) : segs (s.extract 1 s.size) 0 0 = segs s 1 1 := segs_behind s h1 s.size 0 0 (by omega) (by omega)
theorem segs_ne (s : ByteArray) (n : Nat) : ∀ f i, s.size ≤ i + n → segs s f i ≠ [] := by
 induction n with
 | zero => intro f i h; rw [segs_end (by omega)]; simp
 | succ n ih =>
  intro f i h
  by_cases h2 : i < s.size
  ·
   by_cases h3 : at8 s i = 47
   · rw [segs_stroke h2 h3]; simp
   · rw [segs_on h2 h3]; exact ih f (i + 1) (by omega)
  · rw [segs_end h2]; simp
theorem segs_len (s : ByteArray) (n : Nat) : ∀ f i, s.size ≤ i + n → (segs s f i).length ≤ n + 1 := by
 induction n with
 | zero => intro f i h; rw [segs_end (by omega)]; simp
 | succ n ih =>
  intro f i h
  by_cases h2 : i < s.size
  ·
   by_cases h3 : at8 s i = 47
   · rw [segs_stroke h2 h3, List.length_cons]; have := ih (i + 1) (i + 1) (by omega); omega
   · rw [segs_on h2 h3]; have := ih f (i + 1) (by omega); omega
  · rw [segs_end h2]; simp
def firstErr : List ByteArray → Int
 | [] => 0
 | p :: l => if chk p = 0 then firstErr l else if chk p = 801 then 1101 else 1100
def parseR (s : ByteArray) : List ByteArray × Int :=
 if 64 < s.size then ([], 1101) else if s.size = 0 ∨ at8 s 0 ≠ 47 then ([], 1100) else if s.size = 1 then ([], 0)
 else if firstErr (segs s 1 1) ≠ 0 then ([], firstErr (segs s 1 1)) else if 4 < (segs s 1 1).length then ([], 1102) else (segs s 1 1, 0)
def joinL : List ByteArray → ByteArray
 | [] => ⟨#[]⟩
 | p :: l => ⟨#[47]⟩ ++ (p ++ joinL l)
def joinP (l : List ByteArray) : ByteArray := if l = [] then ⟨#[47]⟩ else joinL l
def allMay (l : List ByteArray) : Bool := l.all fun p => chk p == 0
def printR (l : List ByteArray) : ByteArray × Int :=
 if allMay l = false then (⟨#[]⟩, 1100) else if 4 < l.length then (⟨#[]⟩, 1102) else (joinP l, 0)
def codeR (e : Int) : Int := if e = 0 then 0 else if e = 1101 ∨ e = 1102 then 6 else 9
def belowR (a b : ByteArray) : Bool := (parseR a).2 == 0 && (parseR b).2 == 0 && decide ((parseR a).1.length < (parseR b).1.length) && decide ((parseR a).1 = (parseR b).1.take (parseR a).1.length)
theorem chk_any (s : ByteArray) : chk s = 0 ∨ chk s = 800 ∨ chk s = 801 := by
 unfold chk
 split
 · simp
 split
 · simp
 split
 · simp
 · simp
theorem chk_size {s : ByteArray} (h : chk s = 0) : s.size ≤ 12 ∧ (rs s 0).any badR = false := by
 unfold chk at h
 split at h
 · omega
 split at h
 · omega
 split at h
 · omega
 ·
  rename_i h1 h2 h3
  exact ⟨by omega, by simpa using h3⟩
theorem rs_no (s : ByteArray) (n : Nat) : ∀ i, s.size ≤ i + n → (rs s i).any badR = false → ∀ k, i ≤ k → at8 s k ≠ 47 := by
 induction n with
 | zero => intro i h _ k hk; rw [at8_out (by omega)]; omega
 | succ n ih =>
  intro i h hb k hk
  by_cases h2 : i < s.size
  ·
   rw [rs_next h2, List.any_cons, Bool.or_eq_false_iff] at hb
   obtain ⟨h3, h4⟩ := hb
   have h5 : (one s i).1 ≠ 47 := by
    unfold badR at h3
    intro e
    rw [e] at h3
    simp at h3
   by_cases h6 : k < i + max (one s i).2 1
   ·
    have := one_no h5 (k - i) (by omega)
    rwa [show i + (k - i) = k by omega] at this
   · exact ih _ (by have := step_pos s i; omega) h4 k (by omega)
  · rw [at8_out (by omega)]; omega
theorem chk_no {s : ByteArray} (h : chk s = 0) (k : Nat) : at8 s k ≠ 47 := rs_no s s.size 0 (by omega) (chk_size h).2 k (Nat.zero_le _)
theorem one_47 : ((⟨#[47]⟩ : ByteArray)).size = 1 := rfl
theorem bytes_ext {a b : ByteArray} (hs : a.size = b.size) (h : ∀ i, i < a.size → at8 a i = at8 b i) : a = b := by
 apply ByteArray.ext
 apply Array.ext hs
 intro i h1 h2
 have := h i h1
 rw [at8_data, at8_data, Array.getElem?_eq_getElem h1, Array.getElem?_eq_getElem h2] at this
 exact UInt8.toNat_inj.1 this
theorem at8_47 : at8 (⟨#[47]⟩ : ByteArray) 0 = 47 := by decide
theorem app_assoc (a b c : ByteArray) : a ++ b ++ c = a ++ (b ++ c) := ByteArray.append_assoc
theorem app_nil (a : ByteArray) : a ++ ⟨#[]⟩ = a := ByteArray.append_empty
theorem segs_join_at : ∀ (l : List ByteArray) (a p : ByteArray), (∀ q ∈ p :: l, ∀ k, at8 q k ≠ 47) → segs (a ++ (p ++ joinL l)) a.size a.size = p :: l := by
 intro l
 induction l with
 | nil =>
  intro a p h
  rw [joinL, app_nil]
  have hz : (a ++ p).size = a.size + p.size := ByteArray.size_append
  rw [segs_run p.size (by omega) fun j hj => by rw [at8_right]; exact h p (by simp) j, segs_end (by omega)]
  congr 1
  apply bytes_ext
  · rw [ByteArray.size_extract]; omega
  ·
   intro i hi
   rw [ByteArray.size_extract] at hi
   rw [at8_ext (by omega) (Nat.le_refl _), at8_right]
 | cons q l ih =>
  intro a p h
  have e1 : a ++ (p ++ joinL (q :: l)) = (a ++ p) ++ (⟨#[47]⟩ ++ (q ++ joinL l)) := by rw [joinL, app_assoc]
  have e2 : a ++ (p ++ joinL (q :: l)) = ((a ++ p) ++ ⟨#[47]⟩) ++ (q ++ joinL l) := by rw [e1, app_assoc (a ++ p)]
  have hz : (a ++ (p ++ joinL (q :: l))).size = a.size + p.size + 1 + (q ++ joinL l).size := by rw [e2, ByteArray.size_append, ByteArray.size_append, ByteArray.size_append, one_47]
  have hp : ∀ j, j < p.size → at8 (a ++ (p ++ joinL (q :: l))) (a.size + j) = at8 p j := fun j hj => by rw [at8_right, at8_left hj]
  have h47 : at8 (a ++ (p ++ joinL (q :: l))) (a.size + p.size) = 47 := by
   have := at8_right (a ++ p) (⟨#[47]⟩ ++ (q ++ joinL l)) 0
   rw [Nat.add_zero, ByteArray.size_append, ← e1] at this
   rw [this, at8_left (by rw [one_47]; omega), at8_47]
  rw [segs_run p.size (by omega) fun j hj => by rw [hp j hj]; exact h p (by simp) j, segs_stroke (by omega) h47]
  have e3 : segs (a ++ (p ++ joinL (q :: l))) (a.size + p.size + 1) (a.size + p.size + 1) = q :: l := by
   have := ih ((a ++ p) ++ ⟨#[47]⟩) q fun x hx => h x (List.mem_cons_of_mem _ hx)
   rw [ByteArray.size_append, ByteArray.size_append, one_47, ← e2] at this
   exact this
  rw [e3]
  congr 1
  apply bytes_ext
  · rw [ByteArray.size_extract]; omega
  ·
   intro i hi
   rw [ByteArray.size_extract] at hi
   rw [at8_ext (by omega) (by omega), hp i (by omega)]
theorem segs_join (p : ByteArray) (l : List ByteArray) (h : ∀ q ∈ p :: l, chk q = 0) : segs (joinL (p :: l)) 1 1 = p :: l := by
 have := segs_join_at l ⟨#[47]⟩ p fun q hq k => chk_no (h q hq) k
 rw [one_47] at this
 rw [joinL]
 exact this
theorem first_ok (l : List ByteArray) : firstErr l = 0 ↔ allMay l = true := by
 induction l with
 | nil => simp [firstErr, allMay]
 | cons p l ih =>
  unfold allMay at ih ⊢
  rw [firstErr, List.all_cons, Bool.and_eq_true, beq_iff_eq, ← ih]
  split
  · rename_i h; simp [h]
  ·
   rename_i h
   split
   · simp [h]
   · simp [h]
theorem all_may {l : List ByteArray} (h : allMay l = true) : ∀ q ∈ l, chk q = 0 := fun q hq => by
 unfold allMay at h
 simpa using List.all_eq_true.1 h q hq
theorem join_size {l : List ByteArray} (h : ∀ q ∈ l, chk q = 0) : (joinL l).size ≤ 13 * l.length := by
 induction l with
 | nil => exact Nat.le_refl _
 | cons p l ih =>
  have h1 := ih fun q hq => h q (List.mem_cons_of_mem _ hq)
  have h2 := (chk_size (h p (by simp))).1
  rw [joinL, ByteArray.size_append, ByteArray.size_append, one_47, List.length_cons]
  omega
theorem join_long {l : List ByteArray} (h : allMay l = true) (h4 : l.length ≤ 4) : (joinP l).size ≤ 52 := by
 unfold joinP
 split
 · decide
 · have := join_size (all_may h); omega
theorem join_first (p : ByteArray) (l : List ByteArray) : at8 (joinL (p :: l)) 0 = 47 ∧ (joinL (p :: l)).size = 1 + p.size + (joinL l).size := by
 rw [joinL]
 refine ⟨?_, ?_⟩
 · rw [at8_left (by rw [one_47]; omega), at8_47]
 · rw [ByteArray.size_append, ByteArray.size_append, one_47]; omega
theorem chk_pos {s : ByteArray} (h : chk s = 0) : 1 ≤ s.size := by
 rcases Nat.eq_zero_or_pos s.size with h0 | h0
 ·
  have : s = ⟨#[]⟩ := by
   apply ByteArray.ext
   exact Array.eq_empty_of_size_eq_zero h0
  subst this
  exact absurd h (by unfold chk; rw [if_neg (by rw [h0]; omega), if_pos (Or.inl (by rw [ByteArray.toList_eq]))]; omega)
 · exact h0
theorem parse_print {l : List ByteArray} (h : (printR l).2 = 0) : parseR (printR l).1 = (l, 0) ∧ allMay l = true ∧ l.length ≤ 4 ∧ printR l = (joinP l, 0) := by
 unfold printR at h ⊢
 split at h
 · exact absurd h (by decide)
 rename_i h1
 rw [if_neg h1]
 split at h
 · exact absurd h (by decide)
 rename_i h2
 rw [if_neg h2]
 have h1 : allMay l = true := by simpa using h1
 refine ⟨?_, h1, by omega, rfl⟩
 simp only []
 have hz := join_long h1 (by omega)
 cases l with
 | nil =>
  have : joinP [] = (⟨#[47]⟩ : ByteArray) := rfl
  rw [this]
  decide
 | cons p l =>
  have e : joinP (p :: l) = joinL (p :: l) := by unfold joinP; rw [if_neg (by simp)]
  rw [e] at hz ⊢
  obtain ⟨k1, k2⟩ := join_first p l
  have hp := chk_pos (all_may h1 p (by simp))
  have hs := segs_join p l (all_may h1)
  unfold parseR
  rw [if_neg (by omega), if_neg (by rw [k1]; omega), if_neg (by omega), hs, if_neg (by rw [(first_ok _).2 h1]; simp), if_neg (by omega)]
theorem parse_few (s : ByteArray) : (parseR s).1.length ≤ 4 ∧ ((parseR s).2 ≠ 0 → (parseR s).1 = []) ∧ (∀ q ∈ (parseR s).1, chk q = 0) := by
 unfold parseR
 split
 · simp
 split
 · simp
 split
 · simp
 split
 · simp
 split
 · simp
 ·
  rename_i h1 h2 h3 h4 h5
  refine ⟨by simp only []; omega, fun h => absurd rfl h, all_may ((first_ok _).1 (by simpa using h4))⟩
end Go.Proofs.YtffncojcnbhblaaGreatDoor
namespace Go.Proofs.YtffncojcnbhblaaGreatDoor
open Go.RowKit
def tx (xs : List ByteArray) (i : Nat) : ByteArray := xs.getD i ⟨#[]⟩
theorem tx_ext {xs ys : List ByteArray} (hl : xs.length = ys.length) (h : ∀ j, j < xs.length → tx xs j = tx ys j) : xs = ys := by
 apply List.ext_getElem hl
 intro i h1 h2
 have := h i h1
 unfold tx at this
 rw [List.getD_eq_getElem?_getD, List.getD_eq_getElem?_getD, List.getElem?_eq_getElem h1, List.getElem?_eq_getElem h2] at this
 exact this
theorem ret_bool {x y : Bool} (h : x = y) : Ending.returned (.bool x) = .returned (.bool y) := by rw [h]
def Ss (w : World) (a : Option Addr) (xs : List ByteArray) : Prop :=
 xs.length ≤ 9223372036854775807 ∧ ∀ i, i < xs.length → ∃ b off, a = some ⟨b, off, none⟩ ∧ w.cell? ⟨b, off + i, none⟩ = some (.string (tx xs i))
theorem Ss.same {w w' : World} {a : Option Addr} {xs : List ByteArray} (h : Ss w a xs) (hk : ∀ x, a = some x → w'.heap[x.block]? = w.heap[x.block]?) : Ss w' a xs :=
 ⟨h.1, fun i hi => by
  obtain ⟨b, off, rfl, hc⟩ := h.2 i hi
  refine ⟨b, off, rfl, ?_⟩
  have := hk _ rfl
  unfold World.cell? at hc ⊢
  simp only [] at hc ⊢ this
  rw [this]
  exact hc⟩
theorem Ss.lt {w : World} {a : Option Addr} {xs : List ByteArray} (h : Ss w a xs) (hx : xs ≠ []) {x : Addr} (hax : a = some x) : x.block < w.heap.size := by
 obtain ⟨b, off, rfl, hc⟩ := h.2 0 (by cases xs with | nil => exact absurd rfl hx | cons => simp)
 simp at hax
 subst hax
 rcases Nat.lt_or_ge b w.heap.size with h' | h'
 · exact h'
 · simp [World.cell?, Array.getElem?_eq_none h'] at hc
theorem Ss.none {w : World} {a : Option Addr} : Ss w a [] := ⟨by simp, fun i hi => by simp at hi⟩
theorem Ss.kept {w w' : World} {a : Option Addr} {xs : List ByteArray} (h : Ss w a xs) (k : Kept [] w w') : Ss w' a xs := by
 by_cases hx : xs = []
 · subst hx; exact Ss.none
 · exact h.same fun x hax => k.block _ (h.lt hx hax) (by simp)
theorem Ss.drewN {w : World} {a : Option Addr} {xs : List ByteArray} (h : Ss w a xs) (n : Nat) : Ss (w.drewN n) a xs := h
theorem Ss.take {w : World} {a : Option Addr} {xs : List ByteArray} (h : Ss w a xs) (n : Nat) : Ss w a (xs.take n) :=
 ⟨by have := h.1; rw [List.length_take]; omega, fun i hi => by
  rw [List.length_take] at hi
  obtain ⟨b, off, rfl, hc⟩ := h.2 i (by omega)
  refine ⟨b, off, rfl, ?_⟩
  rw [hc]
  congr 2
  unfold tx
  rw [List.getD_eq_getElem?_getD, List.getD_eq_getElem?_getD, List.getElem?_take_of_lt (by omega)]⟩
def Sr (w : World) (H : Nat) (v : Value) (xs : List ByteArray) : Prop := w.ownsRow H 9 1 v xs.length (xs.map Value.string)
theorem Sr.nil (w : World) (H : Nat) : Sr w H (.slice none 0 0) [] := World.ownsRow_nil w H 9 1
theorem Sr.same {w w' : World} {H : Nat} {v : Value} {xs : List ByteArray} (h : Sr w H v xs) (hk : ∀ k, v.ownBlock = some k → w'.heap[k]? = w.heap[k]?) : Sr w' H v xs := by
 refine ⟨h.1, ?_⟩
 rcases h.2 with hn | ⟨g, cap, cur, rfl, hb, hgg, rest⟩
 · exact .inl hn
 · exact .inr ⟨g, cap, cur, rfl, hb, by rw [hk g rfl]; exact hgg, rest⟩
theorem Sr.block {w : World} {H : Nat} {v : Value} {xs : List ByteArray} (h : Sr w H v xs) : ∀ k, v.ownBlock = some k → H ≤ k ∧ k < w.heap.size := World.ownsRow.lt h
theorem Sr.kept {w w' : World} {H : Nat} {v : Value} {xs : List ByteArray} (h : Sr w H v xs) (k : Kept [] w w') : Sr w' H v xs :=
 h.same fun x hx => k.block x (h.block x hx).2 (by simp)
theorem Sr.less {w : World} {H H' : Nat} {v : Value} {xs : List ByteArray} (h : Sr w H v xs) (hH : H' ≤ H) : Sr w H' v xs := by
 refine ⟨h.1, ?_⟩
 rcases h.2 with hn | ⟨g, cap, cur, rfl, hb, rest⟩
 · exact .inl hn
 · exact .inr ⟨g, cap, cur, rfl, by omega, rest⟩
theorem Sr.read {w : World} {H : Nat} {v : Value} {xs : List ByteArray} (h : Sr w H v xs) : ∃ a c, v = .slice a xs.length c ∧ Ss w a xs ∧ ∀ x, a = some x → H ≤ x.block := by
 rcases h.2 with ⟨rfl, h2⟩ | ⟨g, cap, cur, rfl, hb, hgg, h4, h5, h6, h7⟩
 ·
  have : xs = [] := List.eq_nil_of_length_eq_zero h2
  subst this
  exact ⟨_, _, rfl, Ss.none, fun x hx => by cases hx⟩
 ·
  refine ⟨_, _, rfl, ⟨by unfold maxLen at h5; omega, fun i hi => ⟨g, 0, rfl, ?_⟩⟩, fun x hx => by cases hx; exact hb⟩
  rw [Nat.zero_add, cell_of_row _ _ _ _ _ _ hgg]
  have h8 : (cur.toList.take (xs.length * 1))[i]? = (xs.map Value.string)[i]? := by rw [h7]
  rw [List.getElem?_take_of_lt (by omega), Array.getElem?_toList] at h8
  rw [h8]
  unfold tx
  rw [List.getD_eq_getElem?_getD]
  simp [hi]
theorem info9 : (Tryz.prog.info? 9).map (fun i => (i.zero, i.size, i.bytes)) = some (some (.string ⟨#[]⟩), 1, 16) := by kernel_rfl
theorem texts_oneCell (xs : List ByteArray) : ∀ u ∈ xs.map Value.string, u.oneCell' = true := by
 intro u hu
 simp only [List.mem_map] at hu
 obtain ⟨a, _, rfl⟩ := hu
 rfl
theorem append_texts {w : World} {H : Nat} {v : Value} {xs ys : List ByteArray} (h : Sr w H v xs) (hH : H ≤ w.heap.size) (a : Option Addr) (n c : Nat) (hn : n = ys.length) (hy : Ss w a ys) (ha : a ≠ none) (hb : (xs.length + ys.length) * 16 ≤ 140737488355328) (ty : TypeId) :
  ∃ v' w', (Builtin.append_ #[29, 29] ty #[v, .slice a n c]).run Tryz.prog w = .ok v' w' ∧ Sr w' H v' (xs ++ ys) ∧ w.grownBy w' v.ownBlock := by
 subst hn
 obtain ⟨i0, hi, hz0, hz1, hz2⟩ := info_parts info9
 cases a with
 | none => exact absurd rfl ha
 | some ad =>
  obtain ⟨v', w', hr, h2, h3, _, h5⟩ := run_append_own_at (P := Tryz.prog) w H 29 ty 9 i0 (.string ⟨#[]⟩) 1 16 Tryz.underlying29 hi hz0 hz1 hz2 rfl (by omega) v xs.length (xs.map Value.string) h ad ys.length c (ys.map Value.string) (by simp)
   (fun j u hu => by
    rw [List.getElem?_map] at hu
    rcases Nat.lt_or_ge j ys.length with hj | hj
    ·
     obtain ⟨b, off, e, hc⟩ := hy.2 j hj
     cases e
     have ea : (⟨b, off, none⟩ : Addr).add j = ⟨b, off + j, none⟩ := by unfold Addr.add; split <;> simp_all
     rw [ea, hc]
     unfold tx
     rw [List.getD_eq_getElem?_getD]
     rw [List.getElem?_eq_getElem hj] at hu ⊢
     simpa using hu
    · rw [List.getElem?_eq_none hj] at hu; cases hu)
   (texts_oneCell ys) (by unfold maxLen; omega) hb hH
  refine ⟨v', w', hr, ?_, h3⟩
  unfold Sr
  rw [List.length_append, List.map_append]
  exact h2
theorem append_text {w : World} {H : Nat} {v : Value} {xs : List ByteArray} (h : Sr w H v xs) (hH : H ≤ w.heap.size) (e : ByteArray) (hb : xs.length + 1 ≤ 1000000) (ty : TypeId) :
  ∃ v' w', (Builtin.append_ #[29, 29] ty #[v, .slice (some ⟨w.heap.size, 0, none⟩) 1 1]).run Tryz.prog (w.alloc (.cells #[.string e] 9)) = .ok v' w' ∧ Sr w' H v' (xs ++ [e]) ∧ Kept v.ownBlock.toList w w' := by
 have hk : Kept [] w (w.alloc (.cells #[.string e] 9)) := (Kept.refl [] w).alloc _
 have hs : Ss (w.alloc (.cells #[.string e] 9)) (some ⟨w.heap.size, 0, none⟩) [e] := ⟨by simp, fun i hi => ⟨_, _, rfl, by
  have : i = 0 := by simpa using hi
  subst this
  rw [cell_of_row _ _ _ _ _ _ (heap_alloc_new w _)]
  rfl⟩⟩
 obtain ⟨v', w', hr, h2, h3⟩ := append_texts (h.kept hk) (by have := hk.size; omega) _ 1 1 rfl hs (by simp) (by simp; omega) ty
 exact ⟨v', w', hr, h2, (hk.mono (by simp)).grown h3 fun x hx => Or.inl (by rw [hx]; simp)⟩
theorem wpList_append_run {P : Program} (w : World) {ops : Array Oper} {rest : List Oper} {o : Oper} {a : Act} {Q : Exit → Act → World → Prop} (hgd : o.guard = none) (s x : Operand) (t1 t2 : TypeId)
  (ho : o.op = .call { callee := .builtin .append, args := #[s, x], argTypes := #[t1, t2] }) (v u : Value) (hs : a.eval s = v) (hx : a.eval x = u) (v' : Value) (w' : World)
  (hr : (Builtin.append_ #[t1, t2] o.type #[v, u]).run P w = .ok v' w') (h : wpList P ops Q rest (a.put o.dst v') w') : wpList P ops Q (o :: rest) a w := by
 refine wpList_plain hgd fun K hK => ?_
 unfold Oper.wp execOp
 simp only [ho, resolve, invoke, builtin, Sem.run_bind, Sem.run_pure, Result.andThen_ok, List.map_toArray, List.map_cons, List.map_nil, hs, hx, hr]
 exact hK _ _ h
theorem kept_of_own {w w' : World} {H : Nat} {v : Value} {w0 : World} (h0 : Kept [] w0 w) (h : Kept v.ownBlock.toList w w') (hv : ∀ k, v.ownBlock = some k → w0.heap.size ≤ k) : Kept [] w0 w' :=
 h0.trans h fun x hx => Or.inr (hv x (by simpa using hx))
theorem slices_equal (a b : Option Addr) (n m c d : Nat) (xs ys : List ByteArray) (w : World) (hn : n = xs.length) (hm : m = ys.length) (ha : Ss w a xs) (hb : Ss w b ys) :
  Calls Tryz.prog 41 #[.slice a n c, .slice b m d] w fun e w' => e = .returned (.bool (decide (xs = ys))) ∧ ∃ q, w' = w.drewN q := by
 have hn63 := ha.1
 have hm63 := hb.1
 obtain ⟨z, hz⟩ : ∃ z, decide (xs = ys) = z := ⟨_, rfl⟩
 rw [hz]
 by_cases hnm : n = m
 ·
  subst hnm
  have HB : Hid (Ss w a xs ∧ Ss w b ys ∧ n = xs.length ∧ n = ys.length ∧ decide (xs = ys) = z) := ⟨ha, hb, hn, hm, hz⟩
  have hbig : n ≤ 9223372036854775807 := by omega
  clear ha hb hn hm hz hn63 hm63
  go_enter Tryz.func41, Tryz.ntmps41
  go_wp2_with fail
  go_loopw [13] (fun s wr => ∃ (k q : Nat), s = .int .i64 (k : Int) ∧ k ≤ n ∧ wr = w.drewN q ∧ Hid (∀ j, j < k → tx xs j = tx ys j)) (fun s _ => (n - intOf s).toNat)
  case atStart => exact ⟨0, 0, rfl, by omega, rfl, fun j hj => by omega⟩
  case round =>
   obtain ⟨k, q, rfl, hk, rfl, HJ⟩ := hrel
   by_cases hlt : k < n
   ·
    have i1 : (k : Int) < (n : Int) := by omega
    obtain ⟨b1, o1, rfl, c1⟩ := HB.out.1.2 k (by have := HB.out.2.2.1; omega)
    obtain ⟨b2, o2, rfl, c2⟩ := HB.out.2.1.2 k (by have := HB.out.2.2.2.1; omega)
    obtain ⟨x, hx⟩ : ∃ x, tx xs k = x := ⟨_, rfl⟩
    obtain ⟨y, hy⟩ : ∃ y, tx ys k = y := ⟨_, rfl⟩
    rw [hx] at c1
    rw [hy] at c2
    by_cases hxy : x = y
    ·
     subst hxy
     have HX : Hid (tx xs k = tx ys k) := hx.trans hy.symm
     clear hx hy
     go_wp2_with fail
     go_region
     go_wp2_with fail
     go_roundw
     case rel => exact ⟨k + 1, q + 1, by go_num, by omega, rfl, fun j hj => by
      rcases Nat.lt_or_ge j k with h | h
      · exact HJ.out j h
      ·
       have : j = k := by omega
       rw [this]; exact HX.out⟩
     case measure => simp [intOf]; omega
    ·
     have hne : ¬ x.toList = y.toList := fun e => hxy (by apply ByteArray.ext; apply Array.ext'; rw [ByteArray.toList_eq, ByteArray.toList_eq] at e; exact e)
     have hnb : (x.toList == y.toList) = false := by simpa using hne
     have HX : Hid (false = z) := by
      show false = z
      rw [← HB.out.2.2.2.2]
      symm
      rw [decide_eq_false_iff_not]
      intro e
      rw [e, hy] at hx
      exact hxy hx.symm
     clear hx hy hxy
     go_wp2_with fail
     go_region
     go_wp2_with fail
     go_ret
     exact ⟨ret_bool HX.out, q + 1, rfl⟩
   ·
    have i1 : ¬ (k : Int) < (n : Int) := by omega
    have HX : Hid (true = z) := by
     show true = z
     rw [← HB.out.2.2.2.2]
     symm
     rw [decide_eq_true_eq]
     have h1 := HB.out.2.2.1
     have h2 := HB.out.2.2.2.1
     refine tx_ext (by omega) fun j hj => HJ.out j (by omega)
    go_wp2_with fail
    go_ret
    exact ⟨ret_bool HX.out, q, rfl⟩
 ·
  have i0 : ¬ (n : Int) = (m : Int) := by omega
  have HX : Hid (false = z) := by
   show false = z
   rw [← hz]
   symm
   rw [decide_eq_false_iff_not]
   intro e
   exact hnm (by rw [hn, hm, e])
  clear ha hb hn hm hz hn63 hm63
  go_enter Tryz.func41, Tryz.ntmps41
  go_wp2_with fail
  go_ret
  exact ⟨ret_bool HX.out, 0, rfl⟩
end Go.Proofs.YtffncojcnbhblaaGreatDoor
