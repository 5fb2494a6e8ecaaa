/-
  Texts of bytes below 128, all of them one but at one place; rows of bytes of a call's own.
-/
import Derived.Test.YtgfdcnjnkljahaaDoorBits
import Derived.Laws.BytesArg
import Derived.Laws.Rows
import Derived.Laws.MakeOwn
import Derived.Laws.Bits128
namespace Go.Proofs.YtgfdcnjnkljahaaDoor
open Go.RowKit Go.Lib
set_option linter.unusedVariables false

/-! ### Texts -/

theorem one_low {s : ByteArray} {i : Nat} (h : at8 s i < 128) : one s i = ((at8 s i : Int), 1) := by
  unfold one; simp only []; rw [if_pos (by omega)]

theorem any_low {s : ByteArray} (h : ∀ i, i < s.size → at8 s i < 128) (n : Nat) : ∀ i, s.size ≤ i + n → ((rs s i).any badR = true ↔ ∃ j, i ≤ j ∧ j < s.size ∧ badR ((at8 s j : Int), 1) = true) := by
  induction n with
  | zero =>
    intro i hi
    rw [rs_end (by omega)]
    constructor
    · intro hh; simp at hh
    · rintro ⟨j, h1, h2, _⟩; omega
  | succ n ih =>
    intro i hi
    by_cases hlt : i < s.size
    · rw [rs_next hlt, one_low (h i hlt), List.any_cons, Bool.or_eq_true, ih _ (by show s.size ≤ i + max 1 1 + n; omega)]
      constructor
      · rintro (h1 | ⟨j, h1, h2, h3⟩)
        · exact ⟨i, Nat.le_refl _, hlt, h1⟩
        · exact ⟨j, by simp at h1; omega, h2, h3⟩
      · rintro ⟨j, h1, h2, h3⟩
        by_cases e : j = i
        · subst e; exact Or.inl h3
        · exact Or.inr ⟨j, by simp; omega, h2, h3⟩
    · rw [rs_end hlt]
      constructor
      · intro hh; simp at hh
      · rintro ⟨j, h1, h2, _⟩; omega

theorem at8_list (s : ByteArray) (i : Nat) : at8 s i = ((s.toList[i]?).getD 0).toNat := by
  unfold at8; rw [get_data, ByteArray.toList_eq]; simp

/-- k bytes, all of them 113 but that at p, which is b. -/
def qs (k p b : Nat) : List Int := (List.replicate k (113 : Int)).set p (b : Int)

theorem qs_length (k p b : Nat) : (qs k p b).length = k := by simp [qs]

theorem qs_at {k p b j : Nat} (hj : j < k) (hb : b < 128) : at8 (strOfNums (qs k p b)) j = if j = p then b else 113 := by
  have e : (strOfNums (qs k p b)).toList = (qs k p b).map fun n => UInt8.ofNat n.toNat := by rw [ByteArray.toList_eq]; exact strOfNums_data _
  rw [at8_list, e, List.getElem?_map]
  unfold qs
  rw [List.getElem?_set]
  by_cases h : j = p
  · subst h
    rw [if_pos rfl, if_pos rfl, if_pos (by simpa using hj)]
    show (UInt8.ofNat ((b : Int)).toNat).toNat = b
    rw [Int.toNat_natCast, UInt8.toNat_ofNat_of_lt' (by show b < 256; omega)]
  · rw [if_neg (by omega), if_neg h, List.getElem?_replicate, if_pos hj]
    rfl

/-- What Check answers of such a text. -/
def mayV (k b : Nat) : Int := if 12 < k then 801 else if (k = 1 ∧ b = 46) ∨ b < 32 ∨ b = 127 ∨ b = 47 then 800 else 0

theorem chk_qs {k p b : Nat} (hk : 1 ≤ k) (hp : p < k) (hb : b < 128) : chk (strOfNums (qs k p b)) = mayV k b := by
  have hsz : (strOfNums (qs k p b)).size = k := by rw [strOfNums_size, qs_length]
  have hat : ∀ j, j < k → at8 (strOfNums (qs k p b)) j = if j = p then b else 113 := fun j hj => qs_at hj hb
  have hlow : ∀ i, i < (strOfNums (qs k p b)).size → at8 (strOfNums (qs k p b)) i < 128 := fun i hi => by
    rw [hat i (by omega)]; split <;> omega
  have hany := any_low hlow k 0 (by omega)
  have hlen : (strOfNums (qs k p b)).toList.length = k := by rw [ByteArray.toList_eq]; show (strOfNums (qs k p b)).data.toList.length = k; rw [strOfNums_data]; simp [qs_length]
  have hl := at8_list (strOfNums (qs k p b))
  unfold chk mayV
  rw [hsz]
  generalize strOfNums (qs k p b) = s at *
  by_cases h : 12 < k
  · rw [if_pos h, if_pos h]
  rw [if_neg h, if_neg h]
  by_cases h1 : k = 1 ∧ b = 46
  · rw [if_pos (Or.inl h1)]
    obtain ⟨rfl, rfl⟩ := h1
    have e : s.toList = [46] := by
      match hs : s.toList, hlen with
      | [x], _ =>
        have h2 := hl 0
        rw [hat 0 (by omega), if_pos (by omega), hs] at h2
        have h3 : x.toNat = 46 := h2.symm
        rw [show x = 46 from UInt8.toNat_inj.1 h3]
    rw [if_pos (Or.inr (Or.inl e))]
  have hn : ¬ (s.toList = [] ∨ s.toList = [46] ∨ s.toList = [46, 46]) := by
    rintro (e | e | e)
    · rw [e] at hlen; simp at hlen; omega
    · rw [e] at hlen
      have hk1 : k = 1 := by simpa using hlen.symm
      have h2 := hl 0
      rw [hat 0 (by omega), if_pos (by omega), e] at h2
      exact h1 ⟨hk1, h2⟩
    · rw [e] at hlen
      have hk1 : k = 2 := by simpa using hlen.symm
      have h2 := hl 0
      have h3 := hl 1
      rw [hat 0 (by omega), e] at h2
      rw [hat 1 (by omega), e] at h3
      have h4 : (if 0 = p then b else 113) = 46 := h2
      have h5 : (if 1 = p then b else 113) = 46 := h3
      split at h4
      · rw [if_neg (by omega)] at h5; omega
      · omega
  rw [if_neg hn]
  by_cases h2 : b < 32 ∨ b = 127 ∨ b = 47
  · have : (rs s 0).any badR = true := by
      rw [hany]
      refine ⟨p, by omega, by omega, ?_⟩
      rw [hat p hp, if_pos rfl]
      unfold badR
      simp only [Bool.or_eq_true, beq_iff_eq, decide_eq_true_eq]
      omega
    rw [if_pos this, if_pos (Or.inr h2)]
  · have : ¬ (rs s 0).any badR = true := by
      rw [hany]
      rintro ⟨j, _, h4, h5⟩
      rw [hat j (by omega)] at h5
      unfold badR at h5
      simp only [Bool.or_eq_true, beq_iff_eq, decide_eq_true_eq] at h5
      split at h5
      · simp at h5; omega
      · simp at h5
    rw [if_neg this, if_neg (fun hh => hh.elim h1 h2)]

/-! ### Rows of bytes -/

/-- A row of bytes of the call's own. -/
structure Bs (w0 W : World) (B : Nat) (xs : List Int) : Prop where
  kept : Kept [] w0 W
  new : w0.heap.size ≤ B
  here : W.heap[B]? = some (.cells (xs.map (Value.int .u8)).toArray 5 (0, 0))

theorem Bs.cell {w0 W : World} {B : Nat} {xs : List Int} (h : Bs w0 W B xs) {i : Nat} (hi : i < xs.length) : W.cell? ⟨B, i, none⟩ = some (.int .u8 (xs.getD i 0)) := by
  simp [World.cell?, h.here, hi]

theorem Bs.frozen {w0 W : World} {B : Nat} {xs : List Int} (h : Bs w0 W B xs) (i : Nat) : W.frozen? ⟨B, i, none⟩ = false := by
  simp [World.frozen?, h.here]

theorem Bs.set {w0 W : World} {B : Nat} {xs : List Int} (h : Bs w0 W B xs) (i : Nat) (v : Int) : Bs w0 (W.setCell ⟨B, i, none⟩ (.int .u8 v)) B (xs.set i v) := by
  refine ⟨h.kept.setCell (Or.inr h.new) _, h.new, ?_⟩
  rw [heap_setCell_same W B i _ 5 _ h.here]
  simp [List.map_set]

theorem Bs.turn {w0 W W' : World} {B : Nat} {xs : List Int} (h : Bs w0 W B xs) (k : Kept [] W W') : Bs w0 W' B xs :=
  ⟨h.kept.trans k (by simp), h.new, (k.block B (lt_of_heap h.here) (by simp)).trans h.here⟩

theorem Bs.conv {w0 W : World} {B : Nat} {xs : List Int} (h : Bs w0 W B xs) (n : Nat) (hn : xs.length = n) (c : Nat) : (convert 91 9 (.slice (some ⟨B, 0, none⟩) n c)).run Tryd.prog W = .ok (.string (strOfNums xs)) W :=
  run_convert_bytes_arg (P := Tryd.prog) W 91 5 Tryd.underlying91 Tryd.underlying5 B 0 n c xs hn (fun i hi => by rw [Nat.zero_add]; exact h.cell (by omega)) 9 Tryd.underlying9

theorem info5 : (Tryd.prog.info? 5).map (fun i => (i.zero, i.size, i.bytes)) = some (some (.int .u8 0), 1, 1) := by kernel_rfl

theorem make_bytes (n : Nat) (h : n ≤ 140737488351232) (w : World) : (Instr.makeSlice 91 (.int .i64 (n : Int)) (.int .i64 (n : Int))).run Tryd.prog w = .ok (.slice (some ⟨w.heap.size, 0, none⟩) n n) (w.alloc (.cells ((List.replicate n (0 : Int)).map (Value.int .u8)).toArray 5)) := by
  obtain ⟨i0, hi, hx⟩ : ∃ i0, Tryd.prog.info? 5 = some i0 ∧ (i0.zero, i0.size, i0.bytes) = (some (Value.int .u8 0), 1, 1) := by
    cases hi : Tryd.prog.info? 5 with
    | none => have := info5; rw [hi] at this; cases this
    | some i0 => have := info5; rw [hi] at this; exact ⟨i0, rfl, Option.some.inj this⟩
  obtain ⟨hz0, hz1, hz2⟩ : i0.zero = some (Value.int .u8 0) ∧ i0.size = 1 ∧ i0.bytes = 1 := by simpa using hx
  have := run_make (P := Tryd.prog) w 91 5 i0 (.int .u8 0) Tryd.underlying91 hi hz0 .i64 .i64 n n (by omega) (by omega) (by rw [hz2]; omega) (by omega)
  rw [this]
  have e : madeCells (Value.int .u8 0).cells ((n : Int).toNat * i0.size) = ((List.replicate n (0 : Int)).map (Value.int .u8)).toArray := by
    apply Array.ext'
    rw [hz1]
    simp [toList_madeCells_one, Value.cells]
  rw [e]
  simp

theorem Bs.made {w0 w : World} (h : Kept [] w0 w) (n : Nat) : Bs w0 (w.alloc (.cells ((List.replicate n (0 : Int)).map (Value.int .u8)).toArray 5)) w.heap.size (List.replicate n 0) :=
  ⟨h.alloc _, h.size, by show (w.heap.push _)[w.heap.size]? = _; simp⟩

end Go.Proofs.YtgfdcnjnkljahaaDoor
