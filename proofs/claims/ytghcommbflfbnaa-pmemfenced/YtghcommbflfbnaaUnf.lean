/-
  Lines that were stored to and not fenced: what a crash leaves of them. Plain.
-/
import Derived.Test.YtghcommbflfbnaaFuse2
namespace Go.Proofs.Ytghcommbflfbnaa

/-- Behind i lines, those of L's bits stored to. -/
structure UInv (L : Int) (i : Nat) (M : Pm) : Prop where
  len : M.seen.length = 64
  lasts : M.lasts = List.replicate 64 0
  fuse : M.fuse = none
  steps : 0 ≤ M.steps ∧ M.steps ≤ 2 * i
  stores : 0 ≤ M.stores ∧ M.stores ≤ i
  words : ∀ x : Nat, x < 64 → wordAt M.seen x = if x / 8 < i ∧ kbit L (x / 8) = true ∧ x % 8 = x / 8 then 100 + ((x / 8 : Nat) : Int) else 0

theorem UInv.start (L : Int) : UInv L 0 (fresh 64) :=
  ⟨by simp [fresh], rfl, rfl, by simp [fresh], by simp [fresh], fun x hx => by rw [if_neg (by omega)]; exact wordAt_replicate 64 x⟩

theorem none_store {M : Pm} (h : M.fuse = none) (k : Nat) (v : Int) : (M.store k v).fuse = none := by
  simp [Pm.store, Pm.put, Pm.power, h, Pm.burn, hold_fuse]

theorem none_flush {M : Pm} (h : M.fuse = none) (l : Nat) : (M.flush l).fuse = none := by
  simp [Pm.flush, Pm.send, Pm.power, h, Pm.burn]

theorem UInv.skip {L : Int} {i : Nat} {M : Pm} (h : UInv L i M) (hb : kbit L i = false) : UInv L (i + 1) M := by
  refine ⟨h.len, h.lasts, h.fuse, by have := h.steps; omega, by have := h.stores; omega, fun x hx => ?_⟩
  rw [h.words x hx]
  by_cases e : x / 8 = i
  · rw [if_neg (by omega), if_neg (by rw [e, hb]; simp)]
  · congr 1; exact propext ⟨fun h2 => ⟨by omega, h2.2⟩, fun h2 => ⟨by omega, h2.2⟩⟩

theorem UInv.put {L : Int} {i : Nat} {M : Pm} (h : UInv L i M) (hi : i < 8) (hb : kbit L i = true) : UInv L (i + 1) (M.store (8 * i + i) (100 + (i : Int))) := by
  refine ⟨by rw [store_seen, List.length_set]; exact h.len, by rw [store_lasts]; exact h.lasts, none_store h.fuse _ _, by rw [store_steps]; have := h.steps; omega, by rw [store_stores]; have := h.stores; omega, fun x hx => ?_⟩
  rw [store_seen, wordAt_set _ _ _ _ (by rw [h.len]; omega), h.words x hx]
  by_cases e : x = 8 * i + i
  · rw [if_pos e, if_pos ⟨by omega, by rw [show x / 8 = i from by omega]; exact hb, by omega⟩, show x / 8 = i from by omega]
  · rw [if_neg e]
    by_cases e2 : x / 8 = i
    · rw [if_neg (by omega), if_neg (by omega)]
    · congr 1; exact propext ⟨fun h2 => ⟨by omega, h2.2⟩, fun h2 => ⟨by omega, h2.2⟩⟩

theorem UInv.flushed {L : Int} {i : Nat} {M : Pm} (h : UInv L i M) (hi : i < 8) (hb : kbit L i = true) : UInv L (i + 1) ((M.store (8 * i + i) (100 + (i : Int))).flush i) := by
  have h2 := h.put hi hb
  refine ⟨by rw [flush_seen]; exact h2.len, by rw [flush_lasts]; exact h2.lasts, none_flush h2.fuse _, ?_, by rw [flush_stores]; exact h2.stores, fun x hx => by rw [flush_seen]; exact h2.words x hx⟩
  rw [flush_steps, store_steps]
  have := h.steps
  omega

/-- How many of L's bits ahead of i are 1. -/
def cnt (L : Int) : Nat → Nat
  | 0 => 0
  | i + 1 => cnt L i + if kbit L i then 1 else 0

theorem cnt_le (L : Int) : ∀ i, cnt L i ≤ i
  | 0 => Nat.le_refl _
  | i + 1 => by have := cnt_le L i; simp only [cnt]; split <;> omega

theorem UInv.unlike {L : Int} {M : Pm} (h : UInv L 8 M) (l : Nat) (hl : l < 8) : Go.Proofs.Ytghcommbflfbnaa.unlike M.seen M.lasts l = kbit L l := by
  unfold Go.Proofs.Ytghcommbflfbnaa.unlike
  cases hb : kbit L l with
  | true =>
    have : sameB (lineList M.seen l) (lineList M.lasts l) = false := by
      apply sameB_false (k := l)
      rw [wordAt_lineList hl, wordAt_lineList hl, h.lasts, wordAt_replicate, h.words _ (by omega), if_pos ⟨by omega, by rw [show (8 * l + l) / 8 = l from by omega]; exact hb, by omega⟩]
      omega
    rw [this]; rfl
  | false =>
    have : sameB (lineList M.seen l) (lineList M.lasts l) = true := by
      apply sameB_true
      · rw [lineList_length (by rw [h.len]; omega), lineList_length (by rw [h.lasts]; simp; omega)]
      · intro j hj
        rw [lineList_length (by rw [h.len]; omega)] at hj
        rw [wordAt_lineList hj, wordAt_lineList hj, h.lasts, wordAt_replicate, h.words _ (by omega), if_neg (by rw [show (8 * l + j) / 8 = l from by omega, hb]; simp)]
    rw [this]; rfl

theorem UInv.rank {L : Int} {M : Pm} (h : UInv L 8 M) : ∀ l, l ≤ 8 → Go.Proofs.Ytghcommbflfbnaa.rank M.seen M.lasts l = cnt L l
  | 0, _ => rfl
  | l + 1, hl => by
    simp only [Go.Proofs.Ytghcommbflfbnaa.rank, cnt, h.rank l (by omega), h.unlike l (by omega)]

/-- What the crash leaves of the word that was stored to. -/
theorem UInv.crashed {L : Int} {M : Pm} (h : UInv L 8 M) (hok : M.Ok) (keep : Int) (l : Nat) (hl : l < 8) :
    wordAt (M.crash keep).seen (8 * l + l) = if kbit L l = true ∧ 0 ≤ keep ∧ kbit keep (cnt L l) = true then 100 + (l : Int) else 0 := by
  have hwp : M.withPower = M.seen := by simp [Pm.withPower, h.fuse]
  have hc := cnt_le L l
  rw [crash_word hok (by rw [hwp]) keep _ (by rw [h.len]; omega), hwp, show (8 * l + l) / 8 = l from by omega, h.unlike l hl, h.rank l (by omega), Nat.mod_eq_of_lt (by omega), h.lasts, wordAt_replicate, h.words _ (by omega), show (8 * l + l) / 8 = l from by omega]
  by_cases hb : kbit L l = true
  · by_cases hk : 0 ≤ keep
    · rw [show max keep 0 = keep from by omega]
      by_cases h2 : kbit keep (cnt L l) = true
      · rw [if_pos ⟨hb, h2⟩, if_pos ⟨hl, hb, by omega⟩, if_pos ⟨hb, hk, h2⟩]
      · rw [if_neg (fun h3 => h2 h3.2), if_neg (fun h3 => h2 h3.2.2)]
    · rw [show max keep 0 = 0 from by omega, kbit_zero, if_neg (by simp), if_neg (fun h3 => hk h3.2.1)]
  · rw [if_neg (fun h3 => hb h3.1), if_neg (fun h3 => hb h3.1)]

/-- The law's two tests on a bit, as the walk spells them. -/
theorem bit_tests (L : Int) (i : Nat) : (kbit L i = true → (bits .and .i64 (L / 2 ^ i) 1 == 0) = false ∧ (bits .and .i64 (L / 2 ^ i) 1 == 1) = true) ∧
    (kbit L i = false → (bits .and .i64 (L / 2 ^ i) 1 == 0) = true ∧ (bits .and .i64 (L / 2 ^ i) 1 == 1) = false) := by
  unfold kbit
  rw [i64_and1]
  have : L / 2 ^ i % 2 = 0 ∨ L / 2 ^ i % 2 = 1 := by omega
  rcases this with h | h <;> rw [h] <;> simp

end Go.Proofs.Ytghcommbflfbnaa
