/-
  A fuse over rounds of Store, Flush, Fence: what lasts of them. Plain.
-/
import Derived.Test.YtghcommbflfbnaaSaved
namespace Go.Proofs.Ytghcommbflfbnaa

theorem i64_and15 (n : Int) : bits .and .i64 n 15 = n % 16 := by
  have h15 : (BitVec.ofInt 64 15).toNat = 2 ^ 4 - 1 := by decide
  have key : (BitVec.ofInt 64 n &&& BitVec.ofInt 64 15).toNat = (n % ((2 ^ 64 : Nat) : Int)).toNat % 2 ^ 4 := by
    rw [BitVec.toNat_and, BitVec.toNat_ofInt, h15, Nat.and_two_pow_sub_one_eq_mod]
  show IntKind.i64.wrap ((BitVec.ofInt 64 n &&& BitVec.ofInt 64 15).toNat : Nat) = n % 16
  rw [key, IntKind.wrap_i64]
  omega

theorem i64_and1 (n : Int) : bits .and .i64 n 1 = n % 2 := by
  have h1 : (BitVec.ofInt 64 1).toNat = 2 ^ 1 - 1 := by decide
  have key : (BitVec.ofInt 64 n &&& BitVec.ofInt 64 1).toNat = (n % ((2 ^ 64 : Nat) : Int)).toNat % 2 ^ 1 := by
    rw [BitVec.toNat_and, BitVec.toNat_ofInt, h1, Nat.and_two_pow_sub_one_eq_mod]
  show IntKind.i64.wrap ((BitVec.ofInt 64 n &&& BitVec.ofInt 64 1).toNat : Nat) = n % 2
  rw [key, IntKind.wrap_i64]
  omega

theorem kbit_eq (keep : Int) (j : Nat) : kbit keep j = decide (keep / 2 ^ j % 2 = 1) := by
  unfold kbit
  rw [i64_and1]
  by_cases h : keep / 2 ^ j % 2 = 1 <;> simp [h]

theorem wordAt_set (xs : List Int) (k i : Nat) (v : Int) (hk : k < xs.length) : wordAt (xs.set k v) i = if i = k then v else wordAt xs i := by
  unfold wordAt
  simp only [List.getD_eq_getElem?_getD, List.getElem?_set]
  by_cases h : k = i
  · subst h; simp [hk]
  · rw [if_neg h, if_neg (fun e => h e.symm)]

theorem wordAt_replicate (n i : Nat) : wordAt (List.replicate n 0) i = 0 := by
  unfold wordAt
  rw [List.getD_eq_getElem?_getD, List.getElem?_replicate]
  split <;> rfl

/-- Without power nothing but what is seen, and the counts. -/
theorem burnt_store {M : Pm} {xs : List Int} (h : M.fuse = some (.inr xs)) (k : Nat) (v : Int) : M.store k v = { M with stores := M.stores + 1, steps := M.steps + 1, seen := M.seen.set k v } := by
  simp [Pm.store, Pm.put, Pm.power, h, Pm.burn]

theorem burnt_flush {M : Pm} {xs : List Int} (h : M.fuse = some (.inr xs)) (l : Nat) : M.flush l = { M with steps := M.steps + 1 } := by
  simp [Pm.flush, Pm.send, Pm.power, h, Pm.burn]

theorem burnt_fence {M : Pm} {xs : List Int} (h : M.fuse = some (.inr xs)) : M.fence = { M with steps := M.steps + 1 } := by
  simp [Pm.fence, Pm.fenceIf, Pm.power, h, Pm.burn]

theorem lit_store {M : Pm} {f : Int} (h : M.fuse = some (.inl f)) (hw : M.way = []) (k : Nat) (v : Int) : M.store k v = ({ M with stores := M.stores + 1, steps := M.steps + 1, seen := M.seen.set k v } : Pm).light (f - 1) := by
  simp [Pm.store, Pm.put, Pm.power, h, hw, Pm.hold, wget, Pm.burn]

theorem lit_flush {M : Pm} {f : Int} (h : M.fuse = some (.inl f)) (l : Nat) : M.flush l = ({ M with steps := M.steps + 1, way := wput M.way l none } : Pm).light (f - 1) := by
  simp [Pm.flush, Pm.send, Pm.power, h, Pm.burn]

theorem lit_fence {M : Pm} {f : Int} (h : M.fuse = some (.inl f)) : M.fence = ({ M with steps := M.steps + 1, lasts := M.arrived, way := [] } : Pm).light (f - 1) := by
  simp [Pm.fence, Pm.fenceIf, Pm.power, h, Pm.fenced, Pm.burn]
  rfl

theorem light_on (M : Pm) {k : Int} (h : 0 < k) : M.light k = { M with fuse := some (.inl k) } := by simp [Pm.light, h]
theorem light_out (M : Pm) {k : Int} (h : ¬ 0 < k) : M.light k = { M with fuse := some (.inr M.seen), way := [] } := by simp [Pm.light, h]

/-- What holds behind i rounds under a fuse of c steps. -/
structure FInv (c : Int) (i : Nat) (M : Pm) : Prop where
  len : M.seen.length = 128
  llen : M.lasts.length = 128
  steps : M.steps = 3 * i
  stores : M.stores = i
  words : ∀ j : Nat, j < 16 → wordAt M.lasts (8 * j) = if j < i ∧ 3 * (j : Int) + 2 < c then (j : Int) + 1 else 0
  fuse : (M.fuse = some (.inl (c - 3 * i)) ∧ 0 < c - 3 * i ∧ M.way = []) ∨ ((∃ xs, M.fuse = some (.inr xs)) ∧ c ≤ 3 * i)

theorem FInv.start (c : Int) : FInv c 0 ((fresh 128).setFuse c) := by
  have hM : (fresh 128).setFuse c = (fresh 128).light c := by simp [Pm.setFuse, fresh, Pm.power]
  rw [hM]
  refine ⟨by rw [light_seen]; simp [fresh], by rw [light_lasts]; simp [fresh], by rw [light_steps]; simp [fresh], by rw [light_stores]; simp [fresh], fun j hj => ?_, ?_⟩
  · rw [light_lasts, if_neg (by omega)]
    exact wordAt_replicate 128 _
  · by_cases h : 0 < c
    · left
      rw [light_on _ h]
      exact ⟨by simp, by simpa using h, rfl⟩
    · right
      rw [light_out _ h]
      exact ⟨⟨_, rfl⟩, by simp; omega⟩

theorem FInv.next {c : Int} {i : Nat} {M : Pm} (h : FInv c i M) (hi : i < 16) : FInv c (i + 1) (((M.store (8 * i) ((i : Int) + 1)).flush i).fence) := by
  rcases h.fuse with ⟨hf, hp, hw⟩ | ⟨⟨xs, hf⟩, hc⟩
  · have e1 := lit_store hf hw (8 * i) ((i : Int) + 1)
    by_cases h1 : c - 3 * i = 1
    · rw [light_out _ (by omega)] at e1
      rw [e1, burnt_flush rfl, burnt_fence rfl]
      refine ⟨by simp [h.len], h.llen, by simp [h.steps]; omega, by simp [h.stores], fun j hj => ?_, Or.inr ⟨⟨_, rfl⟩, by simp; omega⟩⟩
      show wordAt M.lasts (8 * j) = _
      rw [h.words j hj]
      by_cases e : j = i
      · rw [if_neg (by omega), if_neg (by omega)]
      · congr 1; exact propext ⟨fun h2 => ⟨by omega, h2.2⟩, fun h2 => ⟨by omega, h2.2⟩⟩
    · rw [light_on _ (by omega)] at e1
      by_cases h2 : c - 3 * i = 2
      · have e2 := lit_flush (M := M.store (8 * i) ((i : Int) + 1)) (by rw [e1]) i
        rw [light_out _ (by omega)] at e2
        rw [e2, burnt_fence rfl]
        refine ⟨by rw [e1]; simp [h.len], by rw [e1]; exact h.llen, by rw [e1]; simp [h.steps]; omega, by rw [e1]; simp [h.stores], fun j hj => ?_, Or.inr ⟨⟨_, rfl⟩, by simp; omega⟩⟩
        rw [e1]
        show wordAt M.lasts (8 * j) = _
        rw [h.words j hj]
        by_cases e : j = i
        · rw [if_neg (by omega), if_neg (by omega)]
        · congr 1; exact propext ⟨fun h2 => ⟨by omega, h2.2⟩, fun h2 => ⟨by omega, h2.2⟩⟩
      · have e2 := lit_flush (M := M.store (8 * i) ((i : Int) + 1)) (by rw [e1]) i
        rw [light_on _ (by omega)] at e2
        have hway : ((M.store (8 * i) ((i : Int) + 1)).flush i).way = [(i, none)] := by rw [e2, e1]; simp [hw, wput]
        have hseen : ((M.store (8 * i) ((i : Int) + 1)).flush i).seen = M.seen.set (8 * i) ((i : Int) + 1) := by rw [e2, e1]
        have hlast : ((M.store (8 * i) ((i : Int) + 1)).flush i).lasts = M.lasts := by rw [e2, e1]
        have hfu : ((M.store (8 * i) ((i : Int) + 1)).flush i).fuse = some (.inl (c - 3 * i - 1 - 1)) := by rw [e2]
        have hst : ((M.store (8 * i) ((i : Int) + 1)).flush i).steps = 3 * i + 1 + 1 := by rw [e2, e1]; simp [h.steps]
        have hss : ((M.store (8 * i) ((i : Int) + 1)).flush i).stores = i + 1 := by rw [e2, e1]; simp [h.stores]
        generalize (M.store (8 * i) ((i : Int) + 1)).flush i = N at *
        have e3 := lit_fence hfu
        have hlen : N.seen.length = 128 := by rw [hseen]; simp [h.len]
        have hw3 : ∀ j : Nat, j < 16 → wordAt N.arrived (8 * j) = if j < i + 1 ∧ 3 * (j : Int) + 2 < c then (j : Int) + 1 else 0 := by
          intro j hj
          rw [Pm.arrived, wordAt_map _ _ (by omega)]
          unfold Pm.arrWord
          rw [hway, show 8 * j / 8 = j from by omega]
          simp only [wget]
          by_cases e : i = j
          · subst e
            simp only [if_true]
            rw [hseen, wordAt_set _ _ _ _ (by rw [h.len]; omega), if_pos rfl, if_pos ⟨by omega, by omega⟩]
          · rw [if_neg e]
            simp only []
            rw [hlast, h.words j hj]
            congr 1; exact propext ⟨fun h2 => ⟨by omega, h2.2⟩, fun h2 => ⟨by omega, h2.2⟩⟩
        have hla : N.arrived.length = 128 := by simp [Pm.arrived, hlen]
        by_cases h3 : 0 < c - 3 * i - 1 - 1 - 1
        · rw [light_on _ h3] at e3
          rw [e3]
          exact ⟨hlen, hla, by simp [hst]; omega, by simp [hss], hw3, Or.inl ⟨by simp; omega, by simp; omega, rfl⟩⟩
        · rw [light_out _ h3] at e3
          rw [e3]
          exact ⟨hlen, hla, by simp [hst]; omega, by simp [hss], hw3, Or.inr ⟨⟨_, rfl⟩, by simp; omega⟩⟩
  · have e1 := burnt_store hf (8 * i) ((i : Int) + 1)
    have e2 := burnt_flush (M := M.store (8 * i) ((i : Int) + 1)) (xs := xs) (by rw [e1]; exact hf) i
    have e3 := burnt_fence (M := (M.store (8 * i) ((i : Int) + 1)).flush i) (xs := xs) (by rw [e2, e1]; exact hf)
    rw [e3, e2, e1]
    refine ⟨by simp [h.len], h.llen, by simp [h.steps]; omega, by simp [h.stores], fun j hj => ?_, Or.inr ⟨⟨xs, hf⟩, by simp; omega⟩⟩
    show wordAt M.lasts (8 * j) = _
    rw [h.words j hj]
    by_cases e : j = i
    · rw [if_neg (by omega), if_neg (by omega)]
    · congr 1; exact propext ⟨fun h2 => ⟨by omega, h2.2⟩, fun h2 => ⟨by omega, h2.2⟩⟩

end Go.Proofs.Ytghcommbflfbnaa
