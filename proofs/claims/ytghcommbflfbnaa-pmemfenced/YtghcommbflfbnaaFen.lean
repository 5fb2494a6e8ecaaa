/-
  Words stored, flushed, fenced; one line stored to again; a crash. Plain.
-/
import Derived.Test.YtghcommbflfbnaaUnf
namespace Go.Proofs.Ytghcommbflfbnaa

/-- Behind i stores of the words V. -/
structure S1 (V : Nat → Int) (i : Nat) (M : Pm) : Prop where
  len : M.seen.length = 64
  llen : M.lasts.length = 64
  fuse : M.fuse = none
  way : M.way = []
  steps : M.steps = i
  stores : M.stores = i
  words : ∀ x : Nat, x < 64 → wordAt M.seen x = if x < i then V x else 0

theorem S1.start (V : Nat → Int) : S1 V 0 (fresh 64) :=
  ⟨by simp [fresh], by simp [fresh], rfl, rfl, rfl, rfl, fun x hx => by rw [if_neg (by omega)]; exact wordAt_replicate 64 x⟩

theorem plain_store {M : Pm} (h : M.fuse = none) (hw : M.way = []) (k : Nat) (v : Int) : M.store k v = { M with stores := M.stores + 1, steps := M.steps + 1, seen := M.seen.set k v } := by
  simp [Pm.store, Pm.put, Pm.power, h, hw, Pm.hold, wget, Pm.burn]

theorem plain_flush {M : Pm} (h : M.fuse = none) (l : Nat) : M.flush l = { M with steps := M.steps + 1, way := wput M.way l none } := by
  simp [Pm.flush, Pm.send, Pm.power, h, Pm.burn]

theorem plain_fence {M : Pm} (h : M.fuse = none) : M.fence = { M with steps := M.steps + 1, lasts := M.arrived, way := [] } := by
  simp [Pm.fence, Pm.fenceIf, Pm.power, h, Pm.fenced, Pm.burn]
  rfl

theorem S1.next {V : Nat → Int} {i : Nat} {M : Pm} (h : S1 V i M) (hi : i < 64) : S1 V (i + 1) (M.store i (V i)) := by
  rw [plain_store h.fuse h.way]
  refine ⟨by simp [h.len], h.llen, h.fuse, h.way, by simp [h.steps], by simp [h.stores], fun x hx => ?_⟩
  show wordAt (M.seen.set i (V i)) x = _
  rw [wordAt_set _ _ _ _ (by rw [h.len]; exact hi), h.words x hx]
  by_cases e : x = i
  · subst e; rw [if_pos rfl, if_pos (by omega)]
  · rw [if_neg e]
    congr 1; exact propext ⟨fun h2 => by omega, fun h2 => by omega⟩

/-- Behind the flush of i lines. -/
structure S2 (U : Nat → Int) (m i : Nat) (M : Pm) : Prop where
  len : M.seen.length = 64
  llen : M.lasts.length = 64
  fuse : M.fuse = none
  way : ∀ l : Nat, wget M.way l = if l < i then some none else none
  steps : M.steps = m + i
  stores : M.stores = m
  words : ∀ x : Nat, x < 64 → wordAt M.seen x = U x

theorem S1.then {V : Nat → Int} {i : Nat} {M : Pm} (h : S1 V i M) : S2 (fun x => if x < i then V x else 0) i 0 M :=
  ⟨h.len, h.llen, h.fuse, fun l => by rw [h.way, if_neg (by omega)]; rfl, by rw [h.steps]; simp, h.stores, h.words⟩

theorem S2.next {U : Nat → Int} {m i : Nat} {M : Pm} (h : S2 U m i M) : S2 U m (i + 1) (M.flush i) := by
  rw [plain_flush h.fuse]
  refine ⟨h.len, h.llen, h.fuse, fun l => ?_, by simp [h.steps]; omega, h.stores, h.words⟩
  show wget (wput M.way i none) l = _
  rw [wget_wput, h.way l]
  by_cases e : l = i
  · rw [if_pos e, if_pos (by omega)]
  · rw [if_neg e]
    by_cases e2 : l < i
    · rw [if_pos e2, if_pos (by omega)]
    · rw [if_neg e2, if_neg (by omega)]

/-- Behind the fence and i stores into line k. -/
structure S3 (U : Nat → Int) (m k i : Nat) (M : Pm) : Prop where
  len : M.seen.length = 64
  llen : M.lasts.length = 64
  fuse : M.fuse = none
  way : M.way = []
  steps : M.steps = m + 9 + i
  stores : M.stores = m + i
  seen : ∀ x : Nat, x < 64 → wordAt M.seen x = if x / 8 = k ∧ x % 8 < i then 1000 + ((x % 8 : Nat) : Int) else U x
  lasts : ∀ x : Nat, x < 64 → wordAt M.lasts x = U x

theorem S2.then {U : Nat → Int} {m : Nat} {M : Pm} (h : S2 U m 8 M) (k : Nat) : S3 U m k 0 M.fence := by
  rw [plain_fence h.fuse]
  refine ⟨h.len, by simp [Pm.arrived, h.len], h.fuse, rfl, by simp [h.steps]; omega, by simp [h.stores], fun x hx => by rw [if_neg (by omega)]; exact h.words x hx, fun x hx => ?_⟩
  show wordAt M.arrived x = U x
  rw [Pm.arrived, wordAt_map _ _ (by rw [h.len]; exact hx)]
  unfold Pm.arrWord
  rw [h.way, if_pos (by omega)]
  exact h.words x hx

theorem S3.next {U : Nat → Int} {m k i : Nat} {M : Pm} (h : S3 U m k i M) (hk : k < 8) (hi : i < 8) : S3 U m k (i + 1) (M.store (8 * k + i) (1000 + (i : Int))) := by
  rw [plain_store h.fuse h.way]
  refine ⟨by simp [h.len], h.llen, h.fuse, h.way, by simp [h.steps]; omega, by simp [h.stores]; omega, fun x hx => ?_, h.lasts⟩
  show wordAt (M.seen.set (8 * k + i) (1000 + (i : Int))) x = _
  rw [wordAt_set _ _ _ _ (by rw [h.len]; omega), h.seen x hx]
  by_cases e : x = 8 * k + i
  · rw [if_pos e, if_pos (by omega), show x % 8 = i from by omega]
  · rw [if_neg e]
    congr 1; exact propext ⟨fun h2 => by omega, fun h2 => by omega⟩

theorem S3.same {U : Nat → Int} {m k : Nat} {M : Pm} (h : S3 U m k 8 M) (l : Nat) (hl : l < 8) (hne : l ≠ k) : unlike M.seen M.lasts l = false := by
  unfold unlike
  have : sameB (lineList M.seen l) (lineList M.lasts l) = true := by
    apply sameB_true
    · rw [lineList_length (by rw [h.len]; omega), lineList_length (by rw [h.llen]; omega)]
    · intro j hj
      rw [lineList_length (by rw [h.len]; omega)] at hj
      rw [wordAt_lineList hj, wordAt_lineList hj, h.lasts _ (by omega), h.seen _ (by omega), if_neg (by omega)]
  rw [this]; rfl

theorem S3.rank {U : Nat → Int} {m k : Nat} {M : Pm} (h : S3 U m k 8 M) (hk : k < 8) : ∀ l, l ≤ k → Go.Proofs.Ytghcommbflfbnaa.rank M.seen M.lasts l = 0
  | 0, _ => rfl
  | l + 1, hl => by
    simp only [Go.Proofs.Ytghcommbflfbnaa.rank, h.rank hk l (by omega), h.same l (by omega) (by omega)]
    rfl

/-- What the crash leaves. -/
theorem S3.crashed {U : Nat → Int} {m k : Nat} {M : Pm} (h : S3 U m k 8 M) (hok : M.Ok) (hk : k < 8) (keep : Int) (x : Nat) (hx : x < 64) :
    wordAt (M.crash keep).seen x = if x / 8 = k ∧ 0 ≤ keep ∧ keep % 2 = 1 then 1000 + ((x % 8 : Nat) : Int) else U x := by
  have hwp : M.withPower = M.seen := by simp [Pm.withPower, h.fuse]
  rw [crash_word hok (by rw [hwp]) keep x (by rw [h.len]; exact hx), hwp, h.lasts x hx]
  by_cases e : x / 8 = k
  · rw [e, h.rank hk k (Nat.le_refl _)]
    have hb : kbit (max keep 0) (0 % 60) = true ↔ 0 ≤ keep ∧ keep % 2 = 1 := by
      rw [kbit_eq]
      simp
      omega
    by_cases hq : 0 ≤ keep ∧ keep % 2 = 1
    · cases hu : unlike M.seen M.lasts k with
      | true => rw [if_pos ⟨rfl, hb.2 hq⟩, if_pos ⟨rfl, hq⟩, h.seen x hx, if_pos ⟨e, by omega⟩]
      | false =>
        rw [if_neg (by simp), if_pos ⟨rfl, hq⟩]
        unfold unlike at hu
        have hs : lineList M.seen k = lineList M.lasts k := by simpa [sameB] using hu
        have h1 : wordAt (lineList M.seen k) (x % 8) = wordAt (lineList M.lasts k) (x % 8) := by rw [hs]
        rw [wordAt_lineList (by omega), wordAt_lineList (by omega), show 8 * k + x % 8 = x from by omega, h.seen x hx, if_pos ⟨e, by omega⟩, h.lasts x hx] at h1
        exact h1.symm
    · rw [if_neg (fun h3 => hq (hb.1 h3.2)), if_neg (fun h3 => hq h3.2)]
  · rw [h.same _ (by omega) e, if_neg (by simp), if_neg (fun h3 => e h3.1)]

end Go.Proofs.Ytghcommbflfbnaa
