/-
  Rows of steps of a memory that lasts; what a crash leaves, wherever a fuse ends. Plain.
-/
import Derived.Test.YtpaefllhngbimaaSaved
namespace Go.Proofs.Ytpaefllhngbimaa
set_option linter.unusedVariables false

inductive Op where
  | st (k : Nat) (v : Int)
  | fl (l : Nat)
  | fe

def Pm.op (M : Pm) : Op → Pm
  | .st k v => M.store k v
  | .fl l => M.flush l
  | .fe => M.fence

def Pm.run (M : Pm) (os : List Op) : Pm := os.foldl Pm.op M

theorem run_nil (M : Pm) : M.run [] = M := rfl
theorem run_cons (M : Pm) (o : Op) (os : List Op) : M.run (o :: os) = (M.op o).run os := rfl
theorem run_append (M : Pm) (a b : List Op) : M.run (a ++ b) = (M.run a).run b := by simp [Pm.run]

/-- What is seen behind them. -/
def seenBy (X : List Int) : List Op → List Int
  | [] => X
  | .st k v :: r => seenBy (X.set k v) r
  | _ :: r => seenBy X r

theorem op_seen (M : Pm) (o : Op) : (M.op o).seen = seenBy M.seen [o] := by
  cases o with
  | st k v => simp [Pm.op, seenBy, store_seen]
  | fl l => simp [Pm.op, seenBy, flush_seen]
  | fe => simp [Pm.op, seenBy, fence_seen]

theorem seenBy_cons (X : List Int) (o : Op) (os : List Op) : seenBy X (o :: os) = seenBy (seenBy X [o]) os := by
  cases o <;> rfl

theorem run_seen (os : List Op) : ∀ M : Pm, (M.run os).seen = seenBy M.seen os := by
  induction os with
  | nil => intro M; rfl
  | cons o r ih => intro M; rw [run_cons, ih, op_seen, seenBy_cons M.seen o r]

theorem seenBy_append (a b : List Op) : ∀ X, seenBy X (a ++ b) = seenBy (seenBy X a) b := by
  induction a with
  | nil => intro X; rfl
  | cons o r ih => intro X; rw [List.cons_append, seenBy_cons, ih, seenBy_cons X o r]

theorem seenBy_length (os : List Op) : ∀ X, (seenBy X os).length = X.length := by
  induction os with
  | nil => intro X; rfl
  | cons o r ih => intro X; rw [seenBy_cons, ih]; cases o <;> simp [seenBy]

theorem op_steps (M : Pm) (o : Op) : (M.op o).steps = M.steps + 1 := by
  cases o <;> simp [Pm.op, store_steps, flush_steps, fence_steps]

theorem op_stores (M : Pm) (o : Op) : M.stores ≤ (M.op o).stores ∧ (M.op o).stores ≤ M.stores + 1 := by
  cases o <;> simp [Pm.op, store_stores, flush_stores, fence_stores] <;> omega

theorem run_steps (os : List Op) : ∀ M : Pm, (M.run os).steps = M.steps + os.length := by
  induction os with
  | nil => intro M; simp [run_nil]
  | cons o r ih => intro M; rw [run_cons, ih, op_steps]; simp; omega

theorem run_stores (os : List Op) : ∀ M : Pm, M.stores ≤ (M.run os).stores ∧ (M.run os).stores ≤ M.stores + os.length := by
  induction os with
  | nil => intro M; simp [run_nil]
  | cons o r ih =>
    intro M
    have h1 := ih (M.op o)
    have h2 := op_stores M o
    rw [run_cons]; simp only [List.length_cons]; omega

/-! ### Fuses -/

def Pm.cool (M : Pm) : Pm := { M with fuse := none }

/-- A fuse as it may be where all is quiet: none, burning, or at its end with what is seen. -/
def FuseOk (M : Pm) : Prop := M.fuse = none ∨ (∃ k, 0 < k ∧ M.fuse = some (.inl k)) ∨ M.fuse = some (.inr M.seen)

theorem op_burnt {M : Pm} {xs : List Int} (h : M.fuse = some (.inr xs)) (o : Op) : (M.op o).fuse = some (.inr xs) ∧ (M.op o).lasts = M.lasts := by
  cases o with
  | st k v => simp [Pm.op, Pm.store, Pm.put, Pm.power, h, Pm.burn]
  | fl l => simp [Pm.op, Pm.flush, Pm.send, Pm.power, h, Pm.burn]
  | fe => simp [Pm.op, Pm.fence, Pm.fenceIf, Pm.power, h, Pm.burn]

theorem run_burnt (os : List Op) : ∀ {M : Pm} {xs : List Int}, M.fuse = some (.inr xs) → (M.run os).fuse = some (.inr xs) ∧ (M.run os).lasts = M.lasts := by
  induction os with
  | nil => intro M xs h; exact ⟨h, rfl⟩
  | cons o r ih =>
    intro M xs h
    obtain ⟨h1, h2⟩ := op_burnt h o
    obtain ⟨h3, h4⟩ := ih h1
    exact ⟨h3, h4.trans h2⟩

/-- What a crash leaves hangs on three things. -/
theorem crash_same {M N : Pm} (h1 : M.withPower = N.withPower) (h2 : M.lasts = N.lasts) (h3 : M.seen.length = N.seen.length) (keep : Int) : (M.crash keep).seen = (N.crash keep).seen := by
  show M.saved keep = N.saved keep
  unfold Pm.saved
  rw [h1, h2, h3]

theorem op_burning {M : Pm} {k : Int} (h : M.fuse = some (.inl k)) (o : Op) : M.op o = (M.cool.op o).light (k - 1) := by
  cases o with
  | st a v =>
    cases hg : wget M.way (a / 8) with
    | none => simp [Pm.op, Pm.store, Pm.put, Pm.power, h, Pm.burn, Pm.cool, Pm.hold, hg, Pm.light]
    | some x => cases x <;> simp [Pm.op, Pm.store, Pm.put, Pm.power, h, Pm.burn, Pm.cool, Pm.hold, hg, Pm.light]
  | fl l => simp [Pm.op, Pm.flush, Pm.send, Pm.power, h, Pm.burn, Pm.cool, Pm.light]
  | fe => simp [Pm.op, Pm.fence, Pm.fenceIf, Pm.power, h, Pm.burn, Pm.cool, Pm.light, Pm.fenced, Pm.arrived, Pm.arrWord]

theorem op_none {M : Pm} (h : M.fuse = none) (o : Op) : (M.op o).fuse = none := by
  cases o with
  | st a v =>
    cases hg : wget M.way (a / 8) with
    | none => simp [Pm.op, Pm.store, Pm.put, Pm.power, h, Pm.burn, Pm.hold, hg]
    | some x => cases x <;> simp [Pm.op, Pm.store, Pm.put, Pm.power, h, Pm.burn, Pm.hold, hg]
  | fl l => simp [Pm.op, Pm.flush, Pm.send, Pm.power, h, Pm.burn]
  | fe => simp [Pm.op, Pm.fence, Pm.fenceIf, Pm.power, h, Pm.burn, Pm.fenced]

theorem run_none (os : List Op) : ∀ {M : Pm}, M.fuse = none → (M.run os).fuse = none := by
  induction os with
  | nil => intro M h; exact h
  | cons o r ih => intro M h; exact ih (op_none h o)

/-- Wherever a fuse ends, a crash leaves what it leaves behind so many steps with the power. -/
theorem run_crash (os : List Op) : ∀ {M : Pm}, FuseOk M → ∃ j, j ≤ os.length ∧ (M.fuse = none → j = os.length) ∧ ∀ keep, ((M.run os).crash keep).seen = ((M.cool.run (os.take j)).crash keep).seen := by
  induction os with
  | nil =>
    intro M h
    refine ⟨0, Nat.le_refl _, fun _ => rfl, fun keep => ?_⟩
    show (M.crash keep).seen = (M.cool.crash keep).seen
    refine crash_same (M := M) (N := M.cool) ?_ rfl rfl keep
    rcases h with h | ⟨k, hk, h⟩ | h <;> simp [Pm.withPower, Pm.cool, h]
  | cons o r ih =>
    intro M h
    rcases h with h | ⟨k, hk, h⟩ | h
    · have hc : M.cool = M := by
        cases M; simp only [Pm.cool] at *; subst h; rfl
      obtain ⟨j, h1, h2, h3⟩ := ih (M := M.op o) (Or.inl (op_none h o))
      have hj := h2 (op_none h o)
      have hc2 : (M.op o).cool = M.op o := by
        have := op_none h o
        generalize M.op o = N at *
        cases N; simp only [Pm.cool] at *; subst this; rfl
      refine ⟨j + 1, by simp; omega, fun _ => by simp [hj], fun keep => ?_⟩
      rw [run_cons, h3 keep, hc2, hc, List.take_succ_cons, run_cons]
    · have hop := op_burning h o
      by_cases hk1 : 0 < k - 1
      · have hl : (M.cool.op o).light (k - 1) = { M.cool.op o with fuse := some (.inl (k - 1)) } := by unfold Pm.light; rw [if_pos hk1]
        obtain ⟨j, h1, h2, h3⟩ := ih (M := M.op o) (Or.inr (Or.inl ⟨k - 1, hk1, by rw [hop, hl]⟩))
        have hc2 : (M.op o).cool = M.cool.op o := by
          have h0 : (M.cool.op o).fuse = none := op_none rfl o
          rw [hop, hl]
          generalize M.cool.op o = N at *
          cases N; simp only [Pm.cool] at *; subst h0; rfl
        refine ⟨j + 1, by simp; omega, fun h0 => (by rw [h] at h0; cases h0), fun keep => ?_⟩
        rw [run_cons, h3 keep, hc2, List.take_succ_cons, run_cons]
      · have hl : (M.cool.op o).light (k - 1) = { M.cool.op o with fuse := some (.inr (M.cool.op o).seen), way := [] } := by unfold Pm.light; rw [if_neg hk1]
        have hf : (M.op o).fuse = some (.inr (M.cool.op o).seen) := by rw [hop, hl]
        obtain ⟨h1, h2⟩ := run_burnt r hf
        refine ⟨1, by simp, fun h0 => (by rw [h] at h0; cases h0), fun keep => ?_⟩
        rw [run_cons, List.take_succ_cons, List.take_zero, run_cons, run_nil]
        refine crash_same ?_ ?_ ?_ keep
        · rw [Pm.withPower, h1]
          simp [Pm.withPower, op_none (M := M.cool) rfl o]
        · rw [h2, hop, hl]
        · rw [run_seen, seenBy_length, op_seen, op_seen, seenBy_length, seenBy_length]; rfl
    · obtain ⟨h1, h2⟩ := run_burnt (o :: r) h
      refine ⟨0, by simp, fun h0 => (by rw [h] at h0; cases h0), fun keep => ?_⟩
      rw [List.take_zero, run_nil]
      refine crash_same ?_ ?_ ?_ keep
      · rw [Pm.withPower, h1]; simp [Pm.withPower, Pm.cool]
      · rw [h2]; rfl
      · rw [run_seen, seenBy_length]; rfl

/-! ### Quiet: what is seen lasts, nothing is on its way -/

structure Clean (M : Pm) (X : List Int) : Prop where
  seen : M.seen = X
  lasts : M.lasts = X
  way : M.way = []

theorem Clean.cool {M : Pm} {X : List Int} (h : Clean M X) : Clean M.cool X := ⟨h.seen, h.lasts, h.way⟩

theorem unlike_self (X : List Int) (l : Nat) : unlike X X l = false := by simp [unlike, sameB]

theorem saveTo_self (X : List Int) (keep : Int) : ∀ l, (saveTo X X keep l).1 = X
  | 0 => rfl
  | l + 1 => by
    simp only [saveTo]
    have ih := saveTo_self X keep l
    rw [ih, if_pos (by simp [sameB])]
    exact ih

theorem crash_clean (M : Pm) (keep : Int) : Clean (M.crash keep) (M.crash keep).seen := ⟨rfl, rfl, rfl⟩

theorem crash_still {M : Pm} {X : List Int} (h1 : M.withPower = X) (h2 : M.lasts = X) (keep : Int) : (M.crash keep).seen = X := by
  show M.saved keep = X
  unfold Pm.saved
  rw [h1, h2]
  exact saveTo_self X _ _

theorem pl_store {M : Pm} (h : M.fuse = none) (hw : M.way = []) (k : Nat) (v : Int) : M.op (.st k v) = { M with stores := M.stores + 1, steps := M.steps + 1, seen := M.seen.set k v } := by
  simp [Pm.op, Pm.store, Pm.put, Pm.power, h, hw, Pm.hold, wget, Pm.burn]

theorem pl_flush {M : Pm} (h : M.fuse = none) (l : Nat) : M.op (.fl l) = { M with steps := M.steps + 1, way := wput M.way l none } := by
  simp [Pm.op, Pm.flush, Pm.send, Pm.power, h, Pm.burn]

theorem pl_fence {M : Pm} (h : M.fuse = none) : M.op .fe = { M with steps := M.steps + 1, lasts := M.arrived, way := [] } := by
  simp [Pm.op, Pm.fence, Pm.fenceIf, Pm.power, h, Pm.fenced, Pm.burn]
  rfl

/-- Stores into words from at on, cnt many. -/
def Sts (at_ cnt : Nat) (A : List Op) : Prop := ∀ o ∈ A, ∃ k v, o = .st k v ∧ at_ ≤ k ∧ k < at_ + cnt

/-- The lines of so many words, on their way. -/
def flOps (at_ cnt : Nat) : List Op := (List.range ((at_ + cnt + 7) / 8 - at_ / 8)).map fun i => .fl (at_ / 8 + i)

theorem wordAt_set (xs : List Int) (k i : Nat) (v : Int) (hk : k < xs.length) : wordAt (xs.set k v) i = if i = k then v else wordAt xs i := by
  unfold wordAt
  simp only [List.getD_eq_getElem?_getD, List.getElem?_set]
  by_cases e : k = i
  · subst e; simp [hk]
  · rw [if_neg e, if_neg (fun h => e h.symm)]

theorem seenBy_sts {at_ cnt : Nat} : ∀ {A : List Op} {X : List Int}, Sts at_ cnt A → at_ + cnt ≤ X.length → ∀ i, ¬ (at_ ≤ i ∧ i < at_ + cnt) → wordAt (seenBy X A) i = wordAt X i
  | [], X, _, _, _, _ => rfl
  | o :: r, X, h, hl, i, hi => by
    obtain ⟨k, v, rfl, h1, h2⟩ := h o (by simp)
    rw [seenBy]
    rw [seenBy_sts (fun o ho => h o (by simp [ho])) (by simpa using hl) i hi, wordAt_set _ _ _ _ (by omega), if_neg (by omega)]

theorem run_sts {at_ cnt : Nat} : ∀ {A : List Op} {M : Pm}, Sts at_ cnt A → M.fuse = none → M.way = [] → (M.run A).fuse = none ∧ (M.run A).way = [] ∧ (M.run A).lasts = M.lasts
  | [], M, _, h, hw => ⟨h, hw, rfl⟩
  | o :: r, M, hs, h, hw => by
    obtain ⟨k, v, rfl, -, -⟩ := hs o (by simp)
    rw [run_cons, pl_store h hw]
    exact run_sts (M := { M with stores := M.stores + 1, steps := M.steps + 1, seen := M.seen.set k v }) (fun o ho => hs o (by simp [ho])) h hw

/-- The lines from l on, n many, sent on their way. -/
theorem run_fls (l : Nat) : ∀ (n : Nat) {M : Pm}, M.fuse = none → M.way = [] →
    (M.run ((List.range n).map fun i => Op.fl (l + i))).fuse = none ∧ (M.run ((List.range n).map fun i => Op.fl (l + i))).lasts = M.lasts ∧ (M.run ((List.range n).map fun i => Op.fl (l + i))).seen = M.seen ∧
    ∀ x, wget (M.run ((List.range n).map fun i => Op.fl (l + i))).way x = if l ≤ x ∧ x < l + n then some none else none
  | 0, M, h, hw => ⟨h, rfl, rfl, fun x => by rw [if_neg (by omega)]; show wget M.way x = none; rw [hw]; rfl⟩
  | n + 1, M, h, hw => by
    obtain ⟨h1, h2, h3, h4⟩ := run_fls l n h hw
    rw [List.range_succ, List.map_append, run_append]
    generalize M.run ((List.range n).map fun i => Op.fl (l + i)) = N at *
    simp only [List.map_cons, List.map_nil]
    rw [run_cons, run_nil, pl_flush h1]
    refine ⟨h1, h2, h3, fun x => ?_⟩
    show wget (wput N.way (l + n) none) x = _
    rw [wget_wput, h4]
    by_cases e : x = l + n
    · rw [if_pos e, if_pos (by omega)]
    · rw [if_neg e]
      congr 1; exact propext ⟨fun h => by omega, fun h => by omega⟩

/-- What a crash leaves, word by word: what is seen, or what lasts. -/
theorem crash_either {M : Pm} (h : M.fuse = none) (hl : M.lasts.length = M.seen.length) (h8 : M.seen.length % 8 = 0) (keep : Int) (i : Nat) (hi : i < M.seen.length) :
    wordAt (M.crash keep).seen i = wordAt M.seen i ∨ wordAt (M.crash keep).seen i = wordAt M.lasts i := by
  show wordAt (saveTo M.withPower M.lasts (max keep 0) (M.seen.length / 8)).1 i = _ ∨ wordAt (saveTo M.withPower M.lasts (max keep 0) (M.seen.length / 8)).1 i = _
  have hp : M.withPower = M.seen := by simp [Pm.withPower, h]
  rw [hp, saveTo_word rfl hl _ _ (by omega) i hi]
  split
  · exact Or.inl rfl
  · exact Or.inr rfl

theorem crash_len {M : Pm} (h : M.fuse = none) (hl : M.lasts.length = M.seen.length) (h8 : M.seen.length % 8 = 0) (keep : Int) : (M.crash keep).seen.length = M.seen.length := by
  show (saveTo M.withPower M.lasts (max keep 0) (M.seen.length / 8)).1.length = _
  have hp : M.withPower = M.seen := by simp [Pm.withPower, h]
  rw [hp]
  exact saveTo_length rfl hl _ _ (by omega)

/-- Behind stores, flushes of their lines and a fence all that is seen lasts. -/
theorem commit {M : Pm} {X : List Int} (h : Clean M X) (hf : M.fuse = none) {at_ cnt : Nat} {A : List Op} (hA : Sts at_ cnt A) (hl : at_ + cnt ≤ X.length) :
    Clean (M.run (A ++ flOps at_ cnt ++ [.fe])) (seenBy X A) := by
  obtain ⟨a1, a2, a3⟩ := run_sts hA hf h.way
  have a4 := run_seen A M
  rw [h.seen] at a4
  rw [h.lasts] at a3
  rw [run_append, run_append]
  generalize hN : M.run A = N at *
  obtain ⟨f1, f2, f3, f4⟩ := run_fls (at_ / 8) ((at_ + cnt + 7) / 8 - at_ / 8) a1 a2
  unfold flOps
  generalize N.run ((List.range ((at_ + cnt + 7) / 8 - at_ / 8)).map fun i => Op.fl (at_ / 8 + i)) = R at *
  rw [run_cons, run_nil, pl_fence f1]
  refine ⟨f3.trans a4, ?_, rfl⟩
  show R.arrived = _
  have hlen : R.seen.length = X.length := by rw [f3, a4, seenBy_length]
  apply ext_word
  · simp [Pm.arrived, hlen, seenBy_length]
  · intro i hi
    have hi2 : i < X.length := by simpa [Pm.arrived, hlen] using hi
    rw [Pm.arrived, wordAt_map _ _ (by omega)]
    unfold Pm.arrWord
    rw [f4]
    by_cases e : at_ / 8 ≤ i / 8 ∧ i / 8 < at_ / 8 + ((at_ + cnt + 7) / 8 - at_ / 8)
    · rw [if_pos e, f3, a4]
    · rw [if_neg e]
      show wordAt R.lasts i = _
      rw [f2, a3, seenBy_sts hA hl i (by omega)]

theorem take_sts {at_ cnt : Nat} {A : List Op} (h : Sts at_ cnt A) (j : Nat) : Sts at_ cnt (A.take j) := fun o ho => h o (List.mem_of_mem_take ho)

/-- Ahead of the fence a crash leaves all words but those. -/
theorem commit_cut {M : Pm} {X : List Int} (h : Clean M X) (hf : M.fuse = none) (h8 : X.length % 8 = 0) {at_ cnt : Nat} {A : List Op} (hA : Sts at_ cnt A) (hl : at_ + cnt ≤ X.length) (j : Nat) (keep : Int) :
    ((M.run ((A ++ flOps at_ cnt).take j)).crash keep).seen.length = X.length ∧ ∀ i, i < X.length →
      wordAt ((M.run ((A ++ flOps at_ cnt).take j)).crash keep).seen i = wordAt X i ∨ (∃ jj, wordAt ((M.run ((A ++ flOps at_ cnt).take j)).crash keep).seen i = wordAt (seenBy X (A.take jj)) i) := by
  rw [List.take_append, run_append]
  obtain ⟨a1, a2, a3⟩ := run_sts (take_sts hA j) hf h.way
  have a4 := run_seen (A.take j) M
  rw [h.seen] at a4
  rw [h.lasts] at a3
  generalize hN : M.run (A.take j) = N at *
  unfold flOps
  rw [← List.map_take, List.take_range]
  obtain ⟨f1, f2, f3, f4⟩ := run_fls (at_ / 8) (min (j - A.length) ((at_ + cnt + 7) / 8 - at_ / 8)) a1 a2
  generalize N.run ((List.range (min (j - A.length) ((at_ + cnt + 7) / 8 - at_ / 8))).map fun i => Op.fl (at_ / 8 + i)) = R at *
  have hlen : R.seen.length = X.length := by rw [f3, a4, seenBy_length]
  have hll : R.lasts.length = R.seen.length := by rw [hlen, f2, a3]
  refine ⟨by rw [crash_len f1 hll (by omega)]; exact hlen, fun i hi => ?_⟩
  rcases crash_either f1 hll (by omega) keep i (by omega) with e | e
  · exact Or.inr ⟨j, by rw [e, f3, a4]⟩
  · exact Or.inl (by rw [e, f2, a3])

end Go.Proofs.Ytpaefllhngbimaa
