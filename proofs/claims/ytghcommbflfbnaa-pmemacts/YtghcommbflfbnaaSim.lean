/-
  The memory and the reference memory side by side, as plain states.
-/
import Derived.Test.YtghcommbflfbnaaRef7
import Derived.Test.YtghcommbflfbnaaFacts
import Derived.Test.YtghcommbflfbnaaFuse2
namespace Go.Proofs.Ytghcommbflfbnaa

/-- What is on its way of a line, as the reference holds it. -/
def sent (xs : List Int) (l : Nat) : Option (List Int) → List Int
  | none => lineList xs l
  | some ws => ws

def FuseSim (d : Int) (F : Option (Int ⊕ List Int)) (R : Rf) : Prop := match F with
  | none => R.fuse = false ∧ R.thn = none
  | some (.inl k) => R.fuse = true ∧ R.left = k - d ∧ 0 < k ∧ R.thn = none
  | some (.inr xs) => R.fuse = true ∧ R.left = 0 ∧ R.thn = some xs

/-- d = 0: between two calls; d = 1: amid a step, once it is counted. -/
structure Sim (d : Int) (M : Pm) (R : Rf) : Prop where
  seen : R.seen = M.seen
  last : R.last = M.lasts
  steps : R.steps = M.steps
  many : R.many = M.stores
  fuse : FuseSim d M.fuse R
  going : M.power = true → ∀ l, 8 * l + 8 ≤ M.seen.length → R.going.getD l false = (wget M.way l).isSome ∧ ∀ x, wget M.way l = some x → lineList R.way l = sent M.seen l x

theorem power_fuse {A B : Pm} (h : A.fuse = B.fuse) : A.power = B.power := by simp only [Pm.power, h]

theorem sim_canWork {M : Pm} {R : Rf} (h : Sim 0 M R) : R.canWork = M.power := by
  have hf := h.fuse
  unfold FuseSim at hf
  unfold Rf.canWork Pm.power
  split at hf
  · rename_i e; simp [e, hf.1]
  · rename_i k e; rw [e]; simp only [hf.1]; have h2 := hf.2.1; have h3 := hf.2.2.1; simp; omega
  · rename_i xs e; rw [e]; simp [hf.1, hf.2.1]

theorem sim_worked {M : Pm} {R : Rf} (h : Sim 0 M R) : Sim 1 { M with steps := M.steps + 1 } R.worked := by
  refine ⟨h.seen, h.last, by simp [Rf.worked, h.steps], h.many, ?_, h.going⟩
  have hf := h.fuse
  unfold FuseSim at hf ⊢
  simp only
  split at hf
  · exact hf
  · rename_i k e
    obtain ⟨h1, h2, h3, h4⟩ := hf
    refine ⟨h1, ?_, h3, h4⟩
    simp only [Rf.worked, h1, Bool.true_and]
    rw [if_pos (by simp; omega)]
    omega
  · rename_i xs e
    obtain ⟨h1, h2, h3⟩ := hf
    exact ⟨h1, by simp [Rf.worked, h2], h3⟩

theorem sim_mark {M : Pm} {R : Rf} (h : Sim 1 M R) : Sim 0 M.burn R.mark := by
  have hf := h.fuse
  unfold FuseSim at hf
  split at hf
  · rename_i e
    have h1 : M.burn = M := by simp [Pm.burn, e]
    have h2 : R.mark = R := by simp [Rf.mark, hf.1]
    rw [h1, h2]
    exact ⟨h.seen, h.last, h.steps, h.many, by rw [e]; exact hf, h.going⟩
  · rename_i k e
    obtain ⟨f1, f2, f3, f4⟩ := hf
    by_cases hk : 0 < k - 1
    · have h1 : M.burn = { M with fuse := some (.inl (k - 1)) } := by simp only [Pm.burn, e, Pm.light]; rw [if_pos hk]
      have h2 : R.mark = R := by
        unfold Rf.mark
        rw [if_neg]
        simp; omega
      rw [h1, h2]
      exact ⟨h.seen, h.last, h.steps, h.many, ⟨f1, by omega, hk, f4⟩, fun _ => h.going (by simp [Pm.power, e])⟩
    · have h1 : M.burn = { M with fuse := some (.inr M.seen), way := [] } := by simp only [Pm.burn, e, Pm.light]; rw [if_neg hk]
      have h2 : R.mark = { R with thn := some R.seen } := by
        unfold Rf.mark
        rw [if_pos]
        simp [f1, f4]; omega
      rw [h1, h2]
      exact ⟨h.seen, h.last, h.steps, h.many, ⟨f1, by simp only; omega, by simp [h.seen]⟩, fun hp => by simp [Pm.power] at hp⟩
  · rename_i xs e
    have h1 : M.burn = M := by simp [Pm.burn, e]
    have h2 : R.mark = R := by simp [Rf.mark, hf.2.2]
    rw [h1, h2]
    exact ⟨h.seen, h.last, h.steps, h.many, by rw [e]; exact hf, h.going⟩

theorem lineList_set_other {xs : List Int} {k l : Nat} (v : Int) (h : l ≠ k / 8) (hl : 8 * l + 8 ≤ xs.length) (hk : k < xs.length) : lineList (xs.set k v) l = lineList xs l := by
  apply ext_word
  · rw [lineList_length (by simpa using hl), lineList_length hl]
  · intro j hj
    rw [lineList_length (by simpa using hl)] at hj
    rw [wordAt_lineList hj, wordAt_lineList hj, wordAt_set _ _ _ _ hk, if_neg (by omega)]

theorem sim_store {M : Pm} {R : Rf} (h : Sim 0 M R) (k : Nat) (v : Int) (hk : k < M.seen.length) : Sim 0 (M.store k v) (R.store k v) := by
  have hw := sim_worked h
  refine sim_mark ?_
  have hfu : (({ M with stores := M.stores + 1, steps := M.steps + 1 } : Pm).put M.power k v).fuse = M.fuse := by
    cases hp : M.power <;> simp [Pm.put, hold_fuse]
  refine ⟨?_, ?_, ?_, ?_, ?_, ?_⟩
  · rw [put_seen]; simp [h.seen]
  · rw [put_lasts]; exact h.last
  · rw [put_steps]; simp [Rf.worked, h.steps]
  · rw [put_stores]; simp [h.many]
  · rw [hfu]
    have := hw.fuse
    simpa only [FuseSim] using this
  · intro hp l hl
    have hp1 : M.power = true := by rw [← power_fuse hfu]; exact hp
    rw [put_seen, List.length_set] at hl
    simp only at hl
    have hg := h.going hp1 l hl
    rw [put_seen, hp1]
    simp only [Pm.put, if_true, Pm.hold]
    split
    · rename_i hx
      simp only at hx ⊢
      rw [wget_wput]
      by_cases hlk : l = k / 8
      · rw [if_pos hlk]
        subst hlk
        refine ⟨by rw [hx] at hg; simpa [Rf.worked] using hg.1, fun x hx2 => ?_⟩
        simp only [Option.some.injEq] at hx2
        subst hx2
        have := hg.2 none hx
        simpa [Rf.worked, sent] using this
      · rw [if_neg hlk]
        refine ⟨by simpa [Rf.worked] using hg.1, fun x hx2 => ?_⟩
        have := hg.2 x hx2
        cases x with
        | none => simp only [sent] at this ⊢; rw [lineList_set_other v hlk hl hk]; exact this
        | some ws => exact this
    · rename_i hx
      simp only at hx ⊢
      refine ⟨by simpa [Rf.worked] using hg.1, fun x hx2 => ?_⟩
      have := hg.2 x hx2
      cases x with
      | none =>
        have hlk : l ≠ k / 8 := fun e => hx (by rw [← e]; exact hx2)
        simp only [sent] at this ⊢
        rw [lineList_set_other v hlk hl hk]; exact this
      | some ws => exact this

theorem lineList_setLine {ys xs : List Int} {l : Nat} (hx : xs.length = 8) (hl : 8 * l + 8 ≤ ys.length) : lineList (setLine ys l xs) l = xs := by
  apply ext_word
  · rw [lineList_length (by rw [setLine_length hx hl]; exact hl), hx]
  · intro j hj
    rw [lineList_length (by rw [setLine_length hx hl]; exact hl)] at hj
    rw [wordAt_lineList hj, wordAt_setLine hx hl, if_pos (by omega)]
    congr 1; omega

theorem sim_flush {M : Pm} {R : Rf} (h : Sim 0 M R) (hR : R.Ok) (l : Nat) (hl : 8 * l + 8 ≤ M.seen.length) : Sim 0 (M.flush l) (R.flush l) := by
  have hw := sim_worked h
  refine sim_mark ?_
  rw [sim_canWork h]
  cases hp : M.power with
  | false => simpa [Pm.send] using hw
  | true =>
    simp only [Pm.send, if_true]
    refine ⟨hw.seen, hw.last, hw.steps, hw.many, by simpa only [FuseSim] using hw.fuse, ?_⟩
    intro hp2 k hk
    simp only at hk ⊢
    have hg := h.going hp k hk
    have hlR : 8 * l + 8 ≤ R.way.length := by rw [hR.wlen, h.seen]; exact hl
    have hsl : (lineList R.seen l).length = 8 := lineList_length (by rw [h.seen]; exact hl)
    rw [wget_wput]
    by_cases hkl : k = l
    · subst hkl
      rw [if_pos rfl]
      refine ⟨?_, fun x hx => ?_⟩
      · have : k < R.going.length := by rw [hR.glen, h.seen]; omega
        simp [this]
      · simp only [Option.some.injEq] at hx
        subst hx
        rw [lineList_setLine hsl hlR, h.seen]
        rfl
    · rw [if_neg hkl]
      refine ⟨?_, fun x hx => ?_⟩
      · rw [← hg.1]
        simp only [List.getD_eq_getElem?_getD]
        rw [List.getElem?_set_ne (fun e => hkl e.symm)]
      · rw [lineList_setLine_other hsl hlR (by rw [hR.wlen, h.seen]; exact hk) hkl]
        exact hg.2 x hx

/-- The reference's fence, line by line: what has arrived. -/
theorem arr_spec {R : Rf} (hR : R.Ok) : ∀ i, 8 * i ≤ R.seen.length →
    (R.arr i).way = R.way ∧ (R.arr i).fuse = R.fuse ∧ (R.arr i).left = R.left ∧ (R.arr i).thn = R.thn ∧ (R.arr i).steps = R.steps ∧ (R.arr i).many = R.many ∧
    (R.arr i).last.length = R.seen.length ∧ (R.arr i).going.length = R.going.length ∧
    (∀ l, (R.arr i).going.getD l false = if l < i then false else R.going.getD l false) ∧
    (∀ j, j < R.seen.length → wordAt (R.arr i).last j = if j / 8 < i then (if R.going.getD (j / 8) false then wordAt R.way j else wordAt R.last j) else wordAt R.last j)
  | 0, _ => ⟨rfl, rfl, rfl, rfl, rfl, rfl, hR.llen, rfl, fun l => by simp [Rf.arr], fun j _ => by simp [Rf.arr]⟩
  | i + 1, hi => by
    obtain ⟨a1, a2, a3, a4, a5, a6, a7, a8, a9, a10⟩ := arr_spec hR i (by omega)
    have hgi : (R.arr i).going.getD i false = R.going.getD i false := by rw [a9, if_neg (by omega)]
    have hll : (lineList (R.arr i).way i).length = 8 := lineList_length (by rw [a1, hR.wlen]; omega)
    simp only [Rf.arr]
    rw [hgi]
    cases hg : R.going.getD i false with
    | true =>
      simp only [if_true]
      refine ⟨a1, a2, a3, a4, a5, a6, ?_, ?_, ?_, ?_⟩
      · rw [setLine_length hll (by omega)]; exact a7
      · simp [a8]
      · intro l
        by_cases hli : l = i
        · subst hli
          rw [if_pos (by omega)]
          simp only [List.getD_eq_getElem?_getD, List.getElem?_set, if_true]
          split <;> rfl
        · have h1 : ((R.arr i).going.set i false).getD l false = (R.arr i).going.getD l false := by
            simp only [List.getD_eq_getElem?_getD]
            rw [List.getElem?_set_ne (fun e => hli e.symm)]
          rw [h1, a9]
          by_cases h2 : l < i
          · rw [if_pos h2, if_pos (by omega)]
          · rw [if_neg h2, if_neg (by omega)]
      · intro j hj
        rw [wordAt_setLine hll (by omega)]
        by_cases hji : j / 8 = i
        · rw [if_pos hji, if_pos (show j / 8 < i + 1 by omega), hji, hg, if_pos rfl, wordAt_lineList (by omega), a1]
          congr 1; omega
        · rw [if_neg hji, a10 j hj]
          by_cases h2 : j / 8 < i
          · rw [if_pos h2, if_pos (show j / 8 < i + 1 by omega)]
          · rw [if_neg h2, if_neg (show ¬ j / 8 < i + 1 by omega)]
    | false =>
      simp only [Bool.false_eq_true, if_false]
      refine ⟨a1, a2, a3, a4, a5, a6, a7, a8, ?_, ?_⟩
      · intro l
        rw [a9]
        by_cases h2 : l < i
        · rw [if_pos h2, if_pos (by omega)]
        · rw [if_neg h2]
          by_cases h3 : l = i
          · subst h3; rw [if_pos (by omega), hg]
          · rw [if_neg (by omega)]
      · intro j hj
        rw [a10 j hj]
        by_cases h2 : j / 8 < i
        · rw [if_pos h2, if_pos (show j / 8 < i + 1 by omega)]
        · rw [if_neg h2]
          by_cases h3 : j / 8 = i
          · rw [if_pos (show j / 8 < i + 1 by omega), h3, hg]; simp
          · rw [if_neg (show ¬ j / 8 < i + 1 by omega)]

theorem sim_fence {M : Pm} {R : Rf} (h : Sim 0 M R) (hR : R.Ok) (hM : M.Ok) : Sim 0 M.fence R.fence := by
  have hw := sim_worked h
  refine sim_mark ?_
  rw [sim_canWork h]
  cases hp : M.power with
  | false => simpa [Pm.fenceIf] using hw
  | true =>
    simp only [Pm.fenceIf, if_true, Pm.fenced]
    have hRw : R.worked.Ok := ⟨hR.llen, hR.wlen, hR.glen, hR.mul, hR.lo, hR.hi, by
      have := hR.left
      simp only [Rf.worked]
      split
      · rename_i h2; simp at h2; omega
      · exact this⟩
    have hmul := hR.mul
    obtain ⟨a1, a2, a3, a4, a5, a6, a7, a8, a9, a10⟩ := arr_spec hRw (R.seen.length / 8) (by simp only [Rf.worked]; omega)
    refine ⟨?_, ?_, ?_, ?_, ?_, ?_⟩
    · rw [arr_seen]; exact hw.seen
    · apply ext_word
      · rw [a7]; simp [Pm.arrived, Rf.worked, h.seen]
      · intro j hj
        rw [a7] at hj
        have hj2 : j < R.seen.length := hj
        have hj3 : j < M.seen.length := by rw [← h.seen]; exact hj2
        rw [a10 j hj, if_pos (by omega)]
        simp only [Pm.arrived]
        rw [wordAt_map _ _ hj3]
        have hmulM := hM.mul
        have hg := h.going hp (j / 8) (by omega)
        have hgw : R.worked.going.getD (j / 8) false = (wget M.way (j / 8)).isSome := hg.1
        rw [hgw]
        simp only [Pm.arrWord]
        cases hx : wget M.way (j / 8) with
        | none => simp only [Option.isSome_none, Bool.false_eq_true, if_false]; rw [← h.last]; rfl
        | some x =>
          simp only [Option.isSome_some, if_true]
          have h2 := hg.2 x hx
          have h3 : wordAt R.worked.way j = wordAt (lineList R.way (j / 8)) (j % 8) := by
            rw [wordAt_lineList (by omega)]
            show wordAt R.way j = _
            congr 1; omega
          rw [h3, h2]
          cases x with
          | none => simp only [sent]; rw [wordAt_lineList (by omega)]; congr 1; omega
          | some ws => rfl
    · rw [a5]; exact hw.steps
    · rw [a6]; exact hw.many
    · have := hw.fuse
      simp only [FuseSim, a2, a3, a4] at this ⊢
      exact this
    · intro _ l hl
      simp only at hl
      rw [a9, if_pos (by rw [h.seen]; omega)]
      simp [wget]

theorem sim_setFuse {M : Pm} {R : Rf} (h : Sim 0 M R) (k : Int) (hk : 0 ≤ k) : Sim 0 (M.setFuse k) (R.setFuse k) := by
  have hf := h.fuse
  have hlit : M.power = true → R.thn = none → Sim 0 (M.setFuse k) (R.setFuse k) := by
    intro hp ht
    have h1 : M.setFuse k = M.light k := by simp [Pm.setFuse, hp]
    have h2 : R.setFuse k = ({ R with fuse := true, left := k } : Rf).mark := by simp [Rf.setFuse, ht]
    rw [h1, h2]
    by_cases hk0 : 0 < k
    · have h3 : M.light k = { M with fuse := some (.inl k) } := by simp [Pm.light, hk0]
      have h4 : ({ R with fuse := true, left := k } : Rf).mark = { R with fuse := true, left := k } := by
        unfold Rf.mark; rw [if_neg]; simp; omega
      rw [h3, h4]
      exact ⟨h.seen, h.last, h.steps, h.many, ⟨rfl, by simp, hk0, ht⟩, fun _ => h.going hp⟩
    · have h3 : M.light k = { M with fuse := some (.inr M.seen), way := [] } := by simp [Pm.light, hk0]
      have h4 : ({ R with fuse := true, left := k } : Rf).mark = { R with fuse := true, left := k, thn := some R.seen } := by
        unfold Rf.mark; rw [if_pos]; simp [ht]; omega
      rw [h3, h4]
      exact ⟨h.seen, h.last, h.steps, h.many, ⟨rfl, by simp only; omega, by simp [h.seen]⟩, fun hp => by simp [Pm.power] at hp⟩
  unfold FuseSim at hf
  split at hf
  · rename_i e; exact hlit (by simp [Pm.power, e]) hf.2
  · rename_i k0 e; exact hlit (by simp [Pm.power, e]) hf.2.2.2
  · rename_i xs e
    have h1 : M.setFuse k = M := by simp [Pm.setFuse, Pm.power, e]
    have h2 : R.setFuse k = R := by simp [Rf.setFuse, hf.2.2]
    rw [h1, h2]
    exact h

theorem sim_withPower {M : Pm} {R : Rf} (h : Sim 0 M R) : R.withThen = M.withPower := by
  have hf := h.fuse
  unfold FuseSim at hf
  unfold Rf.withThen Pm.withPower
  split at hf
  · rename_i e; rw [e, hf.2]; exact h.seen
  · rename_i k e; rw [e, hf.2.2.2]; exact h.seen
  · rename_i xs e; rw [e, hf.2.2]

theorem sim_crash {M : Pm} {R : Rf} (h : Sim 0 M R) (k : Int) : Sim 0 (M.crash k) (R.crash k) := by
  have hs : R.saved k = M.saved k := by simp only [Rf.saved, Pm.saved]; rw [sim_withPower h, h.last, h.seen]
  refine ⟨hs, hs, h.steps, h.many, ⟨rfl, rfl⟩, fun _ l _ => ?_⟩
  simp only [Pm.crash, Rf.crash, wget]
  refine ⟨?_, fun x hx => by cases hx⟩
  simp only [List.getD_eq_getElem?_getD, List.getElem?_replicate]
  split <;> simp

theorem sim_fresh (n : Nat) : Sim 0 (fresh n) (rfresh n) := by
  refine ⟨rfl, rfl, rfl, rfl, ⟨rfl, rfl⟩, fun _ l _ => ?_⟩
  simp only [fresh, rfresh, wget]
  refine ⟨?_, fun x hx => by cases hx⟩
  simp only [List.getD_eq_getElem?_getD, List.getElem?_replicate]
  split <;> simp

end Go.Proofs.Ytghcommbflfbnaa
