/-
  What a crash leaves of a Write, wherever the power goes. Plain.
-/
import Derived.Test.YtpaefllhngbimaaJq
namespace Go.Proofs.Ytpaefllhngbimaa
set_option linter.unusedVariables false
set_option maxRecDepth 10000

/-- Words of 64 bits. -/
def Rng (X : List Int) : Prop := ∀ i, 0 ≤ wordAt X i ∧ wordAt X i < 18446744073709551616

def RngOps (os : List Op) : Prop := ∀ k v, Op.st k v ∈ os → 0 ≤ v ∧ v < 18446744073709551616

theorem rng_seenBy : ∀ {os : List Op} {X : List Int}, Rng X → RngOps os → Rng (seenBy X os)
  | [], X, h, _ => h
  | o :: r, X, h, ho => by
    rw [seenBy_cons]
    refine rng_seenBy ?_ (fun k v hm => ho k v (by simp [hm]))
    cases o with
    | st k v =>
      intro i
      rw [seenBy, seenBy]
      by_cases hk : k < X.length
      · rw [wordAt_set _ _ _ _ hk]
        split
        · exact ho k v (by simp)
        · exact h i
      · rw [List.set_eq_of_length_le (by omega)]; exact h i
    | fl l => exact h
    | fe => exact h

theorem sealW_range {n a : Nat} (hn : n ≤ 65536) (ha : a < 2) : 0 ≤ sealW n a ∧ sealW n a < 18446744073709551616 := by
  unfold sealW; omega

theorem rng_fill {at_ : Nat} {s : ByteArray} (hs : s.size ≤ 65536) : RngOps (fillSts at_ s) := by
  intro k v h
  simp only [fillSts, List.mem_append, List.mem_cons, List.mem_map, List.mem_range, List.not_mem_nil, or_false, Op.st.injEq] at h
  rcases h with (⟨_, rfl⟩ | ⟨_, rfl⟩) | ⟨i, hi, _, rfl⟩
  · omega
  · have := (sumS s).isLt; omega
  · exact word8_range _ (fun j => byteOf_range _ _)

theorem rng_take {os : List Op} (h : RngOps os) (j : Nat) : RngOps (os.take j) := fun k v hm => h k v (List.mem_of_mem_take hm)

theorem rng_of {X : List Int} {n : Nat} (hl : X.length = n) (h : ∀ i, i < n → 0 ≤ wordAt X i ∧ wordAt X i < 18446744073709551616) : Rng X := by
  intro i
  by_cases hi : i < n
  · exact h i hi
  · have : wordAt X i = 0 := by unfold wordAt; rw [List.getD_eq_getElem?_getD, List.getElem?_eq_none (by omega)]; rfl
    rw [this]; omega

theorem room_le {n : Nat} : roomOf n ≤ 65536 := by unfold roomOf; omega

/-- The state behind a Write with the power. -/
theorem repl_clean {M : Pm} {X : List Int} (h : Clean M X) (hf : M.fuse = none) {f n : Nat} (hx : Fits X f n) {s : ByteArray} (hs : s.size ≤ roomOf n) : Clean (M.run (replOps X f n s)) (Zof X f n s) := by
  have ha := head_next (X := X) (f := f) (n := n)
  obtain ⟨h1, h2, h3, h4⟩ := area_fits hx ha hs
  have hi := hx.hi
  have hlo := hx.lo
  unfold replOps fillOps
  rw [run_append]
  have c1 := commit h hf (fill_sts (at_ := areaOf f n (nextOf X f n)) (s := s)) (by omega)
  have f1 := run_none (fillSts (areaOf f n (nextOf X f n)) s ++ flOps (areaOf f n (nextOf X f n)) (2 + nWords s) ++ [Op.fe]) hf
  have c2 := commit c1 f1 (at_ := f) (cnt := 1) (A := [Op.st f (sealW n (nextOf X f n))]) (fun o ho => by simp at ho; exact ⟨_, _, ho, by omega, by omega⟩) (by rw [seenBy_length]; omega)
  exact c2

/-- What is left: as ahead of it but for the area that was written to; or all of it. -/
structure Left (X X' : List Int) (f n : Nat) (s : ByteArray) : Prop where
  len : X'.length = X.length
  rng : Rng X'
  word : (∀ i, i < X.length → ¬ (areaOf f n (nextOf X f n) ≤ i ∧ i < areaOf f n (nextOf X f n) + (2 + nWords s)) → wordAt X' i = wordAt X i) ∨ X' = Zof X f n s

theorem Z_length (X : List Int) (f n : Nat) (s : ByteArray) : (Zof X f n s).length = X.length := by unfold Zof; simp [seenBy_length]

theorem Z_rng {X : List Int} (hr : Rng X) {f n : Nat} (hn : n ≤ 65536) {s : ByteArray} (hs : s.size ≤ roomOf n) : Rng (Zof X f n s) := by
  have hr1 := rng_seenBy hr (rng_fill (at_ := areaOf f n (nextOf X f n)) (s := s) (Nat.le_trans hs room_le))
  have : Zof X f n s = seenBy (seenBy X (fillSts (areaOf f n (nextOf X f n)) s)) [Op.st f (sealW n (nextOf X f n))] := rfl
  rw [this]
  refine rng_seenBy hr1 ?_
  intro k v h
  simp only [List.mem_cons, Op.st.injEq, List.not_mem_nil, or_false] at h
  rw [h.2]
  exact sealW_range hn head_next

theorem crash_repl {M : Pm} {X : List Int} (h : Clean M X) (hf : FuseOk M) (hr : Rng X) {f n : Nat} (hx : Fits X f n) {s : ByteArray} (hs : s.size ≤ roomOf n) (keep : Int) :
    Left X ((M.run (replOps X f n s)).crash keep).seen f n s ∧ (M.fuse = none → ((M.run (replOps X f n s)).crash keep).seen = Zof X f n s) := by
  obtain ⟨j, hj, hj2, hj3⟩ := run_crash (replOps X f n s) hf
  rw [hj3 keep]
  have hc := h.cool
  have hcf : M.cool.fuse = none := rfl
  generalize M.cool = N at *
  have ha := head_next (X := X) (f := f) (n := n)
  obtain ⟨h1, h2, h3, h4⟩ := area_fits hx ha hs
  have hi := hx.hi
  have hlo := hx.lo
  have h8 := hx.len8
  have htop := hx.top
  have hfull : ((N.run (replOps X f n s)).crash keep).seen = Zof X f n s := by
    have := repl_clean hc hcf hx hs
    have h0 := run_none (replOps X f n s) hcf
    refine crash_still ?_ this.lasts keep
    simp [Pm.withPower, h0, this.seen]
  have hZr := Z_rng hr (show n ≤ 65536 by omega) hs (f := f)
  refine ⟨?_, fun h0 => (by rw [hj2 h0, List.take_length]; exact hfull)⟩
  have hR1 := rng_fill (at_ := areaOf f n (nextOf X f n)) (s := s) (Nat.le_trans hs room_le)
  have hsw := sealW_range (n := n) (a := nextOf X f n) (by omega) ha
  have c1 := commit hc hcf (fill_sts (at_ := areaOf f n (nextOf X f n)) (s := s)) (by omega)
  have f1 := run_none (fillSts (areaOf f n (nextOf X f n)) s ++ flOps (areaOf f n (nextOf X f n)) (2 + nWords s) ++ [Op.fe]) hcf
  have hY : ∀ i, ¬ (areaOf f n (nextOf X f n) ≤ i ∧ i < areaOf f n (nextOf X f n) + (2 + nWords s)) → wordAt (seenBy X (fillSts (areaOf f n (nextOf X f n)) s)) i = wordAt X i := seenBy_sts fill_sts (by omega)
  by_cases hja : j ≤ (fillOps (areaOf f n (nextOf X f n)) s).length
  · have e : (replOps X f n s).take j = (fillSts (areaOf f n (nextOf X f n)) s ++ flOps (areaOf f n (nextOf X f n)) (2 + nWords s)).take j := by
      unfold replOps
      rw [List.append_assoc, List.take_append_of_le_length hja]
      rfl
    obtain ⟨k1, k2⟩ := commit_cut hc hcf h8 (fill_sts (at_ := areaOf f n (nextOf X f n)) (s := s)) (by omega) j keep
    rw [e]
    generalize ((N.run ((fillSts (areaOf f n (nextOf X f n)) s ++ flOps (areaOf f n (nextOf X f n)) (2 + nWords s)).take j)).crash keep).seen = X' at *
    refine ⟨k1, rng_of k1 fun i hi => ?_, Or.inl fun i hi hn => ?_⟩
    · rcases k2 i hi with e | ⟨jj, e⟩
      · rw [e]; exact hr i
      · rw [e]; exact rng_seenBy hr (rng_take hR1 jj) i
    · rcases k2 i hi with e | ⟨jj, e⟩
      · exact e
      · rw [e]; exact seenBy_sts (take_sts fill_sts jj) (by omega) i hn
  · have e : (replOps X f n s).take j = (fillSts (areaOf f n (nextOf X f n)) s ++ flOps (areaOf f n (nextOf X f n)) (2 + nWords s) ++ [Op.fe]) ++ ([Op.st f (sealW n (nextOf X f n))] ++ flOps f 1 ++ [Op.fe]).take (j - ((fillOps (areaOf f n (nextOf X f n)) s).length + 1)) := by
      unfold replOps
      rw [List.take_append, List.take_of_length_le (by simp; omega), List.length_append]
      rfl
    rw [e, run_append]
    generalize N.run (fillSts (areaOf f n (nextOf X f n)) s ++ flOps (areaOf f n (nextOf X f n)) (2 + nWords s) ++ [Op.fe]) = R at *
    generalize j - ((fillOps (areaOf f n (nextOf X f n)) s).length + 1) = i2 at *
    have hA : Sts f 1 [Op.st f (sealW n (nextOf X f n))] := fun o ho => by simp at ho; exact ⟨_, _, ho, by omega, by omega⟩
    have hYl : (seenBy X (fillSts (areaOf f n (nextOf X f n)) s)).length = X.length := seenBy_length _ _
    have hYr := rng_seenBy hr hR1
    have hZd : Zof X f n s = seenBy (seenBy X (fillSts (areaOf f n (nextOf X f n)) s)) [Op.st f (sealW n (nextOf X f n))] := rfl
    have hZw : ∀ i, wordAt (Zof X f n s) i = if i = f then sealW n (nextOf X f n) else wordAt (seenBy X (fillSts (areaOf f n (nextOf X f n)) s)) i := fun i => by
      unfold Zof; rw [wordAt_set _ _ _ _ (by rw [hYl]; omega)]
    by_cases hjb : i2 ≤ ([Op.st f (sealW n (nextOf X f n))] ++ flOps f 1).length
    · rw [List.take_append_of_le_length hjb]
      obtain ⟨k1, k2⟩ := commit_cut c1 f1 (by rw [hYl]; exact h8) hA (by rw [hYl]; omega) i2 keep
      rw [hYl] at k1 k2
      generalize ((R.run (([Op.st f (sealW n (nextOf X f n))] ++ flOps f 1).take i2)).crash keep).seen = X' at *
      have k3 : ∀ i, i < X.length → i ≠ f → wordAt X' i = wordAt (seenBy X (fillSts (areaOf f n (nextOf X f n)) s)) i := fun i hi hne => by
        rcases k2 i hi with e | ⟨jj, e⟩
        · exact e
        · rw [e]; exact seenBy_sts (take_sts hA jj) (by rw [hYl]; omega) i (by omega)
      have k4 : wordAt X' f = wordAt (seenBy X (fillSts (areaOf f n (nextOf X f n)) s)) f ∨ wordAt X' f = sealW n (nextOf X f n) := by
        rcases k2 f (by omega) with e | ⟨jj, e⟩
        · exact Or.inl e
        · rw [e]
          rcases jj with _ | jj
          · exact Or.inl rfl
          · right
            rw [show List.take (jj + 1) [Op.st f (sealW n (nextOf X f n))] = [Op.st f (sealW n (nextOf X f n))] from by simp]
            simp only [seenBy]
            rw [wordAt_set _ _ _ _ (by rw [hYl]; omega), if_pos rfl]
      have hX'r : Rng X' := rng_of k1 fun i hi => by
        by_cases e : i = f
        · subst e
          rcases k4 with e | e
          · rw [e]; exact hYr i
          · rw [e]; exact hsw
        · rw [k3 i hi e]; exact hYr i
      rcases k4 with e | e
      · refine ⟨k1, hX'r, Or.inl fun i hi hn => ?_⟩
        by_cases e2 : i = f
        · subst e2; rw [e]; exact hY i hn
        · rw [k3 i hi e2]; exact hY i hn
      · refine ⟨k1, hX'r, Or.inr ?_⟩
        apply ext_word
        · rw [k1, Z_length]
        · intro i hi
          rw [hZw]
          by_cases e2 : i = f
          · subst e2; rw [if_pos rfl]; exact e
          · rw [if_neg e2]; exact k3 i (by omega) e2
    · rw [List.take_of_length_le (by simp at hjb ⊢; omega)]
      have c2 := commit c1 f1 hA (by rw [hYl]; omega)
      have f2 := run_none ([Op.st f (sealW n (nextOf X f n))] ++ flOps f 1 ++ [Op.fe]) f1
      have : ((R.run ([Op.st f (sealW n (nextOf X f n))] ++ flOps f 1 ++ [Op.fe])).crash keep).seen = Zof X f n s := by
        refine crash_still ?_ (c2.lasts.trans hZd.symm) keep
        simp only [Pm.withPower, f2]
        exact c2.seen.trans hZd.symm
      rw [this]
      exact ⟨Z_length _ _ _ _, hZr, Or.inr rfl⟩

theorem Left.look {X X' : List Int} {f n : Nat} {s : ByteArray} (h : Left X X' f n s) (hx : Fits X f n) (hs : s.size ≤ roomOf n) : lookOf X' f n = lookOf X f n ∨ lookOf X' f n = some s := by
  rcases h.word with e | e
  · exact Or.inl (look_old hx hs e)
  · right; rw [e]; exact look_new hx hs

theorem Z_beside {X : List Int} {f n : Nat} {s : ByteArray} (hx : Fits X f n) (hs : s.size ≤ roomOf n) (i : Nat) (hi : i < f ∨ f + n ≤ i) : wordAt (Zof X f n s) i = wordAt X i := by
  have ha := head_next (X := X) (f := f) (n := n)
  obtain ⟨h1, h2, h3, h4⟩ := area_fits hx ha hs
  have hh := hx.hi
  have hlo := hx.lo
  unfold Zof
  rw [wordAt_set _ _ _ _ (by rw [seenBy_length]; omega), if_neg (by omega)]
  exact seenBy_sts fill_sts (by omega) i (by omega)

theorem Left.beside {X X' : List Int} {f n : Nat} {s : ByteArray} (h : Left X X' f n s) (hx : Fits X f n) (hs : s.size ≤ roomOf n) (i : Nat) (hl : i < X.length) (hi : i < f ∨ f + n ≤ i) : wordAt X' i = wordAt X i := by
  have ha := head_next (X := X) (f := f) (n := n)
  obtain ⟨h1, h2, h3, h4⟩ := area_fits hx ha hs
  rcases h.word with e | e
  · exact e i hl (by omega)
  · rw [e]; exact Z_beside hx hs i hi

theorem Left.fits {X X' : List Int} {f n : Nat} {s : ByteArray} (h : Left X X' f n s) (hx : Fits X f n) : Fits X' f n :=
  ⟨hx.mul, hx.lo, by rw [h.len]; exact hx.hi, by rw [h.len]; exact hx.top, by rw [h.len]; exact hx.len8⟩

theorem Fits.of_len {X Y : List Int} {f n : Nat} (hx : Fits X f n) (h : Y.length = X.length) : Fits Y f n :=
  ⟨hx.mul, hx.lo, by rw [h]; exact hx.hi, by rw [h]; exact hx.top, by rw [h]; exact hx.len8⟩

end Go.Proofs.Ytpaefllhngbimaa
