/-
  The words beside the journal of JournalActs.
-/
import Derived.Test.YtpaefllhngbimaaJl
namespace Go.Proofs.Ytpaefllhngbimaa
open Go.RowKit
set_option linter.unusedVariables false
set_option maxRecDepth 100000

/-- The stores of the law's, so many rounds of them. -/
def sides (n q : Nat) : List Op := (List.range q).flatMap fun i => [Op.st i 77, Op.st (n + 8 + i) 78]

theorem sides_succ (n q : Nat) : sides n (q + 1) = sides n q ++ [Op.st q 77, Op.st (n + 8 + q) 78] := by
  unfold sides
  rw [List.range_succ, List.flatMap_append]
  simp

theorem sides_length (n q : Nat) : (sides n q).length = 2 * q := by
  induction q with
  | zero => rfl
  | succ q ih => rw [sides_succ, List.length_append, ih]; simp; omega

theorem sides_run (M : Pm) (n q : Nat) : ((M.run (sides n q)).store q 77).store (n + 8 + q) 78 = M.run (sides n (q + 1)) := by
  rw [sides_succ, run_append]; rfl

theorem sides_sts (n q : Nat) (hq : q ≤ 8) : Sts 0 (n + 32) (sides n q) := by
  intro o ho
  unfold sides at ho
  rw [List.mem_flatMap] at ho
  obtain ⟨i, hi, ho⟩ := ho
  rw [List.mem_range] at hi
  simp only [List.mem_cons, List.not_mem_nil, or_false] at ho
  rcases ho with rfl | rfl
  · exact ⟨i, _, rfl, by omega, by omega⟩
  · exact ⟨n + 8 + i, _, rfl, by omega, by omega⟩

theorem sides_word {X : List Int} {n : Nat} (hl : X.length = n + 32) (h64 : 64 ≤ n) : ∀ q, q ≤ 8 → ∀ i, wordAt (seenBy X (sides n q)) i = if i < q then 77 else if n + 8 ≤ i ∧ i < n + 8 + q then 78 else wordAt X i
  | 0, _, i => by rw [if_neg (by omega), if_neg (by omega)]; rfl
  | q + 1, hq, i => by
    have ih := sides_word hl h64 q (by omega)
    rw [sides_succ, seenBy_append]
    have hlen : (seenBy X (sides n q)).length = n + 32 := by rw [seenBy_length]; exact hl
    generalize seenBy X (sides n q) = Y at *
    show wordAt ((Y.set q 77).set (n + 8 + q) 78) i = _
    rw [wordAt_set _ _ _ _ (by rw [List.length_set]; omega), wordAt_set _ _ _ _ (by omega), ih]
    by_cases e1 : i = n + 8 + q
    · rw [if_pos e1, if_neg (show ¬ i < q + 1 by omega), if_pos (show n + 8 ≤ i ∧ i < n + 8 + (q + 1) by omega)]
    · rw [if_neg e1]
      by_cases e2 : i = q
      · rw [if_pos e2, if_pos (show i < q + 1 by omega)]
      · rw [if_neg e2]
        by_cases e3 : i < q
        · rw [if_pos e3, if_pos (show i < q + 1 by omega)]
        · rw [if_neg e3, if_neg (show ¬ i < q + 1 by omega)]
          by_cases e4 : n + 8 ≤ i ∧ i < n + 8 + q
          · rw [if_pos e4, if_pos (show n + 8 ≤ i ∧ i < n + 8 + (q + 1) by omega)]
          · rw [if_neg e4, if_neg (show ¬ (n + 8 ≤ i ∧ i < n + 8 + (q + 1)) by omega)]

/-- The memory behind the law's stores, flushes and fence. -/
def beside (n : Nat) : Pm := ((((fresh (n + 32)).run (sides n 8)).flush 0).flush ((n + 8) / 8)).fence

set_option maxHeartbeats 1000000 in
theorem beside_of {n : Nat} (h64 : 64 ≤ n) (h8 : n % 8 = 0) : (beside n).seen = seenBy (fresh (n + 32)).seen (sides n 8) ∧ Clean (beside n) (beside n).seen ∧ (beside n).fuse = none := by
  have hF := fresh_clean (n + 32)
  have hl : (fresh (n + 32)).seen.length = n + 32 := by simp [fresh]
  obtain ⟨a1, a2, a3⟩ := run_sts (M := fresh (n + 32)) (sides_sts n 8 (by omega)) rfl rfl
  have a4 := run_seen (sides n 8) (fresh (n + 32))
  have hw := sides_word hl h64 8 (by omega)
  rw [hF.lasts] at a3
  unfold beside
  generalize fresh (n + 32) = F at *
  generalize F.run (sides n 8) = N at *
  have e1 : N.flush 0 = { N with steps := N.steps + 1, way := wput N.way 0 none } := pl_flush a1 0
  obtain ⟨R1, hR1⟩ : ∃ R, R = N.flush 0 := ⟨_, rfl⟩
  rw [← hR1] at e1 ⊢
  have b1 : R1.fuse = none := by rw [e1]; exact a1
  have b2 : R1.lasts = F.seen := by rw [e1]; exact a3
  have b3 : R1.seen = N.seen := by rw [e1]
  have b4 : R1.way = wput [] 0 none := by rw [e1, a2]
  have e2 : R1.flush ((n + 8) / 8) = { R1 with steps := R1.steps + 1, way := wput R1.way ((n + 8) / 8) none } := pl_flush b1 _
  obtain ⟨R, hR⟩ : ∃ R, R = R1.flush ((n + 8) / 8) := ⟨_, rfl⟩
  rw [← hR] at e2 ⊢
  have c1 : R.fuse = none := by rw [e2]; exact b1
  have c2 : R.lasts = F.seen := by rw [e2]; exact b2
  have c3 : R.seen = N.seen := by rw [e2]; exact b3
  have c4 : R.way = wput (wput [] 0 none) ((n + 8) / 8) none := by rw [e2, b4]
  have e3 : R.fence = { R with steps := R.steps + 1, lasts := R.arrived, way := [] } := pl_fence c1
  have hlen : R.seen.length = n + 32 := by rw [c3, a4, seenBy_length, hl]
  rw [e3]
  refine ⟨c3.trans a4, ⟨rfl, ?_, rfl⟩, c1⟩
  show R.arrived = R.seen
  apply ext_word
  · simp [Pm.arrived]
  · intro i hi
    have hi2 : i < n + 32 := by simpa [Pm.arrived, hlen] using hi
    rw [Pm.arrived, wordAt_map _ _ (by omega)]
    unfold Pm.arrWord
    rw [c4, wget_wput, wget_wput]
    by_cases e : i / 8 = (n + 8) / 8
    · rw [if_pos e]
    · rw [if_neg e]
      by_cases e0 : i / 8 = 0
      · rw [if_pos e0]
      · rw [if_neg e0]
        show wordAt R.lasts i = _
        rw [c2, c3, a4, hw, if_neg (by omega), if_neg (by omega)]

set_option maxHeartbeats 1000000 in
theorem beside_pi {n : Nat} (h64 : 64 ≤ n) (h8 : n % 8 = 0) (hn : n ≤ 312) :
    Fits (beside n).seen 8 n ∧ Cnt (beside n) 20000 ∧ Pi ((beside n).run (replOps (beside n).seen 8 n ⟨#[]⟩)) n ⟨#[]⟩ false 40000 := by
  obtain ⟨hs, hc, hf⟩ := beside_of h64 h8
  have hl : (fresh (n + 32)).seen.length = n + 32 := by simp [fresh]
  have hw := sides_word hl h64 8 (by omega)
  have hlen : (beside n).seen.length = n + 32 := by rw [hs, seenBy_length, hl]
  have hrng : Rng (beside n).seen := by
    rw [hs]
    refine rng_seenBy (fresh_rng _) fun kk v hm => ?_
    unfold sides at hm
    rw [List.mem_flatMap] at hm
    obtain ⟨i, -, ho⟩ := hm
    simp only [List.mem_cons, List.not_mem_nil, or_false, Op.st.injEq] at ho
    rcases ho with ⟨-, rfl⟩ | ⟨-, rfl⟩ <;> omega
  have hx : Fits (beside n).seen 8 n := ⟨by omega, by omega, by omega, by omega, by omega⟩
  have hcnt : Cnt (beside n) 20000 := by
    have e : beside n = (fresh (n + 32)).run (sides n 8 ++ [Op.fl 0, Op.fl ((n + 8) / 8), Op.fe]) := by
      unfold beside
      rw [run_append]
      generalize (fresh (n + 32)).run (sides n 8) = N
      rfl
    have h1 := run_steps (sides n 8 ++ [Op.fl 0, Op.fl ((n + 8) / 8), Op.fe]) (fresh (n + 32))
    have h2 := run_stores (sides n 8 ++ [Op.fl 0, Op.fl ((n + 8) / 8), Op.fe]) (fresh (n + 32))
    rw [← e, List.length_append, sides_length] at h1 h2
    have e1 : (fresh (n + 32)).steps = 0 := rfl
    have e2 : (fresh (n + 32)).stores = 0 := rfl
    simp only [List.length_cons, List.length_nil] at h1 h2
    exact ⟨by omega, by omega, by omega, by omega⟩
  refine ⟨hx, hcnt, ?_⟩
  obtain ⟨q1, f1⟩ := quiet_repl hc hrng hx hf (s := ⟨#[]⟩) (Nat.zero_le _)
  refine ⟨q1, Or.inl f1, fun _ => f1, (hcnt.repl (Nat.zero_le _)).more (by omega), ?_, ?_, ?_⟩ <;> rw [run_seen_repl]
  · rw [Z_length]; exact hlen
  · rw [Z_beside hx (Nat.zero_le _) 3 (by omega), hs, hw, if_pos (by omega)]
  · rw [Z_beside hx (Nat.zero_le _) (n + 9) (by omega), hs, hw, if_neg (by omega), if_pos (by omega)]

end Go.Proofs.Ytpaefllhngbimaa
