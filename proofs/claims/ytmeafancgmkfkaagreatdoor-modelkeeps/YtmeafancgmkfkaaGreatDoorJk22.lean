/-
  Joined of my texts Dl.
-/
import Derived.Test.YtmeafancgmkfkaaGreatDoorJk21
namespace Go.Proofs.YtmeafancgmkfkaaGreatDoor
open List renaming setIfInBounds_toArray → lz0, set_cons_zero → lz1, set_cons_succ → lz2, getElem_toArray → lz3, getElem_cons_zero → lz4, getElem_cons_succ → lz5
open Go.RowKit
set_option linter.unusedVariables false
set_option linter.unusedSimpArgs false
theorem run_append_in {P : Program} (w : World) (t ty e : TypeId) (i : TypeInfo) (k : Nat) (ht : P.underlying t = some (.slice e)) (hi : P.info? e = some i) (hk : i.size = k) (g sLen sCap : Nat) (a : Addr) (n c : Nat) (cs : List Value) (cur : Array Value) (T : TypeId)
   (hg : w.heap[g]? = some (.cells cur T (0, 0))) (hl : cs.length = n * k) (hsrc : ∀ j v, cs[j]? = some v → w.cell? (a.add j) = some v) (hroom : sLen + n ≤ sCap) (hfit : sLen * k + cs.length ≤ cur.size) (h1 : ∀ v ∈ cs, v.oneCell' = true) :
   (Builtin.append_ #[t, t] ty #[.slice (some ⟨g, 0, none⟩) sLen sCap, .slice (some a) n c]).run P w = .ok (.slice (some ⟨g, 0, none⟩) (sLen + n) sCap) (w.setRow g (cur.toList.take (sLen * k) ++ cs ++ cur.toList.drop (sLen * k + cs.length)).toArray) := by
 have hfo := run_firstCells_some (P := P) w k n a n c cs (by simpa using hl) hsrc
 have hst := run_storeCells_at P g (sLen * k) T cs 0 cur w hg (by simpa using hfit) h1
 simp only [Nat.add_zero] at hst
 simp [Builtin.append_, run_underlying ht, sizeOf, typeInfo, hi, hk, hroom, hfo, Addr.add_lit, hst, Builtin.lenOf]
theorem step_append_run9 {P : Program} {ops : Array Oper} {o : Oper} {a : Act} {w : World} {K : Act → World → Prop} {Q : Exit → Act → World → Prop} {E : Prop} (hg : o.guard = none) (s x : Operand) (t1 t2 : TypeId)
   (hop : o.op = Op.call { callee := Callee.builtin Builtin.append, args := #[s, x], argTypes := #[t1, t2] }) (v u : Value) (hs : a.eval s = v) (hx : a.eval x = u) (v' : Value) (w' : World)
   (hrun : (Builtin.append_ #[t1, t2] o.type #[v, u]).run P w = .ok v' w') (hK : K (a.put o.dst v') w') : if Region.wanted o (yielded ops a.tmps) = true then Oper.wp P o a w K Q else E := by
 have hw : Region.wanted o (yielded ops a.tmps) = true := by simp [Region.wanted, hg]
 rw [if_pos hw]
 unfold Oper.wp
 simp [execOp, hop, resolve, invoke, builtin, hs, hx, hrun, Result.andThen]
 exact hK
theorem wpList_clear_run {P : Program} (w : World) {ops : Array Oper} {rest : List Oper} {o : Oper} {a : Act} {Q : Exit → Act → World → Prop} (hgd : o.guard = none) (s : Operand) (t1 : TypeId)
   (ho : o.op = .call { callee := .builtin .clear, args := #[s], argTypes := #[t1] }) (v : Value) (hs : a.eval s = v) (v' : Value) (w' : World)
   (hr : (Builtin.clear_ #[t1] o.type #[v]).run P w = .ok v' w') (h : wpList P ops Q rest (a.put o.dst v') w') : wpList P ops Q (o :: rest) a w := by
 refine wpList_plain hgd fun K hK => ?_
 unfold Oper.wp execOp
 simp only [ho, resolve, invoke, builtin, Sem.run_bind, Sem.run_pure, Result.andThen_ok, List.map_toArray, List.map_cons, List.map_nil, hs, hr]
 exact hK _ _ h
theorem run_clear_one {P : Program} (w : World) (t e ty : TypeId) (z : Value) (k : Nat) (ht : P.underlying t = some (.slice e)) (hz : ∀ w, (zeroValue e).run P w = .ok z w) (hzs : z.cells.size = k) (h1 : ∀ v ∈ z.cells.toList, v.oneCell' = true) (g o c : Nat) (cur : Array Value) (T : TypeId)
   (hg : w.heap[g]? = some (.cells cur T (0, 0))) (hfit : o + k ≤ cur.size) :
   (Builtin.clear_ #[t] ty #[.slice (some ⟨g, o, none⟩) 1 c]).run P w = .ok (.tuple #[]) (w.setRow g (cur.toList.take o ++ z.cells.toList ++ cur.toList.drop (o + k)).toArray) := by
 have hzc : (Builtin.zeroCells z.cells 1).toList = z.cells.toList := by
   unfold Builtin.zeroCells
   apply List.ext_getElem
   · simp
   · intro i h1 h2
     have : i < z.cells.size := by simpa using h2
     simp [Nat.mod_eq_of_lt this, getElem!_pos, this]
 have hlen : z.cells.toList.length = k := by simpa using hzs
 have hst := run_storeCells_at P g o T z.cells.toList 0 cur w hg (by rw [hlen]; simpa using hfit) h1
 rw [hlen] at hst
 simp only [Nat.add_zero] at hst
 simp [Builtin.clear_, run_underlying ht, hz, hzc, hst]
theorem take1 {A : List Value} {cs Z : List Value} {p k r : Nat} (hA : p + k + r ≤ A.length) (hc : cs.length = r) (hZ : Z.length = k) :
   ((A.take p ++ cs ++ A.drop (p + r)).take (p + r) ++ Z ++ (A.take p ++ cs ++ A.drop (p + r)).drop (p + r + k)).take (p + r) = A.take p ++ cs ∧
   ((A.take p ++ cs ++ A.drop (p + r)).take (p + r) ++ Z ++ (A.take p ++ cs ++ A.drop (p + r)).drop (p + r + k)).length = A.length ∧
   (A.take p ++ cs ++ A.drop (p + r)).length = A.length := by
 have hp : (A.take p).length = p := by rw [List.length_take]; omega
 have hpc : (A.take p ++ cs).length = p + r := by rw [List.length_append, hp, hc]
 have h1 : (A.take p ++ cs ++ A.drop (p + r)).take (p + r) = A.take p ++ cs := by
   rw [List.take_append_of_le_length (by omega), List.take_of_length_le (by omega)]
 have h3 : (A.take p ++ cs ++ A.drop (p + r)).length = A.length := by
   rw [List.length_append, hpc, List.length_drop]; omega
 refine ⟨?_, ?_, h3⟩
 · rw [h1, List.append_assoc, List.take_append_of_le_length (by omega), List.take_of_length_le (by omega)]
 · rw [h1, List.length_append, List.length_append, hpc, hZ, List.length_drop, h3]; omega
theorem zv_Desc (w : World) : (zeroValue 39).run Tryz.prog w = .ok (.agg #[.int .i64 0, .int .i64 0, .int .i64 0]) w := by kernel_rfl
set_option maxRecDepth 100000 in
set_option maxHeartbeats 8000000 in
theorem del_Desc {w : World} {H g n cap : Nat} {xs : List Value} (h : w.ownsRow H 39 3 (.slice (some ⟨g, 0, none⟩) n cap) n xs) (h1 : ∀ u ∈ xs, u.oneCell' = true) (i : Nat) (hi : i < n) (hn : n ≤ 5864062014634) :
   Calls Tryz.prog 106 #[.slice (some ⟨g, 0, none⟩) n cap, .int .i64 (i : Int), .int .i64 ((i : Int) + 1)] w fun e w' => e = .returned (.slice (some ⟨g, 0, none⟩) (n - 1) cap) ∧ w'.ownsRow H 39 3 (.slice (some ⟨g, 0, none⟩) (n - 1) cap) (n - 1) (xs.take (i * 3) ++ xs.drop ((i + 1) * 3)) ∧ Kept [g] w w' := by
 rcases h.2 with ⟨-, e2⟩ | ⟨g', cap', cur, hv, hHg, hgg, hnc, hcm, hcs, htk⟩
 · omega
 simp only [Value.slice.injEq, Option.some.injEq, Addr.mk.injEq, and_true, true_and] at hv
 obtain ⟨e1, e2⟩ := hv
 subst e1 e2
 obtain ⟨i0, hi0, hz0, hz1, hz2⟩ := info_parts info_Desc
 obtain ⟨m, hm⟩ : ∃ m, n = i + 1 + m := ⟨n - (i + 1), by omega⟩
 have hlx : xs.length = n * 3 := h.1
 have hAl : cur.toList.length = cap * 3 := by simpa using hcs
 obtain ⟨cs, hcs2⟩ : ∃ cs, xs.drop ((i + 1) * 3) = cs := ⟨_, rfl⟩
 have hcl : cs.length = m * 3 := by rw [← hcs2, List.length_drop, hlx]; omega
 have h1c : ∀ u ∈ cs, u.oneCell' = true := fun u hu => h1 u (List.mem_of_mem_drop (hcs2 ▸ hu))
 have hsrc : ∀ (a : Addr), (0 < m → a = ⟨g, (i + 1) * 3, none⟩) → ∀ j v, cs[j]? = some v → w.drew.cell? (a.add j) = some v := fun a ha j v hj => by
   have hjl : j < cs.length := by
     rcases Nat.lt_or_ge j cs.length with h | h
     · exact h
     · rw [List.getElem?_eq_none h] at hj; cases hj
   rw [ha (by omega), add_lit]
   show w.cell? _ = _
   rw [cellB hgg]
   rw [← hcs2, List.getElem?_drop, ← htk, List.getElem?_take_of_lt (by omega)] at hj
   simpa using hj
 obtain ⟨A, hA⟩ : ∃ A, cur.toList = A := ⟨_, rfl⟩
 have ap : ∀ (a : Addr) (c : Nat), (0 < m → a = ⟨g, (i + 1) * 3, none⟩) → (Builtin.append_ #[23, 23] 23 #[.slice (some ⟨g, 0, none⟩) i cap, .slice (some a) m c]).run Tryz.prog w.drew = .ok (.slice (some ⟨g, 0, none⟩) (i + m) cap) (w.drew.setRow g (A.take (i * 3) ++ cs ++ A.drop (i * 3 + m * 3)).toArray) := fun a c ha => by
   have := run_append_in (P := Tryz.prog) w.drew 23 23 39 i0 3 Tryz.underlying23 hi0 hz1 g i cap a m c cs cur 39 hgg hcl (hsrc a ha) (by omega) (by rw [hcl]; simp only [Array.size_eq_length_toList] at *; omega) h1c
   rw [hA, hcl] at this
   exact this
 obtain ⟨q1, q2, q3⟩ := take1 (A := A) (cs := cs) (Z := ((.agg #[.int .i64 0, .int .i64 0, .int .i64 0]) : Value).cells.toList) (p := i * 3) (k := 3) (r := m * 3) (by rw [← hA, hAl]; omega) hcl (by simp [Value.cells])
 obtain ⟨A1, hA1⟩ : ∃ A1, A.take (i * 3) ++ cs ++ A.drop (i * 3 + m * 3) = A1 := ⟨_, rfl⟩
 rw [hA1] at q1 q2 q3 ap
 obtain ⟨W1, hW1⟩ : ∃ W1, w.drew.setRow g A1.toArray = W1 := ⟨_, rfl⟩
 have hg1 : W1.heap[g]? = some (.cells A1.toArray 39 (0, 0)) := by rw [← hW1]; exact setRow_heap w.drew g cur _ _ _ hgg
 rw [hW1] at ap
 obtain ⟨A2, hA2⟩ : ∃ A2, A1.take (i * 3 + m * 3) ++ ((.agg #[.int .i64 0, .int .i64 0, .int .i64 0]) : Value).cells.toList ++ A1.drop (i * 3 + m * 3 + 3) = A2 := ⟨_, rfl⟩
 rw [hA2] at q1 q2
 have cl : ∀ o c, o = i * 3 + m * 3 → (Builtin.clear_ #[23] 0 #[.slice (some ⟨g, o, none⟩) 1 c]).run Tryz.prog W1 = .ok (.tuple #[]) (W1.setRow g A2.toArray) := fun o c ho => by
   have := run_clear_one (P := Tryz.prog) W1 23 39 0 (.agg #[.int .i64 0, .int .i64 0, .int .i64 0]) 3 Tryz.underlying23 zv_Desc rfl (by intro v hv; simp [Value.cells] at hv; rcases hv with rfl | rfl | rfl <;> rfl) g o c A1.toArray 39 hg1 (by rw [ho]; simp only [List.size_toArray]; rw [q3, ← hA, hAl]; omega)
   rw [ho] at this ⊢
   rw [List.toList_toArray, hA2] at this
   exact this
 obtain ⟨W2, hW2⟩ : ∃ W2, W1.setRow g A2.toArray = W2 := ⟨_, rfl⟩
 rw [hW2] at cl
 have HE : Hid (W2.ownsRow H 39 3 (.slice (some ⟨g, 0, none⟩) (i + m) cap) (i + m) (xs.take (i * 3) ++ cs) ∧ Kept [g] w W2) := by
   refine ⟨⟨?_, .inr ⟨g, cap, A2.toArray, rfl, hHg, ?_, by omega, hcm, ?_, ?_⟩⟩, ?_⟩
   · rw [List.length_append, List.length_take, hlx, hcl]; omega
   · rw [← hW2]; exact setRow_heap W1 g A1.toArray _ _ _ hg1
   · simp only [List.size_toArray]; rw [q2, ← hA]; exact hcs
   · rw [List.toList_toArray, Nat.add_mul, q1, ← htk, hA, List.take_take, Nat.min_eq_left (by omega)]
   · rw [← hW2, ← hW1]
     exact ((Kept.refl _ w).drew.setRow (Or.inl (by simp)) _).setRow (Or.inl (by simp)) _
 have HAp : Hid (∀ (a : Addr) (mm c : Nat), mm = m → (0 < m → a = ⟨g, (i + 1) * 3, none⟩) → (Builtin.append_ #[23, 23] 23 #[.slice (some ⟨g, 0, none⟩) i cap, .slice (some a) mm c]).run Tryz.prog w.drew = .ok (.slice (some ⟨g, 0, none⟩) (i + m) cap) W1) := fun a mm c hmm ha => by subst hmm; exact ap a c ha
 have HCl : Hid (∀ o l c, l = 1 → o = i * 3 + m * 3 → (Builtin.clear_ #[23] 0 #[.slice (some ⟨g, o, none⟩) l c]).run Tryz.prog W1 = .ok (.tuple #[]) W2) := fun o l c hl ho => by subst hl; exact cl o c ho
 obtain ⟨q, hq⟩ : ∃ q, i + m = q := ⟨_, rfl⟩
 rw [hq] at HAp HE
 have HQ : Hid (n = q + 1 ∧ m = n - (i + 1) ∧ q * 3 = i * 3 + m * 3) := ⟨by omega, by omega, by rw [← hq]; omega⟩
 have HE2 : Hid (xs.drop ((i + 1) * 3) = cs ∧ n - 1 = q) := ⟨hcs2, by omega⟩
 have i1 : (0 : Int) ≤ (i : Int) := by omega
 have i2 : (i : Int) ≤ (i : Int) + 1 := by omega
 have i3 : (i : Int) + 1 ≤ (n : Int) := by omega
 have i4 : (n : Int) ≤ (cap : Int) := by omega
 have i5 : ¬ (i : Int) = (i : Int) + 1 := by omega
 have i6 : ((i : Int) == (i : Int) + 1) = false := by simpa using i5
 have i7 : ¬ n = i := by omega
 have i8 : (0 : Int) ≤ (i : Int) + 1 := by omega
 have i9 : ((i : Int) + 1).toNat = i + 1 := by omega
 have j1 : (q : Int) ≤ (n : Int) := by omega
 have j2 : (0 : Int) ≤ (q : Int) := by omega
 have j3 : ¬ cap = q := by omega
 have j4 : i ≤ cap := by omega
 have j5 : (i : Int) ≤ (cap : Int) := by omega
 have hcap : cap ≤ 9223372036854775807 := by unfold maxLen at hcm; omega
 clear h h1 hi hn hHg hgg hcm hcs htk hi0 hz0 hz1 hz2 hlx hAl hcl h1c hsrc hA q1 q2 q3 hA1 hW1 hg1 hA2 hW2 ap cl hq hm hcs2
 go_enter Tryz.func106, Tryz.ntmps106
 go_upto_region 5 with fail
 by_cases hc : cap = i + 1
 · subst hc
   have k3 : ¬ i + 1 = q := j3
   refine wp_region_held_drew (S := fun w' => True) (by kernel_rfl) ?_ (fun hHeld => ?_)
   · trivial
   refine wpAnyH_take (i := 0) (v := ?vpd0) rfl (by kernel_rfl) (by kernel_rfl) (by kernel_rfl) (fun _ _ _ h => h) (Or.inl ⟨by rfl, ?hypd0⟩) (by assumption) ?_
   case hypd0 =>
     intro w hSw
     (try dsimp only at hSw)
     go_simp
     try with_reducible rfl
   try simp only [Act.put, lz0, lz1, lz2, lz3, lz4, lz5]
   refine wpAnyH_take (i := 1) (v := ?vpd1) rfl (by kernel_rfl) (by kernel_rfl) (by kernel_rfl) (fun _ _ _ h => h) (Or.inl ⟨by rfl, ?hypd1⟩) (by assumption) ?_
   case hypd1 =>
     intro w hSw
     (try dsimp only at hSw)
     go_simp
     try with_reducible rfl
   try simp only [Act.put, lz0, lz1, lz2, lz3, lz4, lz5]
   refine wpAnyH_take (i := 2) (v := ?vpd2) rfl (by kernel_rfl) (by kernel_rfl) (by kernel_rfl) (fun _ _ _ h => h) (Or.inl ⟨by rfl, ?hypd2⟩) (by assumption) ?_
   case hypd2 =>
     intro w hSw
     (try dsimp only at hSw)
     go_simp
     try with_reducible rfl
   try simp only [Act.put, lz0, lz1, lz2, lz3, lz4, lz5]
   refine wpAnyH_take (i := 3) (v := ?vpd3) rfl (by kernel_rfl) (by kernel_rfl) (by kernel_rfl) (fun _ _ _ h => h) (Or.inl ⟨by rfl, ?hypd3⟩) (by assumption) ?_
   case hypd3 =>
     intro w hSw
     (try dsimp only at hSw)
     go_simp
     try with_reducible rfl
   try simp only [Act.put, lz0, lz1, lz2, lz3, lz4, lz5]
   refine wpAnyH_take (i := 4) (v := ?vpd4) rfl (by kernel_rfl) (by kernel_rfl) (by kernel_rfl) (fun _ _ _ h => h) (Or.inl ⟨by rfl, ?hypd4⟩) (by assumption) ?_
   case hypd4 =>
     intro w hSw
     (try dsimp only at hSw)
     go_simp
     try with_reducible rfl
   try simp only [Act.put, lz0, lz1, lz2, lz3, lz4, lz5]
   refine wpAnyH_take (i := 5) (v := ?vpd5) rfl (by kernel_rfl) (by kernel_rfl) (by kernel_rfl) (fun _ _ _ h => h) (Or.inl ⟨by rfl, ?hypd5⟩) (by assumption) ?_
   case hypd5 =>
     intro w hSw
     (try dsimp only at hSw)
     go_simp
     try with_reducible rfl
   try simp only [Act.put, lz0, lz1, lz2, lz3, lz4, lz5]
   refine wpAnyH_ready (rs := [6]) (by kernel_rfl) (by simp) ?_
   refine AllReadyH.cons rfl (fun K hK => ?_) AllReadyH.nil
   refine step_append_run9 (by rfl) _ _ 23 23 (by rfl) _ _ (by rfl) (by rfl) _ _ (HAp.out _ _ _ (by have := HQ.out; omega) (fun h => by first | rfl | (exfalso; have := HQ.out; omega))) ?_
   refine hK.out _ _ ?_ (fun hHeld => ?_)
   · trivial
   clear hK K
   try simp only [Act.put, lz0, lz1, lz2, lz3, lz4, lz5]
   refine wpAnyH_take (i := 7) (v := ?vpd7) rfl (by kernel_rfl) (by kernel_rfl) (by kernel_rfl) (fun _ _ _ h => h) (Or.inl ⟨by rfl, ?hypd7⟩) (by assumption) ?_
   case hypd7 =>
     intro w hSw
     (try dsimp only at hSw)
     go_simp
     try with_reducible rfl
   try simp only [Act.put, lz0, lz1, lz2, lz3, lz4, lz5]
   refine wpAnyH_done (by kernel_rfl) ?_ _
   have hcl := HCl.out (q * 3) (n - q) (i + 1 - q) (by have := HQ.out.1; omega) HQ.out.2.2
   go_wp2_with (first
     | (at_builtin; refine wpList_clear_run _ rfl _ 23 rfl _ rfl _ _ hcl ?_))
   go_ret
   exact ⟨by rw [HE2.out.2]; rfl, by rw [HE2.out.1, HE2.out.2]; exact HE.out.1, HE.out.2⟩
 · skip
   refine wp_region_held_drew (S := fun w' => True) (by kernel_rfl) ?_ (fun hHeld => ?_)
   · trivial
   refine wpAnyH_take (i := 0) (v := ?vqd0) rfl (by kernel_rfl) (by kernel_rfl) (by kernel_rfl) (fun _ _ _ h => h) (Or.inl ⟨by rfl, ?hyqd0⟩) (by assumption) ?_
   case hyqd0 =>
     intro w hSw
     (try dsimp only at hSw)
     go_simp
     try with_reducible rfl
   try simp only [Act.put, lz0, lz1, lz2, lz3, lz4, lz5]
   refine wpAnyH_take (i := 1) (v := ?vqd1) rfl (by kernel_rfl) (by kernel_rfl) (by kernel_rfl) (fun _ _ _ h => h) (Or.inl ⟨by rfl, ?hyqd1⟩) (by assumption) ?_
   case hyqd1 =>
     intro w hSw
     (try dsimp only at hSw)
     go_simp
     try with_reducible rfl
   try simp only [Act.put, lz0, lz1, lz2, lz3, lz4, lz5]
   refine wpAnyH_take (i := 2) (v := ?vqd2) rfl (by kernel_rfl) (by kernel_rfl) (by kernel_rfl) (fun _ _ _ h => h) (Or.inl ⟨by rfl, ?hyqd2⟩) (by assumption) ?_
   case hyqd2 =>
     intro w hSw
     (try dsimp only at hSw)
     go_simp
     try with_reducible rfl
   try simp only [Act.put, lz0, lz1, lz2, lz3, lz4, lz5]
   refine wpAnyH_take (i := 3) (v := ?vqd3) rfl (by kernel_rfl) (by kernel_rfl) (by kernel_rfl) (fun _ _ _ h => h) (Or.inl ⟨by rfl, ?hyqd3⟩) (by assumption) ?_
   case hyqd3 =>
     intro w hSw
     (try dsimp only at hSw)
     go_simp
     try with_reducible rfl
   try simp only [Act.put, lz0, lz1, lz2, lz3, lz4, lz5]
   refine wpAnyH_take (i := 4) (v := ?vqd4) rfl (by kernel_rfl) (by kernel_rfl) (by kernel_rfl) (fun _ _ _ h => h) (Or.inl ⟨by rfl, ?hyqd4⟩) (by assumption) ?_
   case hyqd4 =>
     intro w hSw
     (try dsimp only at hSw)
     go_simp
     try with_reducible rfl
   try simp only [Act.put, lz0, lz1, lz2, lz3, lz4, lz5]
   refine wpAnyH_take (i := 5) (v := ?vqd5) rfl (by kernel_rfl) (by kernel_rfl) (by kernel_rfl) (fun _ _ _ h => h) (Or.inl ⟨by rfl, ?hyqd5⟩) (by assumption) ?_
   case hyqd5 =>
     intro w hSw
     (try dsimp only at hSw)
     go_simp
     try with_reducible rfl
   try simp only [Act.put, lz0, lz1, lz2, lz3, lz4, lz5]
   refine wpAnyH_ready (rs := [6]) (by kernel_rfl) (by simp) ?_
   refine AllReadyH.cons rfl (fun K hK => ?_) AllReadyH.nil
   refine step_append_run9 (by rfl) _ _ 23 23 (by rfl) _ _ (by rfl) (by rfl) _ _ (HAp.out _ _ _ (by have := HQ.out; omega) (fun h => by first | rfl | (exfalso; have := HQ.out; omega))) ?_
   refine hK.out _ _ ?_ (fun hHeld => ?_)
   · trivial
   clear hK K
   try simp only [Act.put, lz0, lz1, lz2, lz3, lz4, lz5]
   refine wpAnyH_take (i := 7) (v := ?vqd7) rfl (by kernel_rfl) (by kernel_rfl) (by kernel_rfl) (fun _ _ _ h => h) (Or.inl ⟨by rfl, ?hyqd7⟩) (by assumption) ?_
   case hyqd7 =>
     intro w hSw
     (try dsimp only at hSw)
     go_simp
     try with_reducible rfl
   try simp only [Act.put, lz0, lz1, lz2, lz3, lz4, lz5]
   refine wpAnyH_done (by kernel_rfl) ?_ _
   have hcl := HCl.out (q * 3) (n - q) (cap - q) (by have := HQ.out.1; omega) HQ.out.2.2
   go_wp2_with (first
     | (at_builtin; refine wpList_clear_run _ rfl _ 23 rfl _ rfl _ _ hcl ?_))
   go_ret
   exact ⟨by rw [HE2.out.2]; rfl, by rw [HE2.out.1, HE2.out.2]; exact HE.out.1, HE.out.2⟩
theorem zv_Entry (w : World) : (zeroValue 66).run Tryz.prog w = .ok (.agg #[.string ⟨#[]⟩, .int .i64 0]) w := by kernel_rfl
set_option maxRecDepth 100000 in
set_option maxHeartbeats 8000000 in
theorem del_Entry {w : World} {H g n cap : Nat} {xs : List Value} (h : w.ownsRow H 66 2 (.slice (some ⟨g, 0, none⟩) n cap) n xs) (h1 : ∀ u ∈ xs, u.oneCell' = true) (i : Nat) (hi : i < n) (hn : n ≤ 5864062014634) :
   Calls Tryz.prog 124 #[.slice (some ⟨g, 0, none⟩) n cap, .int .i64 (i : Int), .int .i64 ((i : Int) + 1)] w fun e w' => e = .returned (.slice (some ⟨g, 0, none⟩) (n - 1) cap) ∧ w'.ownsRow H 66 2 (.slice (some ⟨g, 0, none⟩) (n - 1) cap) (n - 1) (xs.take (i * 2) ++ xs.drop ((i + 1) * 2)) ∧ Kept [g] w w' := by
 rcases h.2 with ⟨-, e2⟩ | ⟨g', cap', cur, hv, hHg, hgg, hnc, hcm, hcs, htk⟩
 · omega
 simp only [Value.slice.injEq, Option.some.injEq, Addr.mk.injEq, and_true, true_and] at hv
 obtain ⟨e1, e2⟩ := hv
 subst e1 e2
 obtain ⟨i0, hi0, hz0, hz1, hz2⟩ := info_parts info_Entry
 obtain ⟨m, hm⟩ : ∃ m, n = i + 1 + m := ⟨n - (i + 1), by omega⟩
 have hlx : xs.length = n * 2 := h.1
 have hAl : cur.toList.length = cap * 2 := by simpa using hcs
 obtain ⟨cs, hcs2⟩ : ∃ cs, xs.drop ((i + 1) * 2) = cs := ⟨_, rfl⟩
 have hcl : cs.length = m * 2 := by rw [← hcs2, List.length_drop, hlx]; omega
 have h1c : ∀ u ∈ cs, u.oneCell' = true := fun u hu => h1 u (List.mem_of_mem_drop (hcs2 ▸ hu))
 have hsrc : ∀ (a : Addr), (0 < m → a = ⟨g, (i + 1) * 2, none⟩) → ∀ j v, cs[j]? = some v → w.drew.cell? (a.add j) = some v := fun a ha j v hj => by
   have hjl : j < cs.length := by
     rcases Nat.lt_or_ge j cs.length with h | h
     · exact h
     · rw [List.getElem?_eq_none h] at hj; cases hj
   rw [ha (by omega), add_lit]
   show w.cell? _ = _
   rw [cellB hgg]
   rw [← hcs2, List.getElem?_drop, ← htk, List.getElem?_take_of_lt (by omega)] at hj
   simpa using hj
 obtain ⟨A, hA⟩ : ∃ A, cur.toList = A := ⟨_, rfl⟩
 have ap : ∀ (a : Addr) (c : Nat), (0 < m → a = ⟨g, (i + 1) * 2, none⟩) → (Builtin.append_ #[62, 62] 62 #[.slice (some ⟨g, 0, none⟩) i cap, .slice (some a) m c]).run Tryz.prog w.drew = .ok (.slice (some ⟨g, 0, none⟩) (i + m) cap) (w.drew.setRow g (A.take (i * 2) ++ cs ++ A.drop (i * 2 + m * 2)).toArray) := fun a c ha => by
   have := run_append_in (P := Tryz.prog) w.drew 62 62 66 i0 2 Tryz.underlying62 hi0 hz1 g i cap a m c cs cur 66 hgg hcl (hsrc a ha) (by omega) (by rw [hcl]; simp only [Array.size_eq_length_toList] at *; omega) h1c
   rw [hA, hcl] at this
   exact this
 obtain ⟨q1, q2, q3⟩ := take1 (A := A) (cs := cs) (Z := ((.agg #[.string ⟨#[]⟩, .int .i64 0]) : Value).cells.toList) (p := i * 2) (k := 2) (r := m * 2) (by rw [← hA, hAl]; omega) hcl (by simp [Value.cells])
 obtain ⟨A1, hA1⟩ : ∃ A1, A.take (i * 2) ++ cs ++ A.drop (i * 2 + m * 2) = A1 := ⟨_, rfl⟩
 rw [hA1] at q1 q2 q3 ap
 obtain ⟨W1, hW1⟩ : ∃ W1, w.drew.setRow g A1.toArray = W1 := ⟨_, rfl⟩
 have hg1 : W1.heap[g]? = some (.cells A1.toArray 66 (0, 0)) := by rw [← hW1]; exact setRow_heap w.drew g cur _ _ _ hgg
 rw [hW1] at ap
 obtain ⟨A2, hA2⟩ : ∃ A2, A1.take (i * 2 + m * 2) ++ ((.agg #[.string ⟨#[]⟩, .int .i64 0]) : Value).cells.toList ++ A1.drop (i * 2 + m * 2 + 2) = A2 := ⟨_, rfl⟩
 rw [hA2] at q1 q2
 have cl : ∀ o c, o = i * 2 + m * 2 → (Builtin.clear_ #[62] 0 #[.slice (some ⟨g, o, none⟩) 1 c]).run Tryz.prog W1 = .ok (.tuple #[]) (W1.setRow g A2.toArray) := fun o c ho => by
   have := run_clear_one (P := Tryz.prog) W1 62 66 0 (.agg #[.string ⟨#[]⟩, .int .i64 0]) 2 Tryz.underlying62 zv_Entry rfl (by intro v hv; simp [Value.cells] at hv; rcases hv with rfl | rfl <;> rfl) g o c A1.toArray 66 hg1 (by rw [ho]; simp only [List.size_toArray]; rw [q3, ← hA, hAl]; omega)
   rw [ho] at this ⊢
   rw [List.toList_toArray, hA2] at this
   exact this
 obtain ⟨W2, hW2⟩ : ∃ W2, W1.setRow g A2.toArray = W2 := ⟨_, rfl⟩
 rw [hW2] at cl
 have HE : Hid (W2.ownsRow H 66 2 (.slice (some ⟨g, 0, none⟩) (i + m) cap) (i + m) (xs.take (i * 2) ++ cs) ∧ Kept [g] w W2) := by
   refine ⟨⟨?_, .inr ⟨g, cap, A2.toArray, rfl, hHg, ?_, by omega, hcm, ?_, ?_⟩⟩, ?_⟩
   · rw [List.length_append, List.length_take, hlx, hcl]; omega
   · rw [← hW2]; exact setRow_heap W1 g A1.toArray _ _ _ hg1
   · simp only [List.size_toArray]; rw [q2, ← hA]; exact hcs
   · rw [List.toList_toArray, Nat.add_mul, q1, ← htk, hA, List.take_take, Nat.min_eq_left (by omega)]
   · rw [← hW2, ← hW1]
     exact ((Kept.refl _ w).drew.setRow (Or.inl (by simp)) _).setRow (Or.inl (by simp)) _
 have HAp : Hid (∀ (a : Addr) (mm c : Nat), mm = m → (0 < m → a = ⟨g, (i + 1) * 2, none⟩) → (Builtin.append_ #[62, 62] 62 #[.slice (some ⟨g, 0, none⟩) i cap, .slice (some a) mm c]).run Tryz.prog w.drew = .ok (.slice (some ⟨g, 0, none⟩) (i + m) cap) W1) := fun a mm c hmm ha => by subst hmm; exact ap a c ha
 have HCl : Hid (∀ o l c, l = 1 → o = i * 2 + m * 2 → (Builtin.clear_ #[62] 0 #[.slice (some ⟨g, o, none⟩) l c]).run Tryz.prog W1 = .ok (.tuple #[]) W2) := fun o l c hl ho => by subst hl; exact cl o c ho
 obtain ⟨q, hq⟩ : ∃ q, i + m = q := ⟨_, rfl⟩
 rw [hq] at HAp HE
 have HQ : Hid (n = q + 1 ∧ m = n - (i + 1) ∧ q * 2 = i * 2 + m * 2) := ⟨by omega, by omega, by rw [← hq]; omega⟩
 have HE2 : Hid (xs.drop ((i + 1) * 2) = cs ∧ n - 1 = q) := ⟨hcs2, by omega⟩
 have i1 : (0 : Int) ≤ (i : Int) := by omega
 have i2 : (i : Int) ≤ (i : Int) + 1 := by omega
 have i3 : (i : Int) + 1 ≤ (n : Int) := by omega
 have i4 : (n : Int) ≤ (cap : Int) := by omega
 have i5 : ¬ (i : Int) = (i : Int) + 1 := by omega
 have i6 : ((i : Int) == (i : Int) + 1) = false := by simpa using i5
 have i7 : ¬ n = i := by omega
 have i8 : (0 : Int) ≤ (i : Int) + 1 := by omega
 have i9 : ((i : Int) + 1).toNat = i + 1 := by omega
 have j1 : (q : Int) ≤ (n : Int) := by omega
 have j2 : (0 : Int) ≤ (q : Int) := by omega
 have j3 : ¬ cap = q := by omega
 have j4 : i ≤ cap := by omega
 have j5 : (i : Int) ≤ (cap : Int) := by omega
 have hcap : cap ≤ 9223372036854775807 := by unfold maxLen at hcm; omega
 clear h h1 hi hn hHg hgg hcm hcs htk hi0 hz0 hz1 hz2 hlx hAl hcl h1c hsrc hA q1 q2 q3 hA1 hW1 hg1 hA2 hW2 ap cl hq hm hcs2
 go_enter Tryz.func124, Tryz.ntmps124
 go_upto_region 5 with fail
 by_cases hc : cap = i + 1
 · subst hc
   have k3 : ¬ i + 1 = q := j3
   refine wp_region_held_drew (S := fun w' => True) (by kernel_rfl) ?_ (fun hHeld => ?_)
   · trivial
   refine wpAnyH_take (i := 0) (v := ?vpe0) rfl (by kernel_rfl) (by kernel_rfl) (by kernel_rfl) (fun _ _ _ h => h) (Or.inl ⟨by rfl, ?hype0⟩) (by assumption) ?_
   case hype0 =>
     intro w hSw
     (try dsimp only at hSw)
     go_simp
     try with_reducible rfl
   try simp only [Act.put, lz0, lz1, lz2, lz3, lz4, lz5]
   refine wpAnyH_take (i := 1) (v := ?vpe1) rfl (by kernel_rfl) (by kernel_rfl) (by kernel_rfl) (fun _ _ _ h => h) (Or.inl ⟨by rfl, ?hype1⟩) (by assumption) ?_
   case hype1 =>
     intro w hSw
     (try dsimp only at hSw)
     go_simp
     try with_reducible rfl
   try simp only [Act.put, lz0, lz1, lz2, lz3, lz4, lz5]
   refine wpAnyH_take (i := 2) (v := ?vpe2) rfl (by kernel_rfl) (by kernel_rfl) (by kernel_rfl) (fun _ _ _ h => h) (Or.inl ⟨by rfl, ?hype2⟩) (by assumption) ?_
   case hype2 =>
     intro w hSw
     (try dsimp only at hSw)
     go_simp
     try with_reducible rfl
   try simp only [Act.put, lz0, lz1, lz2, lz3, lz4, lz5]
   refine wpAnyH_take (i := 3) (v := ?vpe3) rfl (by kernel_rfl) (by kernel_rfl) (by kernel_rfl) (fun _ _ _ h => h) (Or.inl ⟨by rfl, ?hype3⟩) (by assumption) ?_
   case hype3 =>
     intro w hSw
     (try dsimp only at hSw)
     go_simp
     try with_reducible rfl
   try simp only [Act.put, lz0, lz1, lz2, lz3, lz4, lz5]
   refine wpAnyH_take (i := 4) (v := ?vpe4) rfl (by kernel_rfl) (by kernel_rfl) (by kernel_rfl) (fun _ _ _ h => h) (Or.inl ⟨by rfl, ?hype4⟩) (by assumption) ?_
   case hype4 =>
     intro w hSw
     (try dsimp only at hSw)
     go_simp
     try with_reducible rfl
   try simp only [Act.put, lz0, lz1, lz2, lz3, lz4, lz5]
   refine wpAnyH_take (i := 5) (v := ?vpe5) rfl (by kernel_rfl) (by kernel_rfl) (by kernel_rfl) (fun _ _ _ h => h) (Or.inl ⟨by rfl, ?hype5⟩) (by assumption) ?_
   case hype5 =>
     intro w hSw
     (try dsimp only at hSw)
     go_simp
     try with_reducible rfl
   try simp only [Act.put, lz0, lz1, lz2, lz3, lz4, lz5]
   refine wpAnyH_ready (rs := [6]) (by kernel_rfl) (by simp) ?_
   refine AllReadyH.cons rfl (fun K hK => ?_) AllReadyH.nil
   refine step_append_run9 (by rfl) _ _ 62 62 (by rfl) _ _ (by rfl) (by rfl) _ _ (HAp.out _ _ _ (by have := HQ.out; omega) (fun h => by first | rfl | (exfalso; have := HQ.out; omega))) ?_
   refine hK.out _ _ ?_ (fun hHeld => ?_)
   · trivial
   clear hK K
   try simp only [Act.put, lz0, lz1, lz2, lz3, lz4, lz5]
   refine wpAnyH_take (i := 7) (v := ?vpe7) rfl (by kernel_rfl) (by kernel_rfl) (by kernel_rfl) (fun _ _ _ h => h) (Or.inl ⟨by rfl, ?hype7⟩) (by assumption) ?_
   case hype7 =>
     intro w hSw
     (try dsimp only at hSw)
     go_simp
     try with_reducible rfl
   try simp only [Act.put, lz0, lz1, lz2, lz3, lz4, lz5]
   refine wpAnyH_done (by kernel_rfl) ?_ _
   have hcl := HCl.out (q * 2) (n - q) (i + 1 - q) (by have := HQ.out.1; omega) HQ.out.2.2
   go_wp2_with (first
     | (at_builtin; refine wpList_clear_run _ rfl _ 62 rfl _ rfl _ _ hcl ?_))
   go_ret
   exact ⟨by rw [HE2.out.2]; rfl, by rw [HE2.out.1, HE2.out.2]; exact HE.out.1, HE.out.2⟩
 · skip
   refine wp_region_held_drew (S := fun w' => True) (by kernel_rfl) ?_ (fun hHeld => ?_)
   · trivial
   refine wpAnyH_take (i := 0) (v := ?vqe0) rfl (by kernel_rfl) (by kernel_rfl) (by kernel_rfl) (fun _ _ _ h => h) (Or.inl ⟨by rfl, ?hyqe0⟩) (by assumption) ?_
   case hyqe0 =>
     intro w hSw
     (try dsimp only at hSw)
     go_simp
     try with_reducible rfl
   try simp only [Act.put, lz0, lz1, lz2, lz3, lz4, lz5]
   refine wpAnyH_take (i := 1) (v := ?vqe1) rfl (by kernel_rfl) (by kernel_rfl) (by kernel_rfl) (fun _ _ _ h => h) (Or.inl ⟨by rfl, ?hyqe1⟩) (by assumption) ?_
   case hyqe1 =>
     intro w hSw
     (try dsimp only at hSw)
     go_simp
     try with_reducible rfl
   try simp only [Act.put, lz0, lz1, lz2, lz3, lz4, lz5]
   refine wpAnyH_take (i := 2) (v := ?vqe2) rfl (by kernel_rfl) (by kernel_rfl) (by kernel_rfl) (fun _ _ _ h => h) (Or.inl ⟨by rfl, ?hyqe2⟩) (by assumption) ?_
   case hyqe2 =>
     intro w hSw
     (try dsimp only at hSw)
     go_simp
     try with_reducible rfl
   try simp only [Act.put, lz0, lz1, lz2, lz3, lz4, lz5]
   refine wpAnyH_take (i := 3) (v := ?vqe3) rfl (by kernel_rfl) (by kernel_rfl) (by kernel_rfl) (fun _ _ _ h => h) (Or.inl ⟨by rfl, ?hyqe3⟩) (by assumption) ?_
   case hyqe3 =>
     intro w hSw
     (try dsimp only at hSw)
     go_simp
     try with_reducible rfl
   try simp only [Act.put, lz0, lz1, lz2, lz3, lz4, lz5]
   refine wpAnyH_take (i := 4) (v := ?vqe4) rfl (by kernel_rfl) (by kernel_rfl) (by kernel_rfl) (fun _ _ _ h => h) (Or.inl ⟨by rfl, ?hyqe4⟩) (by assumption) ?_
   case hyqe4 =>
     intro w hSw
     (try dsimp only at hSw)
     go_simp
     try with_reducible rfl
   try simp only [Act.put, lz0, lz1, lz2, lz3, lz4, lz5]
   refine wpAnyH_take (i := 5) (v := ?vqe5) rfl (by kernel_rfl) (by kernel_rfl) (by kernel_rfl) (fun _ _ _ h => h) (Or.inl ⟨by rfl, ?hyqe5⟩) (by assumption) ?_
   case hyqe5 =>
     intro w hSw
     (try dsimp only at hSw)
     go_simp
     try with_reducible rfl
   try simp only [Act.put, lz0, lz1, lz2, lz3, lz4, lz5]
   refine wpAnyH_ready (rs := [6]) (by kernel_rfl) (by simp) ?_
   refine AllReadyH.cons rfl (fun K hK => ?_) AllReadyH.nil
   refine step_append_run9 (by rfl) _ _ 62 62 (by rfl) _ _ (by rfl) (by rfl) _ _ (HAp.out _ _ _ (by have := HQ.out; omega) (fun h => by first | rfl | (exfalso; have := HQ.out; omega))) ?_
   refine hK.out _ _ ?_ (fun hHeld => ?_)
   · trivial
   clear hK K
   try simp only [Act.put, lz0, lz1, lz2, lz3, lz4, lz5]
   refine wpAnyH_take (i := 7) (v := ?vqe7) rfl (by kernel_rfl) (by kernel_rfl) (by kernel_rfl) (fun _ _ _ h => h) (Or.inl ⟨by rfl, ?hyqe7⟩) (by assumption) ?_
   case hyqe7 =>
     intro w hSw
     (try dsimp only at hSw)
     go_simp
     try with_reducible rfl
   try simp only [Act.put, lz0, lz1, lz2, lz3, lz4, lz5]
   refine wpAnyH_done (by kernel_rfl) ?_ _
   have hcl := HCl.out (q * 2) (n - q) (cap - q) (by have := HQ.out.1; omega) HQ.out.2.2
   go_wp2_with (first
     | (at_builtin; refine wpList_clear_run _ rfl _ 62 rfl _ rfl _ _ hcl ?_))
   go_ret
   exact ⟨by rw [HE2.out.2]; rfl, by rw [HE2.out.1, HE2.out.2]; exact HE.out.1, HE.out.2⟩
end Go.Proofs.YtmeafancgmkfkaaGreatDoor
