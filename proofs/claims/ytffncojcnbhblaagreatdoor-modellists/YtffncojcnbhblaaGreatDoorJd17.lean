/-
  Joined of my texts Is.
-/
import Derived.Test.YtffncojcnbhblaaGreatDoorJd16
set_option linter.unusedVariables false
set_option linter.unusedSimpArgs false
set_option maxRecDepth 100000
set_option maxHeartbeats 8000000
namespace Go.Proofs.YtffncojcnbhblaaGreatDoor
open Go.RowKit
def InsR (H : Nat) (T : TypeId) (k : Nat) (v : Value) (n : Nat) (zs : List Value) (w : World) (e : Ending) (w' : World) : Prop :=
 ∃ v', e = .returned v' ∧ w'.ownsRow H T k v' n zs ∧ Kept v.ownBlock.toList w w' ∧ ∀ b, v'.ownBlock = some b → v.ownBlock = some b ∨ w.heap.size ≤ b
theorem InsR.mk {H : Nat} {T : TypeId} {k : Nat} {v v' : Value} {n : Nat} {zs : List Value} {w w' : World} (h : w'.ownsRow H T k v' n zs) (k1 : Kept v.ownBlock.toList w w') (h2 : ∀ b, v'.ownBlock = some b → v.ownBlock = some b ∨ w.heap.size ≤ b) : InsR H T k v n zs w (.returned v') w' := ⟨v', rfl, h, k1, h2⟩
theorem sz_Entry : (Tryz.prog.info? 64).map (·.size) = some 2 := by kernel_rfl
theorem so_Entry (w : World) : (Go.sizeOf 64).run Tryz.prog w = .ok 2 w := by kernel_rfl
theorem ins_Entry {w : World} {H : Nat} {v : Value} {n : Nat} {xs : List Value} (h : w.ownsRow H 64 2 v n xs) (hH : H ≤ w.heap.size) (h1 : ∀ u ∈ xs, u.oneCell' = true) (i : Nat) (hi : i ≤ n) (hn : n ≤ 5864062014634) (Y : Nat) (ys : List Value) (hyl : ys.length = 2) (hY : w.heap[Y]? = some (.cells ys.toArray 64 (0, 0))) (hy1 : ∀ u ∈ ys, u.oneCell' = true) (hYv : v.ownBlock ≠ some Y) :
  Calls Tryz.prog 162 #[v, .int .i64 (i : Int), .slice (some ⟨Y, 0, none⟩) 1 1] w (InsR H 64 2 v (n + 1) (xs.take (i * 2) ++ ys ++ xs.drop (i * 2)) w) := by
 obtain ⟨i0, hi0, hz0, hz1, hz2⟩ := info_parts info_Entry
 have hyc : ∀ (W : World), W.heap[Y]? = w.heap[Y]? → ∀ j u, ys[j]? = some u → W.cell? ((⟨Y, 0, none⟩ : Addr).add j) = some u := fun W hW j u hu => by
  rw [add_lit, Nat.zero_add, cellB (hW.trans hY)]
  simpa using hu
 by_cases hin : i = n
 ·
  subst hin
  obtain ⟨g, cap, w', hr, r1, gr, hg, hgl⟩ := run_append_lies (P := Tryz.prog) w 60 60 H 64 i0 _ 2 24 Tryz.underlying60 hi0 hz0 hz1 hz2 rfl (by omega) v i xs h ⟨Y, 0, none⟩ 1 1 ys (by omega) (hyc w rfl) hy1 (by omega) (by unfold maxLen; omega) (by omega) hH w.heap.size rfl
  have HE : Hid (InsR H 64 2 v (i + 1) (xs.take (i * 2) ++ ys ++ xs.drop (i * 2)) w (.returned (.slice (some ⟨g, 0, none⟩) (i + 1) cap)) w') := by
   refine InsR.mk ?_ ((Kept.refl _ w).grown gr (fun b hb => Or.inl (by simp [hb]))) (fun b hb => ?_)
   ·
    rw [List.take_of_length_le (by rw [h.1]; exact Nat.le_refl _), List.drop_of_length_le (by rw [h.1]; exact Nat.le_refl _), List.append_nil]
    exact r1
   ·
    have : b = g := by simpa [Value.ownBlock] using hb.symm
    subst this
    rcases hg with hg | hg
    · exact Or.inl hg
    · exact Or.inr (by omega)
  have HAp : Hid (_) := hr
  obtain ⟨a, c, hv, hc, hf, -⟩ := row_form h
  have HN : Hid (a = none → i = 0 ∧ c = 0) := fun e => by
   rcases h.2 with ⟨e1, e2⟩ | ⟨g', cap', cur', e1, -⟩
   · rw [hv] at e1; simp only [Value.slice.injEq] at e1; exact ⟨e2, e1.2.2⟩
   · rw [hv, e] at e1; cases e1
  rw [hv] at HAp ⊢
  have b1 : ((i : Int) == (i : Int)) = true := by simp
  have l0 : (0 : Int) ≤ (i : Int) := by omega
  have l1 : (i : Int) ≤ (i : Int) := by omega
  rw [hv] at HE
  clear h h1 hY hyc hi0 hz0 hz1 hz2 hr r1 gr hg hgl hv hYv hi hy1 hyl
  rcases a with _ | x
  ·
   obtain ⟨e1, e2⟩ := HN.out rfl
   subst e1 e2
   go_enter Tryz.func162, Tryz.ntmps162
   go_wp2_with (first
    | (at_builtin; refine wpList_append_run _ rfl _ _ 60 60 rfl _ _ rfl rfl _ _ HAp.out ?_))
   go_ret
   exact HE.out
  ·
   obtain ⟨g2, rfl, -⟩ := hf x rfl
   by_cases hcn : c = i
   ·
    subst hcn
    go_enter Tryz.func162, Tryz.ntmps162
    go_wp2_with (first
     | (at_builtin; refine wpList_append_run _ rfl _ _ 60 60 rfl _ _ rfl rfl _ _ HAp.out ?_))
    go_ret
    exact HE.out
   ·
    go_enter Tryz.func162, Tryz.ntmps162
    go_wp2_with (first
     | (at_builtin; refine wpList_append_run _ rfl _ _ 60 60 rfl _ _ rfl rfl _ _ HAp.out ?_))
    go_ret
    exact HE.out
 have hlt : i < n := by omega
 obtain ⟨zs, hzs⟩ : ∃ zs, xs.take (i * 2) ++ ys ++ xs.drop (i * 2) = zs := ⟨_, rfl⟩
 rw [hzs]
 rcases h.2 with ⟨-, e2⟩ | ⟨g, cap, cur, hv, hHg, hgg, hnc, hcm, hcs, htk⟩
 · omega
 subst hv
 have hlx : xs.length = n * 2 := h.1
 have hPl : (xs.take (i * 2)).length = i * 2 := by rw [List.length_take, hlx]; omega
 have hRl : (xs.drop (i * 2)).length = (n - i) * 2 := by rw [List.length_drop, hlx]; omega
 have hAP : cur.toList.take (i * 2) = xs.take (i * 2) := by
  rw [← htk, List.take_take, Nat.min_eq_left (by omega)]
 have hAl : cur.toList.length = cap * 2 := by simpa using hcs
 have hgY : Y ≠ g := fun e => hYv (by rw [e]; rfl)
 have hxc : ∀ (W : World), W.heap[g]? = w.heap[g]? → ∀ j u, (xs.drop (i * 2))[j]? = some u → W.cell? ((⟨g, i * 2, none⟩ : Addr).add j) = some u := fun W hW j u hu => by
  rw [add_lit, cellB (hW.trans hgg)]
  rw [List.getElem?_drop] at hu
  have hj : i * 2 + j < n * 2 := by
   rcases Nat.lt_or_ge (i * 2 + j) xs.length with h | h
   · omega
   · rw [List.getElem?_eq_none h] at hu; cases hu
  rw [← htk, List.getElem?_take_of_lt hj] at hu
  simpa using hu
 have h1R : ∀ u ∈ xs.drop (i * 2), u.oneCell' = true := fun u hu => h1 u (List.mem_of_mem_drop hu)
 have h1P : ∀ u ∈ xs.take (i * 2), u.oneCell' = true := fun u hu => h1 u (List.mem_of_mem_take hu)
 have b1 : ((i : Int) == (n : Int)) = false := by simp; omega
 have b0 : ¬ ((i : Int) = (n : Int)) := by omega
 have l0 : (0 : Int) ≤ (i : Int) := by omega
 have l1 : (i : Int) ≤ (n : Int) := by omega
 have l2 : ¬ cap = i := by omega
 have hcap : cap ≤ 9223372036854775807 := by unfold maxLen at hcm; omega
 obtain ⟨m, hm⟩ : ∃ m : Nat, n + 1 = i + m := ⟨n + 1 - i, by omega⟩
 by_cases hroom : n + 1 ≤ cap
 ·
  -- in place
  obtain ⟨q3, q4, q5⟩ := put3 (A := cur.toList) (P := xs.take (i * 2)) (Y := ys) (R := xs.drop (i * 2)) (p := i * 2) (k := 2) (r := (n - i) * 2) hAP hPl hyl hRl (by rw [hAl]; omega)
  have e1 : (i + 1) * 2 = i * 2 + 2 := by omega
  have e2 : (n + 1) * 2 = i * 2 + 2 + (n - i) * 2 := by omega
  obtain ⟨A1, hA1⟩ : ∃ A1, cur.toList.take (i * 2 + 2) ++ xs.drop (i * 2) ++ cur.toList.drop (i * 2 + 2 + (n - i) * 2) = A1 := ⟨_, rfl⟩
  rw [hA1] at q3 q4 q5
  obtain ⟨A2, hA2⟩ : ∃ A2, A1.take (i * 2) ++ ys ++ A1.drop (i * 2 + 2) = A2 := ⟨_, rfl⟩
  rw [hA2] at q3 q4
  obtain ⟨W1, hW1⟩ : ∃ W1, w.drew.setRow g A1.toArray = W1 := ⟨_, rfl⟩
  have hg1 : W1.heap[g]? = some (.cells A1.toArray 64 (0, 0)) := by rw [← hW1]; exact setRow_heap w.drew g cur _ _ _ hgg
  have hY1 : W1.heap[Y]? = w.heap[Y]? := by
   rw [← hW1]
   exact ((Kept.refl [g] w.drew).setRow (Or.inl (by simp)) A1.toArray).block Y (lt_of_heap hY) (by simpa using hgY)
  have HC1 : Hid (∀ dl dc oo sl sc, dl = n + 1 - (i + 1) → oo = i * 2 + 2 → sl = n + 1 - i → (Builtin.copy_ #[60, 60] 3 #[.slice (some ⟨g, oo, none⟩) dl dc, .slice (some ⟨g, i * 2, none⟩) sl sc]).run Tryz.prog w.drew = .ok (goInt ((n - i : Nat) : Int)) W1) := fun dl dc oo sl sc hdl hoo hsl => by
   subst hdl hoo hsl
   have := run_copy_k (P := Tryz.prog) w.drew 60 60 3 64 g (i * 2 + 2) (n + 1 - (i + 1)) dc ⟨g, i * 2, none⟩ (n + 1 - i) sc cur 64 (xs.drop (i * 2)) 2 Tryz.underlying60 sz_Entry hgg (by rw [hRl, show Nat.min (n + 1 - i) (n + 1 - (i + 1)) = n - i from by simp only [Nat.min_def]; split <;> omega]) (hxc w.drew rfl) (by rw [hRl]; simp only [Array.size_eq_length_toList] at *; omega) h1R
   rw [hRl, hA1, hW1, show Nat.min (n + 1 - i) (n + 1 - (i + 1)) = n - i from by simp only [Nat.min_def]; split <;> omega] at this
   exact this
  obtain ⟨W2, hW2⟩ : ∃ W2, W1.setRow g A2.toArray = W2 := ⟨_, rfl⟩
  have HC2 : Hid (∀ dl dc, dl = n + 1 - i → (Builtin.copy_ #[60, 60] 3 #[.slice (some ⟨g, i * 2, none⟩) dl dc, .slice (some ⟨Y, 0, none⟩) 1 1]).run Tryz.prog W1 = .ok (goInt 1) W2) := fun dl dc hdl => by
   subst hdl
   have := run_copy_k (P := Tryz.prog) W1 60 60 3 64 g (i * 2) (n + 1 - i) dc ⟨Y, 0, none⟩ 1 1 A1.toArray 64 ys 2 Tryz.underlying60 sz_Entry hg1 (by rw [hyl, show Nat.min 1 (n + 1 - i) = 1 from by simp only [Nat.min_def]; split <;> omega]) (hyc W1 hY1) (by rw [hyl]; simp only [List.size_toArray]; omega) hy1
   rw [hyl, show Nat.min 1 (n + 1 - i) = 1 from by simp only [Nat.min_def]; split <;> omega] at this
   simp only [List.toList_toArray] at this
   rw [hA2, hW2] at this
   exact this
  have HE : Hid (InsR H 64 2 (.slice (some ⟨g, 0, none⟩) n cap) (n + 1) zs w (.returned (.slice (some ⟨g, 0, none⟩) (n + 1) cap)) W2) := by
   rw [← hzs]
   refine InsR.mk ⟨?_, .inr ⟨g, cap, A2.toArray, rfl, hHg, ?_, hroom, hcm, ?_, ?_⟩⟩ ?_ (fun b hb => Or.inl hb)
   · rw [List.length_append, List.length_append, hPl, hyl, hRl]; omega
   · rw [← hW2]; exact setRow_heap W1 g A1.toArray _ _ _ hg1
   · simp only [List.size_toArray]; omega
   · rw [List.toList_toArray, e2]; exact q3
   ·
    rw [← hW2, ← hW1]
    exact ((Kept.refl _ w).drew.setRow (Or.inl (by simp [Value.ownBlock])) _).setRow (Or.inl (by simp [Value.ownBlock])) _
  have HOv : Hid (∀ lb cb, (callFunc 168 #[.slice (some ⟨Y, 0, none⟩) 1 1, .slice (some ⟨g, i * 2 + 2, none⟩) lb cb]).run Tryz.prog w = .ok (.value (.bool false)) w) := fun lb cb => by
   have hsa : w.shape? Y = some (64, 2) := by unfold World.shape?; rw [hY]; simp [hyl]
   have hsb : w.shape? g = some (64, cap * 2) := by unfold World.shape?; rw [hgg]; simp [hcs]
   rw [run_callFunc_extern Tryz.func168 (by kernel_rfl) (by kernel_rfl) (by kernel_rfl) (e := Extern.SlicesOverlaps.overlaps #[60, 60] #[4]) (by kernel_rfl),
    Lib.run_overlaps_apart w 60 4 64 Tryz.underlying60 2 so_Entry ⟨Y, 0, none⟩ ⟨g, i * 2 + 2, none⟩ 1 1 lb cb hgY 64 64 2 (cap * 2) hsa hsb (by omega) (frozen_of hY 0) (frozen_of hY 2)]
   rfl
  have v1 : (n : Int) + 1 ≤ (cap : Int) := by omega
  have v2 : ¬ (cap : Int) < (n : Int) + 1 := by omega
  have v3 : IntKind.i64.wrap ((i : Int) + 1) = (i : Int) + 1 := by rw [IntKind.wrap_i64]; omega
  have v4 : (0 : Int) ≤ (i : Int) + 1 := by omega
  have v5 : ((i : Int) + 1).toNat = i + 1 := by omega
  have v6 : (i : Int) + 1 ≤ (n : Int) + 1 := by omega
  have v7 : ¬ cap = i + 1 := by omega
  have v8 : (i : Int) ≤ (n : Int) + 1 := by omega
  have v9 : ((n : Int) + 1).toNat = n + 1 := by omega
  have v10 : (0 : Int) ≤ (n : Int) + 1 := by omega
  have v11 : i ≤ n := by omega
  have v12 : i ≤ n + 1 := by omega
  have v13 : (i + 1) * 2 = i * 2 + 2 := e1
  clear q3 q4 q5 e2 hA1 hA2 hg1 hY1 hW1 hW2 htk hAP hxc hyc h1R h1P h1 hy1 hcs hAl h hgg hY hm hPl hRl hlx hzs
  go_enter Tryz.func162, Tryz.ntmps162
  go_wp2_with (simp only [HOv.out])
  go_region_held3 (fun w' => True) (first | trivial | go_keep)
   (first
    | (refine step_copy_run (by rfl) _ _ 60 60 (by rfl) _ _ (by rfl) (by rfl) _ _ (HC1.out _ _ _ _ _ (by omega) (by omega) (by omega)) ?_))
  go_wp2_with fail
  rw [HC2.out _ _ rfl]
  go_wp2_with fail
  go_ret
  exact HE.out
 ·
  -- a new row
  obtain ⟨cap', zs0, hr, hzl, hc1, hc2⟩ := run_append_make (P := Tryz.prog) w 60 3 60 64 i0 _ 2 24 Tryz.underlying60 Tryz.underlying3 hi0 hz0 hz1 hz2 rfl (by omega) H g i cap m (xs.take (i * 2)) hPl (fun j u hu => by
   rw [cellB hgg]
   have hj : j < i * 2 := by
    rcases Nat.lt_or_ge j (xs.take (i * 2)).length with h | h
    · omega
    · rw [List.getElem?_eq_none h] at hu; cases hu
   rw [← hAP, List.getElem?_take_of_lt hj] at hu
   simpa using hu) (by omega) (by omega) (by omega) (by omega) hH
  obtain ⟨A, hA⟩ : ∃ A, ((xs.take (i * 2) ++ zs0).toArray ++ Builtin.zeroCells (i0.zero.getD (.bool false)).cells (cap' - (i + m))) = A := ⟨_, rfl⟩
  rw [hz0] at hA
  simp only [Option.getD_some] at hA
  rw [hA] at hr
  have hAn : A.toList.length = cap' * 2 := by
   rw [← hA, Array.toList_append, List.length_append, List.toList_toArray, List.length_append, hPl, hzl, Array.length_toList, zeroCells_size]
   have : (Value.cells (.agg #[.string ⟨#[]⟩, .int .i64 0])).size = 2 := rfl
   rw [this]
   have e9 : cap' * 2 = (i + m) * 2 + (cap' - (i + m)) * 2 := by rw [← Nat.add_mul]; congr 1; omega
   rw [e9, Nat.add_mul]
  have hAt : A.toList.take (i * 2) = xs.take (i * 2) := by
   rw [← hA, Array.toList_append, List.toList_toArray, List.append_assoc]
   exact List.take_left' hPl
  obtain ⟨W1, hW1⟩ : ∃ W1, w.drew.alloc (.cells A 64) = W1 := ⟨_, rfl⟩
  rw [hW1] at hr
  obtain ⟨G, hG⟩ : ∃ G, w.heap.size = G := ⟨_, rfl⟩
  rw [hG] at hr
  have hg1 : W1.heap[G]? = some (.cells A 64 (0, 0)) := by rw [← hW1, ← hG]; exact Go.heap_alloc_new w.drew _
  have k1 : Kept [] w W1 := by rw [← hW1]; exact (Kept.refl [] w).drew.alloc _
  have hgl : g < G := by rw [← hG]; exact lt_of_heap hgg
  have hYl : Y < G := by rw [← hG]; exact lt_of_heap hY
  obtain ⟨q3, q4, q5⟩ := put2 (A := A.toList) (P := xs.take (i * 2)) (Y := ys) (R := xs.drop (i * 2)) (p := i * 2) (k := 2) (r := (n - i) * 2) hAt hPl hyl hRl (by rw [hAn]; omega)
  obtain ⟨A1, hA1⟩ : ∃ A1, A.toList.take (i * 2) ++ ys ++ A.toList.drop (i * 2 + 2) = A1 := ⟨_, rfl⟩
  rw [hA1] at q3 q4 q5
  obtain ⟨A2, hA2⟩ : ∃ A2, A1.take (i * 2 + 2) ++ xs.drop (i * 2) ++ A1.drop (i * 2 + 2 + (n - i) * 2) = A2 := ⟨_, rfl⟩
  rw [hA2] at q3 q4
  obtain ⟨W2, hW2⟩ : ∃ W2, W1.setRow G A1.toArray = W2 := ⟨_, rfl⟩
  have hg2 : W2.heap[G]? = some (.cells A1.toArray 64 (0, 0)) := by rw [← hW2]; exact setRow_heap W1 G A _ _ _ hg1
  have k2 : Kept [G] W1 W2 := by rw [← hW2]; exact (Kept.refl [G] W1).setRow (Or.inl (by simp)) _
  have HC1 : Hid (∀ dl dc, dl = m → (Builtin.copy_ #[60, 60] 3 #[.slice (some ⟨G, i * 2, none⟩) dl dc, .slice (some ⟨Y, 0, none⟩) 1 1]).run Tryz.prog W1 = .ok (goInt 1) W2) := fun dl dc hdl => by
   subst hdl
   have := run_copy_k (P := Tryz.prog) W1 60 60 3 64 G (i * 2) dl dc ⟨Y, 0, none⟩ 1 1 A 64 ys 2 Tryz.underlying60 sz_Entry hg1 (by rw [hyl, show Nat.min 1 dl = 1 from by simp only [Nat.min_def]; split <;> omega]) (hyc W1 (k1.block Y (lt_of_heap hY) (by simp))) (by rw [hyl, Array.size_eq_length_toList, hAn]; omega) hy1
   rw [hyl, show Nat.min 1 dl = 1 from by simp only [Nat.min_def]; split <;> omega, hA1, hW2] at this
   exact this
  obtain ⟨W3, hW3⟩ : ∃ W3, W2.drew.setRow G A2.toArray = W3 := ⟨_, rfl⟩
  have HC2 : Hid (∀ dl dc oo sc, dl = n - i → oo = i * 2 + 2 → (Builtin.copy_ #[60, 60] 3 #[.slice (some ⟨G, oo, none⟩) dl dc, .slice (some ⟨g, i * 2, none⟩) (n - i) sc]).run Tryz.prog W2.drew = .ok (goInt ((n - i : Nat) : Int)) W3) := fun dl dc oo sc hdl hoo => by
   subst hdl hoo
   have := run_copy_k (P := Tryz.prog) W2.drew 60 60 3 64 G (i * 2 + 2) (n - i) dc ⟨g, i * 2, none⟩ (n - i) sc A1.toArray 64 (xs.drop (i * 2)) 2 Tryz.underlying60 sz_Entry hg2 (by rw [hRl, show Nat.min (n - i) (n - i) = n - i from Nat.min_self _]) (hxc W2.drew ((k2.block g (by have := k1.size; omega) (by simp; omega)).trans (k1.block g (lt_of_heap hgg) (by simp)))) (by rw [hRl, List.size_toArray, q5, hAn]; omega) h1R
   simp only [List.toList_toArray] at this
   rw [hRl, hA2, hW3, show Nat.min (n - i) (n - i) = n - i from Nat.min_self _] at this
   exact this
  have HE : Hid (InsR H 64 2 (.slice (some ⟨g, 0, none⟩) n cap) (n + 1) zs w (.returned (.slice (some ⟨G, 0, none⟩) (i + m) cap')) W3) := by
   rw [← hzs]
   have e2 : (n + 1) * 2 = i * 2 + 2 + (n - i) * 2 := by omega
   refine InsR.mk ⟨?_, .inr ⟨G, cap', A2.toArray, by rw [hm], by omega, ?_, by omega, hc2, ?_, ?_⟩⟩ ?_ (fun b hb => Or.inr ?_)
   · rw [List.length_append, List.length_append, hPl, hyl, hRl]; omega
   · rw [← hW3]; exact setRow_heap W2.drew G A1.toArray _ _ _ hg2
   · simp only [List.size_toArray]; omega
   · rw [List.toList_toArray, e2]; exact q3
   ·
    have k3 : Kept [G] W2 W3 := by rw [← hW3]; exact (Kept.refl [G] W2).drew.setRow (Or.inl (by simp)) _
    have h3 : Kept [] w W3 := (k1.trans k2 (fun x hx => by rw [List.mem_singleton] at hx; subst hx; right; omega)).trans k3 (fun x hx => by rw [List.mem_singleton] at hx; subst hx; right; omega)
    exact h3.mono (by simp)
   ·
    have : b = G := by simpa [Value.ownBlock] using hb.symm
    omega
  have HAp : Hid (_) := hr
  have v2 : (cap : Int) < (n : Int) + 1 := by omega
  have v3 : IntKind.i64.wrap ((i : Int) + 1) = (i : Int) + 1 := by rw [IntKind.wrap_i64]; omega
  have v4 : (0 : Int) ≤ (i : Int) + 1 := by omega
  have v5 : ((i : Int) + 1).toNat = i + 1 := by omega
  have v6 : (i : Int) + 1 ≤ (i : Int) + (m : Int) := by omega
  have v7 : ¬ cap' = i + 1 := by omega
  have v8 : (i : Int) ≤ (cap : Int) := by omega
  have v9 : (n : Int) + 1 - (i : Int) = (m : Int) := by omega
  have v10 : wrap64 ((n : Int) + 1 - (i : Int)) = (m : Int) := by unfold wrap64; omega
  have v11 : (i : Int) ≤ (i : Int) + (m : Int) := by omega
  have v12 : ¬ cap' = i := by omega
  have v13 : (i + 1) * 2 = i * 2 + 2 := by omega
  have v14 : i ≤ cap := by omega
  have v15 : i + m - i = m := by omega
  have v16 : i + m - (i + 1) = n - i := by omega
  clear q3 q4 q5 hA1 hA2 hg1 hg2 hW1 hW2 hW3 htk hAP hxc hyc h1R h1P h1 hy1 hcs hAl h hgg hY hm hPl hRl hlx hzs hA hAn hAt hr k1 k2 hzl
  go_enter Tryz.func162, Tryz.ntmps162
  go_wp2_with (first
   | (at_builtin; refine wpList_append_run _ rfl _ _ 60 3 rfl _ _ rfl rfl _ _ HAp.out ?_))
  rw [HC1.out _ _ rfl]
  go_wp2_with fail
  go_region_held3 (fun w' => True) (first | trivial | go_keep)
   (first
    | (refine step_copy_run (by rfl) _ _ 60 60 (by rfl) _ _ (by rfl) (by rfl) _ _ (HC2.out _ _ _ _ (by omega) (by omega)) ?_))
  go_wp2_with fail
  go_ret
  exact HE.out
theorem sz_Desc : (Tryz.prog.info? 83).map (·.size) = some 3 := by kernel_rfl
theorem so_Desc (w : World) : (Go.sizeOf 83).run Tryz.prog w = .ok 3 w := by kernel_rfl
theorem ins_Desc {w : World} {H : Nat} {v : Value} {n : Nat} {xs : List Value} (h : w.ownsRow H 83 3 v n xs) (hH : H ≤ w.heap.size) (h1 : ∀ u ∈ xs, u.oneCell' = true) (i : Nat) (hi : i ≤ n) (hn : n ≤ 5864062014634) (Y : Nat) (ys : List Value) (hyl : ys.length = 3) (hY : w.heap[Y]? = some (.cells ys.toArray 83 (0, 0))) (hy1 : ∀ u ∈ ys, u.oneCell' = true) (hYv : v.ownBlock ≠ some Y) :
  Calls Tryz.prog 154 #[v, .int .i64 (i : Int), .slice (some ⟨Y, 0, none⟩) 1 1] w (InsR H 83 3 v (n + 1) (xs.take (i * 3) ++ ys ++ xs.drop (i * 3)) w) := by
 obtain ⟨i0, hi0, hz0, hz1, hz2⟩ := info_parts info_Desc
 have hyc : ∀ (W : World), W.heap[Y]? = w.heap[Y]? → ∀ j u, ys[j]? = some u → W.cell? ((⟨Y, 0, none⟩ : Addr).add j) = some u := fun W hW j u hu => by
  rw [add_lit, Nat.zero_add, cellB (hW.trans hY)]
  simpa using hu
 by_cases hin : i = n
 ·
  subst hin
  obtain ⟨g, cap, w', hr, r1, gr, hg, hgl⟩ := run_append_lies (P := Tryz.prog) w 24 24 H 83 i0 _ 3 24 Tryz.underlying24 hi0 hz0 hz1 hz2 rfl (by omega) v i xs h ⟨Y, 0, none⟩ 1 1 ys (by omega) (hyc w rfl) hy1 (by omega) (by unfold maxLen; omega) (by omega) hH w.heap.size rfl
  have HE : Hid (InsR H 83 3 v (i + 1) (xs.take (i * 3) ++ ys ++ xs.drop (i * 3)) w (.returned (.slice (some ⟨g, 0, none⟩) (i + 1) cap)) w') := by
   refine InsR.mk ?_ ((Kept.refl _ w).grown gr (fun b hb => Or.inl (by simp [hb]))) (fun b hb => ?_)
   ·
    rw [List.take_of_length_le (by rw [h.1]; exact Nat.le_refl _), List.drop_of_length_le (by rw [h.1]; exact Nat.le_refl _), List.append_nil]
    exact r1
   ·
    have : b = g := by simpa [Value.ownBlock] using hb.symm
    subst this
    rcases hg with hg | hg
    · exact Or.inl hg
    · exact Or.inr (by omega)
  have HAp : Hid (_) := hr
  obtain ⟨a, c, hv, hc, hf, -⟩ := row_form h
  have HN : Hid (a = none → i = 0 ∧ c = 0) := fun e => by
   rcases h.2 with ⟨e1, e2⟩ | ⟨g', cap', cur', e1, -⟩
   · rw [hv] at e1; simp only [Value.slice.injEq] at e1; exact ⟨e2, e1.2.2⟩
   · rw [hv, e] at e1; cases e1
  rw [hv] at HAp ⊢
  have b1 : ((i : Int) == (i : Int)) = true := by simp
  have l0 : (0 : Int) ≤ (i : Int) := by omega
  have l1 : (i : Int) ≤ (i : Int) := by omega
  rw [hv] at HE
  clear h h1 hY hyc hi0 hz0 hz1 hz2 hr r1 gr hg hgl hv hYv hi hy1 hyl
  rcases a with _ | x
  ·
   obtain ⟨e1, e2⟩ := HN.out rfl
   subst e1 e2
   go_enter Tryz.func154, Tryz.ntmps154
   go_wp2_with (first
    | (at_builtin; refine wpList_append_run _ rfl _ _ 24 24 rfl _ _ rfl rfl _ _ HAp.out ?_))
   go_ret
   exact HE.out
  ·
   obtain ⟨g2, rfl, -⟩ := hf x rfl
   by_cases hcn : c = i
   ·
    subst hcn
    go_enter Tryz.func154, Tryz.ntmps154
    go_wp2_with (first
     | (at_builtin; refine wpList_append_run _ rfl _ _ 24 24 rfl _ _ rfl rfl _ _ HAp.out ?_))
    go_ret
    exact HE.out
   ·
    go_enter Tryz.func154, Tryz.ntmps154
    go_wp2_with (first
     | (at_builtin; refine wpList_append_run _ rfl _ _ 24 24 rfl _ _ rfl rfl _ _ HAp.out ?_))
    go_ret
    exact HE.out
 have hlt : i < n := by omega
 obtain ⟨zs, hzs⟩ : ∃ zs, xs.take (i * 3) ++ ys ++ xs.drop (i * 3) = zs := ⟨_, rfl⟩
 rw [hzs]
 rcases h.2 with ⟨-, e2⟩ | ⟨g, cap, cur, hv, hHg, hgg, hnc, hcm, hcs, htk⟩
 · omega
 subst hv
 have hlx : xs.length = n * 3 := h.1
 have hPl : (xs.take (i * 3)).length = i * 3 := by rw [List.length_take, hlx]; omega
 have hRl : (xs.drop (i * 3)).length = (n - i) * 3 := by rw [List.length_drop, hlx]; omega
 have hAP : cur.toList.take (i * 3) = xs.take (i * 3) := by
  rw [← htk, List.take_take, Nat.min_eq_left (by omega)]
 have hAl : cur.toList.length = cap * 3 := by simpa using hcs
 have hgY : Y ≠ g := fun e => hYv (by rw [e]; rfl)
 have hxc : ∀ (W : World), W.heap[g]? = w.heap[g]? → ∀ j u, (xs.drop (i * 3))[j]? = some u → W.cell? ((⟨g, i * 3, none⟩ : Addr).add j) = some u := fun W hW j u hu => by
  rw [add_lit, cellB (hW.trans hgg)]
  rw [List.getElem?_drop] at hu
  have hj : i * 3 + j < n * 3 := by
   rcases Nat.lt_or_ge (i * 3 + j) xs.length with h | h
   · omega
   · rw [List.getElem?_eq_none h] at hu; cases hu
  rw [← htk, List.getElem?_take_of_lt hj] at hu
  simpa using hu
 have h1R : ∀ u ∈ xs.drop (i * 3), u.oneCell' = true := fun u hu => h1 u (List.mem_of_mem_drop hu)
 have h1P : ∀ u ∈ xs.take (i * 3), u.oneCell' = true := fun u hu => h1 u (List.mem_of_mem_take hu)
 have b1 : ((i : Int) == (n : Int)) = false := by simp; omega
 have b0 : ¬ ((i : Int) = (n : Int)) := by omega
 have l0 : (0 : Int) ≤ (i : Int) := by omega
 have l1 : (i : Int) ≤ (n : Int) := by omega
 have l2 : ¬ cap = i := by omega
 have hcap : cap ≤ 9223372036854775807 := by unfold maxLen at hcm; omega
 obtain ⟨m, hm⟩ : ∃ m : Nat, n + 1 = i + m := ⟨n + 1 - i, by omega⟩
 by_cases hroom : n + 1 ≤ cap
 ·
  -- in place
  obtain ⟨q3, q4, q5⟩ := put3 (A := cur.toList) (P := xs.take (i * 3)) (Y := ys) (R := xs.drop (i * 3)) (p := i * 3) (k := 3) (r := (n - i) * 3) hAP hPl hyl hRl (by rw [hAl]; omega)
  have e1 : (i + 1) * 3 = i * 3 + 3 := by omega
  have e2 : (n + 1) * 3 = i * 3 + 3 + (n - i) * 3 := by omega
  obtain ⟨A1, hA1⟩ : ∃ A1, cur.toList.take (i * 3 + 3) ++ xs.drop (i * 3) ++ cur.toList.drop (i * 3 + 3 + (n - i) * 3) = A1 := ⟨_, rfl⟩
  rw [hA1] at q3 q4 q5
  obtain ⟨A2, hA2⟩ : ∃ A2, A1.take (i * 3) ++ ys ++ A1.drop (i * 3 + 3) = A2 := ⟨_, rfl⟩
  rw [hA2] at q3 q4
  obtain ⟨W1, hW1⟩ : ∃ W1, w.drew.setRow g A1.toArray = W1 := ⟨_, rfl⟩
  have hg1 : W1.heap[g]? = some (.cells A1.toArray 83 (0, 0)) := by rw [← hW1]; exact setRow_heap w.drew g cur _ _ _ hgg
  have hY1 : W1.heap[Y]? = w.heap[Y]? := by
   rw [← hW1]
   exact ((Kept.refl [g] w.drew).setRow (Or.inl (by simp)) A1.toArray).block Y (lt_of_heap hY) (by simpa using hgY)
  have HC1 : Hid (∀ dl dc oo sl sc, dl = n + 1 - (i + 1) → oo = i * 3 + 3 → sl = n + 1 - i → (Builtin.copy_ #[24, 24] 3 #[.slice (some ⟨g, oo, none⟩) dl dc, .slice (some ⟨g, i * 3, none⟩) sl sc]).run Tryz.prog w.drew = .ok (goInt ((n - i : Nat) : Int)) W1) := fun dl dc oo sl sc hdl hoo hsl => by
   subst hdl hoo hsl
   have := run_copy_k (P := Tryz.prog) w.drew 24 24 3 83 g (i * 3 + 3) (n + 1 - (i + 1)) dc ⟨g, i * 3, none⟩ (n + 1 - i) sc cur 83 (xs.drop (i * 3)) 3 Tryz.underlying24 sz_Desc hgg (by rw [hRl, show Nat.min (n + 1 - i) (n + 1 - (i + 1)) = n - i from by simp only [Nat.min_def]; split <;> omega]) (hxc w.drew rfl) (by rw [hRl]; simp only [Array.size_eq_length_toList] at *; omega) h1R
   rw [hRl, hA1, hW1, show Nat.min (n + 1 - i) (n + 1 - (i + 1)) = n - i from by simp only [Nat.min_def]; split <;> omega] at this
   exact this
  obtain ⟨W2, hW2⟩ : ∃ W2, W1.setRow g A2.toArray = W2 := ⟨_, rfl⟩
  have HC2 : Hid (∀ dl dc, dl = n + 1 - i → (Builtin.copy_ #[24, 24] 3 #[.slice (some ⟨g, i * 3, none⟩) dl dc, .slice (some ⟨Y, 0, none⟩) 1 1]).run Tryz.prog W1 = .ok (goInt 1) W2) := fun dl dc hdl => by
   subst hdl
   have := run_copy_k (P := Tryz.prog) W1 24 24 3 83 g (i * 3) (n + 1 - i) dc ⟨Y, 0, none⟩ 1 1 A1.toArray 83 ys 3 Tryz.underlying24 sz_Desc hg1 (by rw [hyl, show Nat.min 1 (n + 1 - i) = 1 from by simp only [Nat.min_def]; split <;> omega]) (hyc W1 hY1) (by rw [hyl]; simp only [List.size_toArray]; omega) hy1
   rw [hyl, show Nat.min 1 (n + 1 - i) = 1 from by simp only [Nat.min_def]; split <;> omega] at this
   simp only [List.toList_toArray] at this
   rw [hA2, hW2] at this
   exact this
  have HE : Hid (InsR H 83 3 (.slice (some ⟨g, 0, none⟩) n cap) (n + 1) zs w (.returned (.slice (some ⟨g, 0, none⟩) (n + 1) cap)) W2) := by
   rw [← hzs]
   refine InsR.mk ⟨?_, .inr ⟨g, cap, A2.toArray, rfl, hHg, ?_, hroom, hcm, ?_, ?_⟩⟩ ?_ (fun b hb => Or.inl hb)
   · rw [List.length_append, List.length_append, hPl, hyl, hRl]; omega
   · rw [← hW2]; exact setRow_heap W1 g A1.toArray _ _ _ hg1
   · simp only [List.size_toArray]; omega
   · rw [List.toList_toArray, e2]; exact q3
   ·
    rw [← hW2, ← hW1]
    exact ((Kept.refl _ w).drew.setRow (Or.inl (by simp [Value.ownBlock])) _).setRow (Or.inl (by simp [Value.ownBlock])) _
  have HOv : Hid (∀ lb cb, (callFunc 164 #[.slice (some ⟨Y, 0, none⟩) 1 1, .slice (some ⟨g, i * 3 + 3, none⟩) lb cb]).run Tryz.prog w = .ok (.value (.bool false)) w) := fun lb cb => by
   have hsa : w.shape? Y = some (83, 3) := by unfold World.shape?; rw [hY]; simp [hyl]
   have hsb : w.shape? g = some (83, cap * 3) := by unfold World.shape?; rw [hgg]; simp [hcs]
   rw [run_callFunc_extern Tryz.func164 (by kernel_rfl) (by kernel_rfl) (by kernel_rfl) (e := Extern.SlicesOverlaps.overlaps #[24, 24] #[4]) (by kernel_rfl),
    Lib.run_overlaps_apart w 24 4 83 Tryz.underlying24 3 so_Desc ⟨Y, 0, none⟩ ⟨g, i * 3 + 3, none⟩ 1 1 lb cb hgY 83 83 3 (cap * 3) hsa hsb (by omega) (frozen_of hY 0) (frozen_of hY 3)]
   rfl
  have v1 : (n : Int) + 1 ≤ (cap : Int) := by omega
  have v2 : ¬ (cap : Int) < (n : Int) + 1 := by omega
  have v3 : IntKind.i64.wrap ((i : Int) + 1) = (i : Int) + 1 := by rw [IntKind.wrap_i64]; omega
  have v4 : (0 : Int) ≤ (i : Int) + 1 := by omega
  have v5 : ((i : Int) + 1).toNat = i + 1 := by omega
  have v6 : (i : Int) + 1 ≤ (n : Int) + 1 := by omega
  have v7 : ¬ cap = i + 1 := by omega
  have v8 : (i : Int) ≤ (n : Int) + 1 := by omega
  have v9 : ((n : Int) + 1).toNat = n + 1 := by omega
  have v10 : (0 : Int) ≤ (n : Int) + 1 := by omega
  have v11 : i ≤ n := by omega
  have v12 : i ≤ n + 1 := by omega
  have v13 : (i + 1) * 3 = i * 3 + 3 := e1
  clear q3 q4 q5 e2 hA1 hA2 hg1 hY1 hW1 hW2 htk hAP hxc hyc h1R h1P h1 hy1 hcs hAl h hgg hY hm hPl hRl hlx hzs
  go_enter Tryz.func154, Tryz.ntmps154
  go_wp2_with (simp only [HOv.out])
  go_region_held3 (fun w' => True) (first | trivial | go_keep)
   (first
    | (refine step_copy_run (by rfl) _ _ 24 24 (by rfl) _ _ (by rfl) (by rfl) _ _ (HC1.out _ _ _ _ _ (by omega) (by omega) (by omega)) ?_))
  go_wp2_with fail
  rw [HC2.out _ _ rfl]
  go_wp2_with fail
  go_ret
  exact HE.out
 ·
  -- a new row
  obtain ⟨cap', zs0, hr, hzl, hc1, hc2⟩ := run_append_make (P := Tryz.prog) w 24 3 24 83 i0 _ 3 24 Tryz.underlying24 Tryz.underlying3 hi0 hz0 hz1 hz2 rfl (by omega) H g i cap m (xs.take (i * 3)) hPl (fun j u hu => by
   rw [cellB hgg]
   have hj : j < i * 3 := by
    rcases Nat.lt_or_ge j (xs.take (i * 3)).length with h | h
    · omega
    · rw [List.getElem?_eq_none h] at hu; cases hu
   rw [← hAP, List.getElem?_take_of_lt hj] at hu
   simpa using hu) (by omega) (by omega) (by omega) (by omega) hH
  obtain ⟨A, hA⟩ : ∃ A, ((xs.take (i * 3) ++ zs0).toArray ++ Builtin.zeroCells (i0.zero.getD (.bool false)).cells (cap' - (i + m))) = A := ⟨_, rfl⟩
  rw [hz0] at hA
  simp only [Option.getD_some] at hA
  rw [hA] at hr
  have hAn : A.toList.length = cap' * 3 := by
   rw [← hA, Array.toList_append, List.length_append, List.toList_toArray, List.length_append, hPl, hzl, Array.length_toList, zeroCells_size]
   have : (Value.cells (.agg #[.int .i64 0, .int .i64 0, .int .i64 0])).size = 3 := rfl
   rw [this]
   have e9 : cap' * 3 = (i + m) * 3 + (cap' - (i + m)) * 3 := by rw [← Nat.add_mul]; congr 1; omega
   rw [e9, Nat.add_mul]
  have hAt : A.toList.take (i * 3) = xs.take (i * 3) := by
   rw [← hA, Array.toList_append, List.toList_toArray, List.append_assoc]
   exact List.take_left' hPl
  obtain ⟨W1, hW1⟩ : ∃ W1, w.drew.alloc (.cells A 83) = W1 := ⟨_, rfl⟩
  rw [hW1] at hr
  obtain ⟨G, hG⟩ : ∃ G, w.heap.size = G := ⟨_, rfl⟩
  rw [hG] at hr
  have hg1 : W1.heap[G]? = some (.cells A 83 (0, 0)) := by rw [← hW1, ← hG]; exact Go.heap_alloc_new w.drew _
  have k1 : Kept [] w W1 := by rw [← hW1]; exact (Kept.refl [] w).drew.alloc _
  have hgl : g < G := by rw [← hG]; exact lt_of_heap hgg
  have hYl : Y < G := by rw [← hG]; exact lt_of_heap hY
  obtain ⟨q3, q4, q5⟩ := put2 (A := A.toList) (P := xs.take (i * 3)) (Y := ys) (R := xs.drop (i * 3)) (p := i * 3) (k := 3) (r := (n - i) * 3) hAt hPl hyl hRl (by rw [hAn]; omega)
  obtain ⟨A1, hA1⟩ : ∃ A1, A.toList.take (i * 3) ++ ys ++ A.toList.drop (i * 3 + 3) = A1 := ⟨_, rfl⟩
  rw [hA1] at q3 q4 q5
  obtain ⟨A2, hA2⟩ : ∃ A2, A1.take (i * 3 + 3) ++ xs.drop (i * 3) ++ A1.drop (i * 3 + 3 + (n - i) * 3) = A2 := ⟨_, rfl⟩
  rw [hA2] at q3 q4
  obtain ⟨W2, hW2⟩ : ∃ W2, W1.setRow G A1.toArray = W2 := ⟨_, rfl⟩
  have hg2 : W2.heap[G]? = some (.cells A1.toArray 83 (0, 0)) := by rw [← hW2]; exact setRow_heap W1 G A _ _ _ hg1
  have k2 : Kept [G] W1 W2 := by rw [← hW2]; exact (Kept.refl [G] W1).setRow (Or.inl (by simp)) _
  have HC1 : Hid (∀ dl dc, dl = m → (Builtin.copy_ #[24, 24] 3 #[.slice (some ⟨G, i * 3, none⟩) dl dc, .slice (some ⟨Y, 0, none⟩) 1 1]).run Tryz.prog W1 = .ok (goInt 1) W2) := fun dl dc hdl => by
   subst hdl
   have := run_copy_k (P := Tryz.prog) W1 24 24 3 83 G (i * 3) dl dc ⟨Y, 0, none⟩ 1 1 A 83 ys 3 Tryz.underlying24 sz_Desc hg1 (by rw [hyl, show Nat.min 1 dl = 1 from by simp only [Nat.min_def]; split <;> omega]) (hyc W1 (k1.block Y (lt_of_heap hY) (by simp))) (by rw [hyl, Array.size_eq_length_toList, hAn]; omega) hy1
   rw [hyl, show Nat.min 1 dl = 1 from by simp only [Nat.min_def]; split <;> omega, hA1, hW2] at this
   exact this
  obtain ⟨W3, hW3⟩ : ∃ W3, W2.drew.setRow G A2.toArray = W3 := ⟨_, rfl⟩
  have HC2 : Hid (∀ dl dc oo sc, dl = n - i → oo = i * 3 + 3 → (Builtin.copy_ #[24, 24] 3 #[.slice (some ⟨G, oo, none⟩) dl dc, .slice (some ⟨g, i * 3, none⟩) (n - i) sc]).run Tryz.prog W2.drew = .ok (goInt ((n - i : Nat) : Int)) W3) := fun dl dc oo sc hdl hoo => by
   subst hdl hoo
   have := run_copy_k (P := Tryz.prog) W2.drew 24 24 3 83 G (i * 3 + 3) (n - i) dc ⟨g, i * 3, none⟩ (n - i) sc A1.toArray 83 (xs.drop (i * 3)) 3 Tryz.underlying24 sz_Desc hg2 (by rw [hRl, show Nat.min (n - i) (n - i) = n - i from Nat.min_self _]) (hxc W2.drew ((k2.block g (by have := k1.size; omega) (by simp; omega)).trans (k1.block g (lt_of_heap hgg) (by simp)))) (by rw [hRl, List.size_toArray, q5, hAn]; omega) h1R
   simp only [List.toList_toArray] at this
   rw [hRl, hA2, hW3, show Nat.min (n - i) (n - i) = n - i from Nat.min_self _] at this
   exact this
  have HE : Hid (InsR H 83 3 (.slice (some ⟨g, 0, none⟩) n cap) (n + 1) zs w (.returned (.slice (some ⟨G, 0, none⟩) (i + m) cap')) W3) := by
   rw [← hzs]
   have e2 : (n + 1) * 3 = i * 3 + 3 + (n - i) * 3 := by omega
   refine InsR.mk ⟨?_, .inr ⟨G, cap', A2.toArray, by rw [hm], by omega, ?_, by omega, hc2, ?_, ?_⟩⟩ ?_ (fun b hb => Or.inr ?_)
   · rw [List.length_append, List.length_append, hPl, hyl, hRl]; omega
   · rw [← hW3]; exact setRow_heap W2.drew G A1.toArray _ _ _ hg2
   · simp only [List.size_toArray]; omega
   · rw [List.toList_toArray, e2]; exact q3
   ·
    have k3 : Kept [G] W2 W3 := by rw [← hW3]; exact (Kept.refl [G] W2).drew.setRow (Or.inl (by simp)) _
    have h3 : Kept [] w W3 := (k1.trans k2 (fun x hx => by rw [List.mem_singleton] at hx; subst hx; right; omega)).trans k3 (fun x hx => by rw [List.mem_singleton] at hx; subst hx; right; omega)
    exact h3.mono (by simp)
   ·
    have : b = G := by simpa [Value.ownBlock] using hb.symm
    omega
  have HAp : Hid (_) := hr
  have v2 : (cap : Int) < (n : Int) + 1 := by omega
  have v3 : IntKind.i64.wrap ((i : Int) + 1) = (i : Int) + 1 := by rw [IntKind.wrap_i64]; omega
  have v4 : (0 : Int) ≤ (i : Int) + 1 := by omega
  have v5 : ((i : Int) + 1).toNat = i + 1 := by omega
  have v6 : (i : Int) + 1 ≤ (i : Int) + (m : Int) := by omega
  have v7 : ¬ cap' = i + 1 := by omega
  have v8 : (i : Int) ≤ (cap : Int) := by omega
  have v9 : (n : Int) + 1 - (i : Int) = (m : Int) := by omega
  have v10 : wrap64 ((n : Int) + 1 - (i : Int)) = (m : Int) := by unfold wrap64; omega
  have v11 : (i : Int) ≤ (i : Int) + (m : Int) := by omega
  have v12 : ¬ cap' = i := by omega
  have v13 : (i + 1) * 3 = i * 3 + 3 := by omega
  have v14 : i ≤ cap := by omega
  have v15 : i + m - i = m := by omega
  have v16 : i + m - (i + 1) = n - i := by omega
  clear q3 q4 q5 hA1 hA2 hg1 hg2 hW1 hW2 hW3 htk hAP hxc hyc h1R h1P h1 hy1 hcs hAl h hgg hY hm hPl hRl hlx hzs hA hAn hAt hr k1 k2 hzl
  go_enter Tryz.func154, Tryz.ntmps154
  go_wp2_with (first
   | (at_builtin; refine wpList_append_run _ rfl _ _ 24 3 rfl _ _ rfl rfl _ _ HAp.out ?_))
  rw [HC1.out _ _ rfl]
  go_wp2_with fail
  go_region_held3 (fun w' => True) (first | trivial | go_keep)
   (first
    | (refine step_copy_run (by rfl) _ _ 24 24 (by rfl) _ _ (by rfl) (by rfl) _ _ (HC2.out _ _ _ _ (by omega) (by omega)) ?_))
  go_wp2_with fail
  go_ret
  exact HE.out
theorem sz_Inode : (Tryz.prog.info? 62).map (·.size) = some 4 := by kernel_rfl
theorem so_Inode (w : World) : (Go.sizeOf 62).run Tryz.prog w = .ok 4 w := by kernel_rfl
theorem ins_Inode {w : World} {H : Nat} {v : Value} {n : Nat} {xs : List Value} (h : w.ownsRow H 62 4 v n xs) (hH : H ≤ w.heap.size) (h1 : ∀ u ∈ xs, u.oneCell' = true) (i : Nat) (hi : i ≤ n) (hn : n ≤ 2513169434843) (Y : Nat) (ys : List Value) (hyl : ys.length = 4) (hY : w.heap[Y]? = some (.cells ys.toArray 62 (0, 0))) (hy1 : ∀ u ∈ ys, u.oneCell' = true) (hYv : v.ownBlock ≠ some Y) :
  Calls Tryz.prog 150 #[v, .int .i64 (i : Int), .slice (some ⟨Y, 0, none⟩) 1 1] w (InsR H 62 4 v (n + 1) (xs.take (i * 4) ++ ys ++ xs.drop (i * 4)) w) := by
 obtain ⟨i0, hi0, hz0, hz1, hz2⟩ := info_parts info_Inode
 have hyc : ∀ (W : World), W.heap[Y]? = w.heap[Y]? → ∀ j u, ys[j]? = some u → W.cell? ((⟨Y, 0, none⟩ : Addr).add j) = some u := fun W hW j u hu => by
  rw [add_lit, Nat.zero_add, cellB (hW.trans hY)]
  simpa using hu
 by_cases hin : i = n
 ·
  subst hin
  obtain ⟨g, cap, w', hr, r1, gr, hg, hgl⟩ := run_append_lies (P := Tryz.prog) w 23 23 H 62 i0 _ 4 56 Tryz.underlying23 hi0 hz0 hz1 hz2 rfl (by omega) v i xs h ⟨Y, 0, none⟩ 1 1 ys (by omega) (hyc w rfl) hy1 (by omega) (by unfold maxLen; omega) (by omega) hH w.heap.size rfl
  have HE : Hid (InsR H 62 4 v (i + 1) (xs.take (i * 4) ++ ys ++ xs.drop (i * 4)) w (.returned (.slice (some ⟨g, 0, none⟩) (i + 1) cap)) w') := by
   refine InsR.mk ?_ ((Kept.refl _ w).grown gr (fun b hb => Or.inl (by simp [hb]))) (fun b hb => ?_)
   ·
    rw [List.take_of_length_le (by rw [h.1]; exact Nat.le_refl _), List.drop_of_length_le (by rw [h.1]; exact Nat.le_refl _), List.append_nil]
    exact r1
   ·
    have : b = g := by simpa [Value.ownBlock] using hb.symm
    subst this
    rcases hg with hg | hg
    · exact Or.inl hg
    · exact Or.inr (by omega)
  have HAp : Hid (_) := hr
  obtain ⟨a, c, hv, hc, hf, -⟩ := row_form h
  have HN : Hid (a = none → i = 0 ∧ c = 0) := fun e => by
   rcases h.2 with ⟨e1, e2⟩ | ⟨g', cap', cur', e1, -⟩
   · rw [hv] at e1; simp only [Value.slice.injEq] at e1; exact ⟨e2, e1.2.2⟩
   · rw [hv, e] at e1; cases e1
  rw [hv] at HAp ⊢
  have b1 : ((i : Int) == (i : Int)) = true := by simp
  have l0 : (0 : Int) ≤ (i : Int) := by omega
  have l1 : (i : Int) ≤ (i : Int) := by omega
  rw [hv] at HE
  clear h h1 hY hyc hi0 hz0 hz1 hz2 hr r1 gr hg hgl hv hYv hi hy1 hyl
  rcases a with _ | x
  ·
   obtain ⟨e1, e2⟩ := HN.out rfl
   subst e1 e2
   go_enter Tryz.func150, Tryz.ntmps150
   go_wp2_with (first
    | (at_builtin; refine wpList_append_run _ rfl _ _ 23 23 rfl _ _ rfl rfl _ _ HAp.out ?_))
   go_ret
   exact HE.out
  ·
   obtain ⟨g2, rfl, -⟩ := hf x rfl
   by_cases hcn : c = i
   ·
    subst hcn
    go_enter Tryz.func150, Tryz.ntmps150
    go_wp2_with (first
     | (at_builtin; refine wpList_append_run _ rfl _ _ 23 23 rfl _ _ rfl rfl _ _ HAp.out ?_))
    go_ret
    exact HE.out
   ·
    go_enter Tryz.func150, Tryz.ntmps150
    go_wp2_with (first
     | (at_builtin; refine wpList_append_run _ rfl _ _ 23 23 rfl _ _ rfl rfl _ _ HAp.out ?_))
    go_ret
    exact HE.out
 have hlt : i < n := by omega
 obtain ⟨zs, hzs⟩ : ∃ zs, xs.take (i * 4) ++ ys ++ xs.drop (i * 4) = zs := ⟨_, rfl⟩
 rw [hzs]
 rcases h.2 with ⟨-, e2⟩ | ⟨g, cap, cur, hv, hHg, hgg, hnc, hcm, hcs, htk⟩
 · omega
 subst hv
 have hlx : xs.length = n * 4 := h.1
 have hPl : (xs.take (i * 4)).length = i * 4 := by rw [List.length_take, hlx]; omega
 have hRl : (xs.drop (i * 4)).length = (n - i) * 4 := by rw [List.length_drop, hlx]; omega
 have hAP : cur.toList.take (i * 4) = xs.take (i * 4) := by
  rw [← htk, List.take_take, Nat.min_eq_left (by omega)]
 have hAl : cur.toList.length = cap * 4 := by simpa using hcs
 have hgY : Y ≠ g := fun e => hYv (by rw [e]; rfl)
 have hxc : ∀ (W : World), W.heap[g]? = w.heap[g]? → ∀ j u, (xs.drop (i * 4))[j]? = some u → W.cell? ((⟨g, i * 4, none⟩ : Addr).add j) = some u := fun W hW j u hu => by
  rw [add_lit, cellB (hW.trans hgg)]
  rw [List.getElem?_drop] at hu
  have hj : i * 4 + j < n * 4 := by
   rcases Nat.lt_or_ge (i * 4 + j) xs.length with h | h
   · omega
   · rw [List.getElem?_eq_none h] at hu; cases hu
  rw [← htk, List.getElem?_take_of_lt hj] at hu
  simpa using hu
 have h1R : ∀ u ∈ xs.drop (i * 4), u.oneCell' = true := fun u hu => h1 u (List.mem_of_mem_drop hu)
 have h1P : ∀ u ∈ xs.take (i * 4), u.oneCell' = true := fun u hu => h1 u (List.mem_of_mem_take hu)
 have b1 : ((i : Int) == (n : Int)) = false := by simp; omega
 have b0 : ¬ ((i : Int) = (n : Int)) := by omega
 have l0 : (0 : Int) ≤ (i : Int) := by omega
 have l1 : (i : Int) ≤ (n : Int) := by omega
 have l2 : ¬ cap = i := by omega
 have hcap : cap ≤ 9223372036854775807 := by unfold maxLen at hcm; omega
 obtain ⟨m, hm⟩ : ∃ m : Nat, n + 1 = i + m := ⟨n + 1 - i, by omega⟩
 by_cases hroom : n + 1 ≤ cap
 ·
  -- in place
  obtain ⟨q3, q4, q5⟩ := put3 (A := cur.toList) (P := xs.take (i * 4)) (Y := ys) (R := xs.drop (i * 4)) (p := i * 4) (k := 4) (r := (n - i) * 4) hAP hPl hyl hRl (by rw [hAl]; omega)
  have e1 : (i + 1) * 4 = i * 4 + 4 := by omega
  have e2 : (n + 1) * 4 = i * 4 + 4 + (n - i) * 4 := by omega
  obtain ⟨A1, hA1⟩ : ∃ A1, cur.toList.take (i * 4 + 4) ++ xs.drop (i * 4) ++ cur.toList.drop (i * 4 + 4 + (n - i) * 4) = A1 := ⟨_, rfl⟩
  rw [hA1] at q3 q4 q5
  obtain ⟨A2, hA2⟩ : ∃ A2, A1.take (i * 4) ++ ys ++ A1.drop (i * 4 + 4) = A2 := ⟨_, rfl⟩
  rw [hA2] at q3 q4
  obtain ⟨W1, hW1⟩ : ∃ W1, w.drew.setRow g A1.toArray = W1 := ⟨_, rfl⟩
  have hg1 : W1.heap[g]? = some (.cells A1.toArray 62 (0, 0)) := by rw [← hW1]; exact setRow_heap w.drew g cur _ _ _ hgg
  have hY1 : W1.heap[Y]? = w.heap[Y]? := by
   rw [← hW1]
   exact ((Kept.refl [g] w.drew).setRow (Or.inl (by simp)) A1.toArray).block Y (lt_of_heap hY) (by simpa using hgY)
  have HC1 : Hid (∀ dl dc oo sl sc, dl = n + 1 - (i + 1) → oo = i * 4 + 4 → sl = n + 1 - i → (Builtin.copy_ #[23, 23] 3 #[.slice (some ⟨g, oo, none⟩) dl dc, .slice (some ⟨g, i * 4, none⟩) sl sc]).run Tryz.prog w.drew = .ok (goInt ((n - i : Nat) : Int)) W1) := fun dl dc oo sl sc hdl hoo hsl => by
   subst hdl hoo hsl
   have := run_copy_k (P := Tryz.prog) w.drew 23 23 3 62 g (i * 4 + 4) (n + 1 - (i + 1)) dc ⟨g, i * 4, none⟩ (n + 1 - i) sc cur 62 (xs.drop (i * 4)) 4 Tryz.underlying23 sz_Inode hgg (by rw [hRl, show Nat.min (n + 1 - i) (n + 1 - (i + 1)) = n - i from by simp only [Nat.min_def]; split <;> omega]) (hxc w.drew rfl) (by rw [hRl]; simp only [Array.size_eq_length_toList] at *; omega) h1R
   rw [hRl, hA1, hW1, show Nat.min (n + 1 - i) (n + 1 - (i + 1)) = n - i from by simp only [Nat.min_def]; split <;> omega] at this
   exact this
  obtain ⟨W2, hW2⟩ : ∃ W2, W1.setRow g A2.toArray = W2 := ⟨_, rfl⟩
  have HC2 : Hid (∀ dl dc, dl = n + 1 - i → (Builtin.copy_ #[23, 23] 3 #[.slice (some ⟨g, i * 4, none⟩) dl dc, .slice (some ⟨Y, 0, none⟩) 1 1]).run Tryz.prog W1 = .ok (goInt 1) W2) := fun dl dc hdl => by
   subst hdl
   have := run_copy_k (P := Tryz.prog) W1 23 23 3 62 g (i * 4) (n + 1 - i) dc ⟨Y, 0, none⟩ 1 1 A1.toArray 62 ys 4 Tryz.underlying23 sz_Inode hg1 (by rw [hyl, show Nat.min 1 (n + 1 - i) = 1 from by simp only [Nat.min_def]; split <;> omega]) (hyc W1 hY1) (by rw [hyl]; simp only [List.size_toArray]; omega) hy1
   rw [hyl, show Nat.min 1 (n + 1 - i) = 1 from by simp only [Nat.min_def]; split <;> omega] at this
   simp only [List.toList_toArray] at this
   rw [hA2, hW2] at this
   exact this
  have HE : Hid (InsR H 62 4 (.slice (some ⟨g, 0, none⟩) n cap) (n + 1) zs w (.returned (.slice (some ⟨g, 0, none⟩) (n + 1) cap)) W2) := by
   rw [← hzs]
   refine InsR.mk ⟨?_, .inr ⟨g, cap, A2.toArray, rfl, hHg, ?_, hroom, hcm, ?_, ?_⟩⟩ ?_ (fun b hb => Or.inl hb)
   · rw [List.length_append, List.length_append, hPl, hyl, hRl]; omega
   · rw [← hW2]; exact setRow_heap W1 g A1.toArray _ _ _ hg1
   · simp only [List.size_toArray]; omega
   · rw [List.toList_toArray, e2]; exact q3
   ·
    rw [← hW2, ← hW1]
    exact ((Kept.refl _ w).drew.setRow (Or.inl (by simp [Value.ownBlock])) _).setRow (Or.inl (by simp [Value.ownBlock])) _
  have HOv : Hid (∀ lb cb, (callFunc 159 #[.slice (some ⟨Y, 0, none⟩) 1 1, .slice (some ⟨g, i * 4 + 4, none⟩) lb cb]).run Tryz.prog w = .ok (.value (.bool false)) w) := fun lb cb => by
   have hsa : w.shape? Y = some (62, 4) := by unfold World.shape?; rw [hY]; simp [hyl]
   have hsb : w.shape? g = some (62, cap * 4) := by unfold World.shape?; rw [hgg]; simp [hcs]
   rw [run_callFunc_extern Tryz.func159 (by kernel_rfl) (by kernel_rfl) (by kernel_rfl) (e := Extern.SlicesOverlaps.overlaps #[23, 23] #[4]) (by kernel_rfl),
    Lib.run_overlaps_apart w 23 4 62 Tryz.underlying23 4 so_Inode ⟨Y, 0, none⟩ ⟨g, i * 4 + 4, none⟩ 1 1 lb cb hgY 62 62 4 (cap * 4) hsa hsb (by omega) (frozen_of hY 0) (frozen_of hY 4)]
   rfl
  have v1 : (n : Int) + 1 ≤ (cap : Int) := by omega
  have v2 : ¬ (cap : Int) < (n : Int) + 1 := by omega
  have v3 : IntKind.i64.wrap ((i : Int) + 1) = (i : Int) + 1 := by rw [IntKind.wrap_i64]; omega
  have v4 : (0 : Int) ≤ (i : Int) + 1 := by omega
  have v5 : ((i : Int) + 1).toNat = i + 1 := by omega
  have v6 : (i : Int) + 1 ≤ (n : Int) + 1 := by omega
  have v7 : ¬ cap = i + 1 := by omega
  have v8 : (i : Int) ≤ (n : Int) + 1 := by omega
  have v9 : ((n : Int) + 1).toNat = n + 1 := by omega
  have v10 : (0 : Int) ≤ (n : Int) + 1 := by omega
  have v11 : i ≤ n := by omega
  have v12 : i ≤ n + 1 := by omega
  have v13 : (i + 1) * 4 = i * 4 + 4 := e1
  clear q3 q4 q5 e2 hA1 hA2 hg1 hY1 hW1 hW2 htk hAP hxc hyc h1R h1P h1 hy1 hcs hAl h hgg hY hm hPl hRl hlx hzs
  go_enter Tryz.func150, Tryz.ntmps150
  go_wp2_with (simp only [HOv.out])
  go_region_held3 (fun w' => True) (first | trivial | go_keep)
   (first
    | (refine step_copy_run (by rfl) _ _ 23 23 (by rfl) _ _ (by rfl) (by rfl) _ _ (HC1.out _ _ _ _ _ (by omega) (by omega) (by omega)) ?_))
  go_wp2_with fail
  rw [HC2.out _ _ rfl]
  go_wp2_with fail
  go_ret
  exact HE.out
 ·
  -- a new row
  obtain ⟨cap', zs0, hr, hzl, hc1, hc2⟩ := run_append_make (P := Tryz.prog) w 23 3 23 62 i0 _ 4 56 Tryz.underlying23 Tryz.underlying3 hi0 hz0 hz1 hz2 rfl (by omega) H g i cap m (xs.take (i * 4)) hPl (fun j u hu => by
   rw [cellB hgg]
   have hj : j < i * 4 := by
    rcases Nat.lt_or_ge j (xs.take (i * 4)).length with h | h
    · omega
    · rw [List.getElem?_eq_none h] at hu; cases hu
   rw [← hAP, List.getElem?_take_of_lt hj] at hu
   simpa using hu) (by omega) (by omega) (by omega) (by omega) hH
  obtain ⟨A, hA⟩ : ∃ A, ((xs.take (i * 4) ++ zs0).toArray ++ Builtin.zeroCells (i0.zero.getD (.bool false)).cells (cap' - (i + m))) = A := ⟨_, rfl⟩
  rw [hz0] at hA
  simp only [Option.getD_some] at hA
  rw [hA] at hr
  have hAn : A.toList.length = cap' * 4 := by
   rw [← hA, Array.toList_append, List.length_append, List.toList_toArray, List.length_append, hPl, hzl, Array.length_toList, zeroCells_size]
   have : (Value.cells (.agg #[.int .i64 0, .bool false, .slice none 0 0, .string ⟨#[]⟩])).size = 4 := rfl
   rw [this]
   have e9 : cap' * 4 = (i + m) * 4 + (cap' - (i + m)) * 4 := by rw [← Nat.add_mul]; congr 1; omega
   rw [e9, Nat.add_mul]
  have hAt : A.toList.take (i * 4) = xs.take (i * 4) := by
   rw [← hA, Array.toList_append, List.toList_toArray, List.append_assoc]
   exact List.take_left' hPl
  obtain ⟨W1, hW1⟩ : ∃ W1, w.drew.alloc (.cells A 62) = W1 := ⟨_, rfl⟩
  rw [hW1] at hr
  obtain ⟨G, hG⟩ : ∃ G, w.heap.size = G := ⟨_, rfl⟩
  rw [hG] at hr
  have hg1 : W1.heap[G]? = some (.cells A 62 (0, 0)) := by rw [← hW1, ← hG]; exact Go.heap_alloc_new w.drew _
  have k1 : Kept [] w W1 := by rw [← hW1]; exact (Kept.refl [] w).drew.alloc _
  have hgl : g < G := by rw [← hG]; exact lt_of_heap hgg
  have hYl : Y < G := by rw [← hG]; exact lt_of_heap hY
  obtain ⟨q3, q4, q5⟩ := put2 (A := A.toList) (P := xs.take (i * 4)) (Y := ys) (R := xs.drop (i * 4)) (p := i * 4) (k := 4) (r := (n - i) * 4) hAt hPl hyl hRl (by rw [hAn]; omega)
  obtain ⟨A1, hA1⟩ : ∃ A1, A.toList.take (i * 4) ++ ys ++ A.toList.drop (i * 4 + 4) = A1 := ⟨_, rfl⟩
  rw [hA1] at q3 q4 q5
  obtain ⟨A2, hA2⟩ : ∃ A2, A1.take (i * 4 + 4) ++ xs.drop (i * 4) ++ A1.drop (i * 4 + 4 + (n - i) * 4) = A2 := ⟨_, rfl⟩
  rw [hA2] at q3 q4
  obtain ⟨W2, hW2⟩ : ∃ W2, W1.setRow G A1.toArray = W2 := ⟨_, rfl⟩
  have hg2 : W2.heap[G]? = some (.cells A1.toArray 62 (0, 0)) := by rw [← hW2]; exact setRow_heap W1 G A _ _ _ hg1
  have k2 : Kept [G] W1 W2 := by rw [← hW2]; exact (Kept.refl [G] W1).setRow (Or.inl (by simp)) _
  have HC1 : Hid (∀ dl dc, dl = m → (Builtin.copy_ #[23, 23] 3 #[.slice (some ⟨G, i * 4, none⟩) dl dc, .slice (some ⟨Y, 0, none⟩) 1 1]).run Tryz.prog W1 = .ok (goInt 1) W2) := fun dl dc hdl => by
   subst hdl
   have := run_copy_k (P := Tryz.prog) W1 23 23 3 62 G (i * 4) dl dc ⟨Y, 0, none⟩ 1 1 A 62 ys 4 Tryz.underlying23 sz_Inode hg1 (by rw [hyl, show Nat.min 1 dl = 1 from by simp only [Nat.min_def]; split <;> omega]) (hyc W1 (k1.block Y (lt_of_heap hY) (by simp))) (by rw [hyl, Array.size_eq_length_toList, hAn]; omega) hy1
   rw [hyl, show Nat.min 1 dl = 1 from by simp only [Nat.min_def]; split <;> omega, hA1, hW2] at this
   exact this
  obtain ⟨W3, hW3⟩ : ∃ W3, W2.drew.setRow G A2.toArray = W3 := ⟨_, rfl⟩
  have HC2 : Hid (∀ dl dc oo sc, dl = n - i → oo = i * 4 + 4 → (Builtin.copy_ #[23, 23] 3 #[.slice (some ⟨G, oo, none⟩) dl dc, .slice (some ⟨g, i * 4, none⟩) (n - i) sc]).run Tryz.prog W2.drew = .ok (goInt ((n - i : Nat) : Int)) W3) := fun dl dc oo sc hdl hoo => by
   subst hdl hoo
   have := run_copy_k (P := Tryz.prog) W2.drew 23 23 3 62 G (i * 4 + 4) (n - i) dc ⟨g, i * 4, none⟩ (n - i) sc A1.toArray 62 (xs.drop (i * 4)) 4 Tryz.underlying23 sz_Inode hg2 (by rw [hRl, show Nat.min (n - i) (n - i) = n - i from Nat.min_self _]) (hxc W2.drew ((k2.block g (by have := k1.size; omega) (by simp; omega)).trans (k1.block g (lt_of_heap hgg) (by simp)))) (by rw [hRl, List.size_toArray, q5, hAn]; omega) h1R
   simp only [List.toList_toArray] at this
   rw [hRl, hA2, hW3, show Nat.min (n - i) (n - i) = n - i from Nat.min_self _] at this
   exact this
  have HE : Hid (InsR H 62 4 (.slice (some ⟨g, 0, none⟩) n cap) (n + 1) zs w (.returned (.slice (some ⟨G, 0, none⟩) (i + m) cap')) W3) := by
   rw [← hzs]
   have e2 : (n + 1) * 4 = i * 4 + 4 + (n - i) * 4 := by omega
   refine InsR.mk ⟨?_, .inr ⟨G, cap', A2.toArray, by rw [hm], by omega, ?_, by omega, hc2, ?_, ?_⟩⟩ ?_ (fun b hb => Or.inr ?_)
   · rw [List.length_append, List.length_append, hPl, hyl, hRl]; omega
   · rw [← hW3]; exact setRow_heap W2.drew G A1.toArray _ _ _ hg2
   · simp only [List.size_toArray]; omega
   · rw [List.toList_toArray, e2]; exact q3
   ·
    have k3 : Kept [G] W2 W3 := by rw [← hW3]; exact (Kept.refl [G] W2).drew.setRow (Or.inl (by simp)) _
    have h3 : Kept [] w W3 := (k1.trans k2 (fun x hx => by rw [List.mem_singleton] at hx; subst hx; right; omega)).trans k3 (fun x hx => by rw [List.mem_singleton] at hx; subst hx; right; omega)
    exact h3.mono (by simp)
   ·
    have : b = G := by simpa [Value.ownBlock] using hb.symm
    omega
  have HAp : Hid (_) := hr
  have v2 : (cap : Int) < (n : Int) + 1 := by omega
  have v3 : IntKind.i64.wrap ((i : Int) + 1) = (i : Int) + 1 := by rw [IntKind.wrap_i64]; omega
  have v4 : (0 : Int) ≤ (i : Int) + 1 := by omega
  have v5 : ((i : Int) + 1).toNat = i + 1 := by omega
  have v6 : (i : Int) + 1 ≤ (i : Int) + (m : Int) := by omega
  have v7 : ¬ cap' = i + 1 := by omega
  have v8 : (i : Int) ≤ (cap : Int) := by omega
  have v9 : (n : Int) + 1 - (i : Int) = (m : Int) := by omega
  have v10 : wrap64 ((n : Int) + 1 - (i : Int)) = (m : Int) := by unfold wrap64; omega
  have v11 : (i : Int) ≤ (i : Int) + (m : Int) := by omega
  have v12 : ¬ cap' = i := by omega
  have v13 : (i + 1) * 4 = i * 4 + 4 := by omega
  have v14 : i ≤ cap := by omega
  have v15 : i + m - i = m := by omega
  have v16 : i + m - (i + 1) = n - i := by omega
  clear q3 q4 q5 hA1 hA2 hg1 hg2 hW1 hW2 hW3 htk hAP hxc hyc h1R h1P h1 hy1 hcs hAl h hgg hY hm hPl hRl hlx hzs hA hAn hAt hr k1 k2 hzl
  go_enter Tryz.func150, Tryz.ntmps150
  go_wp2_with (first
   | (at_builtin; refine wpList_append_run _ rfl _ _ 23 3 rfl _ _ rfl rfl _ _ HAp.out ?_))
  rw [HC1.out _ _ rfl]
  go_wp2_with fail
  go_region_held3 (fun w' => True) (first | trivial | go_keep)
   (first
    | (refine step_copy_run (by rfl) _ _ 23 23 (by rfl) _ _ (by rfl) (by rfl) _ _ (HC2.out _ _ _ _ (by omega) (by omega)) ?_))
  go_wp2_with fail
  go_ret
  exact HE.out
end Go.Proofs.YtffncojcnbhblaaGreatDoor
