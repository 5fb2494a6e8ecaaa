/-
  Joined of my texts Pi Ob.
-/
import Derived.Test.YtffncojcnbhblaaGreatDoorJd17
set_option linter.unusedVariables false
set_option linter.unusedSimpArgs false
set_option maxRecDepth 100000
set_option maxHeartbeats 8000000
namespace Go.Proofs.YtffncojcnbhblaaGreatDoor
open Go.RowKit
def whereR {α : Type} (f : α → α → Bool) (L : List α) (x : α) : Nat := L.findIdx fun y => !(f y x)
def insR {α : Type} (f : α → α → Bool) (L : List α) (x : α) : List α := L.take (whereR f L x) ++ x :: L.drop (whereR f L x)
theorem where_le {α : Type} {f : α → α → Bool} {L : List α} {x : α} : whereR f L x ≤ L.length := List.findIdx_le_length
theorem insR_length {α : Type} {f : α → α → Bool} {L : List α} {x : α} : (insR f L x).length = L.length + 1 := by
 have := where_le (f := f) (L := L) (x := x)
 unfold insR
 rw [List.length_append, List.length_cons, List.length_take, List.length_drop]
 omega
theorem adj_all {α : Type} {f : α → α → Bool} (ht : ∀ x y z, f x y = true → f y z = true → f x z = true) {L : List α} (h : adj f L = true) : ∀ i j (hi : i < L.length) (hj : j < L.length), i < j → f L[i] L[j] = true := by
 rw [adj_iff] at h
 intro i j
 induction j with
 | zero => intro _ _ h; omega
 | succ j ih =>
  intro hi hj hij
  by_cases e : i = j
  · subst e; exact h i hj
  · exact ht _ _ _ (ih hi (by omega) (by omega)) (h j hj)
theorem adj_mono {α : Type} {f : α → α → Bool} (ht : ∀ x y z, f x y = true → f y z = true → f x z = true) {L : List α} (h : adj f L = true) (x : α) : ∀ i j (hi : i < L.length) (hj : j < L.length), i ≤ j → f L[j] x = true → f L[i] x = true := fun i j hi hj hij hx => by
 by_cases e : i = j
 · subst e; exact hx
 · exact ht _ _ _ (adj_all ht h i j hi hj (by omega)) hx
theorem ltE_trans (x y z : En) (h1 : ltE x y = true) (h2 : ltE y z = true) : ltE x z = true := below_trans h1 h2
theorem ltI_trans (x y z : Ino) (h1 : ltI x y = true) (h2 : ltI y z = true) : ltI x z = true := by
 unfold ltI at *; simp only [decide_eq_true_eq] at *; omega
theorem ltD_trans (x y z : Ds) (h1 : ltD x y = true) (h2 : ltD y z = true) : ltD x z = true := by
 unfold ltD at *
 simp only [Bool.or_eq_true, Bool.and_eq_true, decide_eq_true_eq, beq_iff_eq] at *
 omega
theorem flat_take (E : List En) (q : Nat) : (flat E).take (q * 2) = flat (E.take q) := by
 rcases Nat.lt_or_ge q E.length with h | h
 ·
  have : flat E = flat (E.take q) ++ flat (E.drop q) := by rw [← flat_append, List.take_append_drop]
  rw [this]
  exact List.take_left' (by rw [flat_length, List.length_take]; omega)
 · rw [List.take_of_length_le (by rw [flat_length]; omega), List.take_of_length_le h]
theorem flat_drop (E : List En) (q : Nat) : (flat E).drop (q * 2) = flat (E.drop q) := by
 rcases Nat.lt_or_ge q E.length with h | h
 ·
  have : flat E = flat (E.take q) ++ flat (E.drop q) := by rw [← flat_append, List.take_append_drop]
  rw [this]
  exact List.drop_left' (by rw [flat_length, List.length_take]; omega)
 · rw [List.drop_of_length_le (by rw [flat_length]; omega), List.drop_of_length_le h]; rfl
theorem desC_take (D : List Ds) (q : Nat) : (desC D).take (q * 3) = desC (D.take q) := by
 rcases Nat.lt_or_ge q D.length with h | h
 ·
  have : desC D = desC (D.take q) ++ desC (D.drop q) := by rw [← desC_append, List.take_append_drop]
  rw [this]
  exact List.take_left' (by rw [desC_length, List.length_take]; omega)
 · rw [List.take_of_length_le (by rw [desC_length]; omega), List.take_of_length_le h]
theorem desC_drop (D : List Ds) (q : Nat) : (desC D).drop (q * 3) = desC (D.drop q) := by
 rcases Nat.lt_or_ge q D.length with h | h
 ·
  have : desC D = desC (D.take q) ++ desC (D.drop q) := by rw [← desC_append, List.take_append_drop]
  rw [this]
  exact List.drop_left' (by rw [desC_length, List.length_take]; omega)
 · rw [List.drop_of_length_le (by rw [desC_length]; omega), List.drop_of_length_le h]; rfl
theorem inoC_split {L : List Ino} {vs : List Value} (h : vs.length = L.length) (q : Nat) : inoC L vs = inoC (L.take q) (vs.take q) ++ inoC (L.drop q) (vs.drop q) := by
 rw [← inoC_append (by rw [List.length_take, List.length_take, h]), List.take_append_drop, List.take_append_drop]
theorem inoC_take {L : List Ino} {vs : List Value} (h : vs.length = L.length) (q : Nat) (hq : q ≤ L.length) : (inoC L vs).take (q * 4) = inoC (L.take q) (vs.take q) := by
 rw [inoC_split h q]
 exact List.take_left' (by rw [inoC_length (by rw [List.length_take, List.length_take, h]), List.length_take]; omega)
theorem inoC_drop {L : List Ino} {vs : List Value} (h : vs.length = L.length) (q : Nat) (hq : q ≤ L.length) : (inoC L vs).drop (q * 4) = inoC (L.drop q) (vs.drop q) := by
 rw [inoC_split h q]
 exact List.drop_left' (by rw [inoC_length (by rw [List.length_take, List.length_take, h]), List.length_take]; omega)
theorem put_ent {w : World} {H : Nat} {v : Value} {L : List En} (h : w.ownsRow H 64 2 v L.length (flat L)) (hH : H ≤ w.heap.size) (hn : L.length ≤ 5864062014634) (hs : adj ltE L = true) (x : En) :
  Calls Tryz.prog 151 #[v, .agg #[.string x.1, .int .i64 x.2], .func (.func 80) #[] #[]] w (InsR H 64 2 v (L.length + 1) (flat (insR ltE L x)) w) := by
 have HM : Hid (_) := adj_mono ltE_trans hs x
 have HH : Hid (w.ownsRow H 64 2 v L.length (flat L)) := h
 have HRel : Hid (∀ a c, v = .slice a L.length c → EntA w a L) := fun a c e i hi => by
  obtain ⟨a', c', e', -, -, r⟩ := row_form h
  rw [e] at e'
  simp only [Value.slice.injEq, true_and] at e'
  obtain ⟨rfl, -⟩ := e'
  obtain ⟨q0, q1⟩ := flat_get L i _ (List.getElem?_eq_getElem hi)
  obtain ⟨g, hg, p0⟩ := r _ _ q0
  obtain ⟨g', hg', p1⟩ := r _ _ q1
  rw [hg] at hg'
  simp only [Option.some.injEq, Addr.mk.injEq, and_true] at hg'
  subst hg'
  exact ⟨g, 0, hg, by rw [Nat.zero_add]; exact p0, by rw [Nat.zero_add]; exact p1⟩
 obtain ⟨W1, R, HWR, HKR, r0, r1⟩ := box2 w (.string x.1) (.int .i64 x.2) 64
 obtain ⟨a, c, hv, -⟩ := row_form h
 have HB : Hid (∀ W, Kept [] w W → Calls Tryz.prog 161 #[.slice a L.length c, .agg #[.string x.1, .int .i64 x.2], .func (.func 80) #[] #[]] W fun e w' => FoundAt (whereR ltE L x) e ∧ Kept [] W w') := fun W hW => (bs_ent ((HRel.out a c hv).kept hW) hn c x.1 x.2 x rfl HM.out)
 subst hv
 have HHs : Hid (H ≤ w.heap.size ∧ L.length ≤ 5864062014634) := ⟨hH, hn⟩
 clear h hs hH
 go_enter Tryz.func151, Tryz.ntmps151
 go_upto_region 1 with fail
 rw [HWR.out.1, HWR.out.2]
 clear HWR
 go_wp2_with fail
 refine (HB.out W1 HKR.out).mono ?_
 rintro e w2 ⟨⟨f, rfl⟩, k2⟩
 have HK2 : Hid (Kept [] w w2) := HKR.out.trans k2 (by simp)
 have s0 := k2.cell r0 (by simp)
 have s1 := k2.cell r1 (by simp)
 obtain ⟨q, hq⟩ : ∃ q, whereR ltE L x = q := ⟨_, rfl⟩
 have HQ : Hid (_) := hq
 have HQl : Hid (q ≤ L.length) := by rw [← hq]; exact where_le
 rw [hq]
 clear k2 r0 r1 hq
 obtain ⟨W3, hW3⟩ : ∃ W3, w2.alloc (.cells #[.string x.1, .int .i64 x.2] 64) = W3 := ⟨_, rfl⟩
 obtain ⟨Y, hYY⟩ : ∃ Y, w2.heap.size = Y := ⟨_, rfl⟩
 have HK3 : Hid (Kept [] w W3) := by rw [← hW3]; exact HK2.out.alloc _
 have HI : Hid (Calls Tryz.prog 162 #[.slice a L.length c, .int .i64 (q : Int), .slice (some ⟨Y, 0, none⟩) 1 1] W3 (InsR H 64 2 (.slice a L.length c) (L.length + 1) ((flat L).take (q * 2) ++ [.string x.1, .int .i64 x.2] ++ (flat L).drop (q * 2)) W3)) := by
  refine ins_Entry (row_keep HH.out HK3.out (by simp)) (by have := HK3.out.size; have := HHs.out.1; omega) (flat_one L) q HQl.out HHs.out.2 Y [.string x.1, .int .i64 x.2] rfl (by rw [← hW3, ← hYY]; exact Go.heap_alloc_new _ _) (by
   intro u hu
   simp only [List.mem_cons, List.not_mem_nil, or_false] at hu
   rcases hu with rfl | rfl <;> rfl) (fun e => ?_)
  have := HH.out.lt _ e
  have := HK2.out.size
  omega
 have HW3 : Hid (_ ∧ _) := ⟨hW3, hYY⟩
 have HF : Hid ((flat L).take (q * 2) ++ [.string x.1, .int .i64 x.2] ++ (flat L).drop (q * 2) = flat (insR ltE L x)) := by
  show _ = _
  rw [flat_take, flat_drop]
  unfold insR
  rw [HQ.out, flat_append, List.append_assoc]
  rfl
 obtain ⟨zs, hzs⟩ : ∃ zs, (flat L).take (q * 2) ++ [.string x.1, .int .i64 x.2] ++ (flat L).drop (q * 2) = zs := ⟨_, rfl⟩
 rw [hzs] at HI HF
 clear hW3 hYY hzs
 go_wp2_with (simp only [HW3.out.1, HW3.out.2])
 refine HI.out.mono ?_
 rintro e w4 ⟨v', rfl, r4, k4, h4⟩
 obtain ⟨a4, c4, hv4, -⟩ := row_form r4
 rw [HF.out] at r4
 have HE : Hid (InsR H 64 2 (.slice a L.length c) (L.length + 1) (flat (insR ltE L x)) w (.returned v') w4) := InsR.mk r4 ((HK3.out.mono (by simp)).trans k4 (fun x hx => Or.inl hx)) (fun b hb => by
  rcases h4 b hb with h | h
  · exact Or.inl h
  · right; have := HK3.out.size; omega)
 subst hv4
 clear r4 k4 h4
 go_wp2_with fail
 go_ret
 exact HE.out
theorem put_des {w : World} {H : Nat} {v : Value} {L : List Ds} (h : w.ownsRow H 83 3 v L.length (desC L)) (hH : H ≤ w.heap.size) (hn : L.length ≤ 5864062014634) (hs : adj ltD L = true) (x : Ds) :
  Calls Tryz.prog 136 #[v, .agg #[.int .i64 x.1, .int .i64 x.2.1, .int .i64 x.2.2], .func (.func 56) #[] #[]] w (InsR H 83 3 v (L.length + 1) (desC (insR ltD L x)) w) := by
 have HM : Hid (_) := adj_mono ltD_trans hs x
 have HH : Hid (w.ownsRow H 83 3 v L.length (desC L)) := h
 have HRel : Hid (∀ a c, v = .slice a L.length c → DesA w a L) := fun a c e i hi => by
  obtain ⟨a', c', e', -, -, r⟩ := row_form h
  rw [e] at e'
  simp only [Value.slice.injEq, true_and] at e'
  obtain ⟨rfl, -⟩ := e'
  obtain ⟨q0, q1, q2⟩ := desC_get hi
  obtain ⟨g, hg, p0⟩ := r _ _ q0
  obtain ⟨g', hg', p1⟩ := r _ _ q1
  obtain ⟨g'', hg'', p2⟩ := r _ _ q2
  rw [hg] at hg' hg''
  simp only [Option.some.injEq, Addr.mk.injEq, and_true] at hg' hg''
  subst hg' hg''
  exact ⟨g, 0, hg, by rw [Nat.zero_add]; exact p0, by rw [Nat.zero_add]; exact p1, by rw [Nat.zero_add]; exact p2⟩
 obtain ⟨W1, R, HWR, HKR, r0, r1, r2⟩ := box3 w (.int .i64 x.1) (.int .i64 x.2.1) (.int .i64 x.2.2) 83
 obtain ⟨a, c, hv, -⟩ := row_form h
 have HB : Hid (∀ W, Kept [] w W → Calls Tryz.prog 153 #[.slice a L.length c, .agg #[.int .i64 x.1, .int .i64 x.2.1, .int .i64 x.2.2], .func (.func 56) #[] #[]] W fun e w' => FoundAt (whereR ltD L x) e ∧ Kept [] W w') := fun W hW => (bs_des ((HRel.out a c hv).kept hW) hn c x x rfl HM.out)
 subst hv
 have HHs : Hid (H ≤ w.heap.size ∧ L.length ≤ 5864062014634) := ⟨hH, hn⟩
 clear h hs hH
 go_enter Tryz.func136, Tryz.ntmps136
 go_upto_region 1 with fail
 rw [HWR.out.1, HWR.out.2]
 clear HWR
 go_wp2_with fail
 refine (HB.out W1 HKR.out).mono ?_
 rintro e w2 ⟨⟨f, rfl⟩, k2⟩
 have HK2 : Hid (Kept [] w w2) := HKR.out.trans k2 (by simp)
 have s0 := k2.cell r0 (by simp)
 have s1 := k2.cell r1 (by simp)
 have s2 := k2.cell r2 (by simp)
 obtain ⟨q, hq⟩ : ∃ q, whereR ltD L x = q := ⟨_, rfl⟩
 have HQ : Hid (_) := hq
 have HQl : Hid (q ≤ L.length) := by rw [← hq]; exact where_le
 rw [hq]
 clear k2 r0 r1 r2 hq
 obtain ⟨W3, hW3⟩ : ∃ W3, w2.alloc (.cells #[.int .i64 x.1, .int .i64 x.2.1, .int .i64 x.2.2] 83) = W3 := ⟨_, rfl⟩
 obtain ⟨Y, hYY⟩ : ∃ Y, w2.heap.size = Y := ⟨_, rfl⟩
 have HK3 : Hid (Kept [] w W3) := by rw [← hW3]; exact HK2.out.alloc _
 have HI : Hid (Calls Tryz.prog 154 #[.slice a L.length c, .int .i64 (q : Int), .slice (some ⟨Y, 0, none⟩) 1 1] W3 (InsR H 83 3 (.slice a L.length c) (L.length + 1) ((desC L).take (q * 3) ++ [.int .i64 x.1, .int .i64 x.2.1, .int .i64 x.2.2] ++ (desC L).drop (q * 3)) W3)) := by
  refine ins_Desc (row_keep HH.out HK3.out (by simp)) (by have := HK3.out.size; have := HHs.out.1; omega) desC_one q HQl.out HHs.out.2 Y [.int .i64 x.1, .int .i64 x.2.1, .int .i64 x.2.2] rfl (by rw [← hW3, ← hYY]; exact Go.heap_alloc_new _ _) (by
   intro u hu
   simp only [List.mem_cons, List.not_mem_nil, or_false] at hu
   rcases hu with rfl | rfl | rfl <;> rfl) (fun e => ?_)
  have := HH.out.lt _ e
  have := HK2.out.size
  omega
 have HW3 : Hid (_ ∧ _) := ⟨hW3, hYY⟩
 have HF : Hid ((desC L).take (q * 3) ++ [.int .i64 x.1, .int .i64 x.2.1, .int .i64 x.2.2] ++ (desC L).drop (q * 3) = desC (insR ltD L x)) := by
  show _ = _
  rw [desC_take, desC_drop]
  unfold insR
  rw [HQ.out, desC_append, List.append_assoc]
  rfl
 obtain ⟨zs, hzs⟩ : ∃ zs, (desC L).take (q * 3) ++ [.int .i64 x.1, .int .i64 x.2.1, .int .i64 x.2.2] ++ (desC L).drop (q * 3) = zs := ⟨_, rfl⟩
 rw [hzs] at HI HF
 clear hW3 hYY hzs
 go_wp2_with (simp only [HW3.out.1, HW3.out.2])
 refine HI.out.mono ?_
 rintro e w4 ⟨v', rfl, r4, k4, h4⟩
 obtain ⟨a4, c4, hv4, -⟩ := row_form r4
 rw [HF.out] at r4
 have HE : Hid (InsR H 83 3 (.slice a L.length c) (L.length + 1) (desC (insR ltD L x)) w (.returned v') w4) := InsR.mk r4 ((HK3.out.mono (by simp)).trans k4 (fun x hx => Or.inl hx)) (fun b hb => by
  rcases h4 b hb with h | h
  · exact Or.inl h
  · right; have := HK3.out.size; omega)
 subst hv4
 clear r4 k4 h4
 go_wp2_with fail
 go_ret
 exact HE.out
theorem put_ino {w : World} {H : Nat} {v : Value} {L : List Ino} {ev : List Value} (hev : ev.length = L.length) (hent : ∀ i (hi : i < L.length) (hv : i < ev.length), ∃ aE cE, ev[i] = .slice aE (L[i]).ents.length cE ∧ EntA w aE (L[i]).ents ∧ (L[i]).ents.length ≤ cE ∧ ∀ y, aE = some y → ∃ b o, y = ⟨b, o, none⟩) (h : w.ownsRow H 62 4 v L.length (inoC L ev)) (hH : H ≤ w.heap.size) (hn : L.length ≤ 2513169434843) (hs : adj ltI L = true) (x : Ino) :
  Calls Tryz.prog 132 #[v, .agg #[.int .i64 x.num, .bool x.dir, .slice none 0 0, .string x.data], .func (.func 51) #[] #[]] w (InsR H 62 4 v (L.length + 1) (inoC (insR ltI L x) (ev.take (whereR ltI L x) ++ .slice none 0 0 :: ev.drop (whereR ltI L x))) w) := by
 have HM : Hid (_) := adj_mono ltI_trans hs x
 have HH : Hid (w.ownsRow H 62 4 v L.length (inoC L ev)) := h
 have HRel : Hid (∀ a c, v = .slice a L.length c → InoA w a L) := fun a c e i hi => by
  obtain ⟨a', c', e', -, -, r⟩ := row_form h
  rw [e] at e'
  simp only [Value.slice.injEq, true_and] at e'
  obtain ⟨rfl, -⟩ := e'
  have hiv : i < ev.length := by rw [hev]; exact hi
  obtain ⟨q0, q1, q2, q3⟩ := inoC_get hi hiv
  obtain ⟨g, hg, p0⟩ := r _ _ q0
  obtain ⟨g', hg', p1⟩ := r _ _ q1
  obtain ⟨g'', hg'', p2⟩ := r _ _ q2
  obtain ⟨g3, hg3, p3⟩ := r _ _ q3
  rw [hg] at hg' hg'' hg3
  simp only [Option.some.injEq, Addr.mk.injEq, and_true] at hg' hg'' hg3
  subst hg' hg'' hg3
  obtain ⟨aE, cE, eE, f1, f2, f3⟩ := hent i hi hiv
  rw [eE] at p2
  exact ⟨g, 0, aE, cE, hg, by rw [Nat.zero_add]; exact p0, by rw [Nat.zero_add]; exact p1, by rw [Nat.zero_add]; exact p2, by rw [Nat.zero_add]; exact p3, f1, f2, trivial⟩
 have HEv : Hid (ev.length = L.length ∧ ∀ u ∈ ev, u.oneCell' = true) := ⟨hev, fun u hu => by
  obtain ⟨i, hi, rfl⟩ := List.getElem_of_mem hu
  obtain ⟨aE, cE, eE, -⟩ := hent i (by rw [← hev]; exact hi) hi
  rw [eE]; rfl⟩
 clear hent hev
 obtain ⟨W1, R, HWR, HKR, r0, r1, r2, r3⟩ := box4 w (.int .i64 x.num) (.bool x.dir) (.slice none 0 0) (.string x.data) 62
 obtain ⟨a, c, hv, -⟩ := row_form h
 have HB : Hid (∀ W, Kept [] w W → Calls Tryz.prog 149 #[.slice a L.length c, .agg #[.int .i64 x.num, .bool x.dir, .slice none 0 0, .string x.data], .func (.func 51) #[] #[]] W fun e w' => FoundAt (whereR ltI L x) e ∧ Kept [] W w') := fun W hW => (bs_ino ((HRel.out a c hv).kept hW) hn c x none 0 0 x rfl HM.out)
 subst hv
 have HHs : Hid (H ≤ w.heap.size ∧ L.length ≤ 2513169434843) := ⟨hH, hn⟩
 clear h hs hH
 go_enter Tryz.func132, Tryz.ntmps132
 go_upto_region 1 with fail
 rw [HWR.out.1, HWR.out.2]
 clear HWR
 go_wp2_with fail
 refine (HB.out W1 HKR.out).mono ?_
 rintro e w2 ⟨⟨f, rfl⟩, k2⟩
 have HK2 : Hid (Kept [] w w2) := HKR.out.trans k2 (by simp)
 have s0 := k2.cell r0 (by simp)
 have s1 := k2.cell r1 (by simp)
 have s2 := k2.cell r2 (by simp)
 have s3 := k2.cell r3 (by simp)
 obtain ⟨q, hq⟩ : ∃ q, whereR ltI L x = q := ⟨_, rfl⟩
 have HQ : Hid (_) := hq
 have HQl : Hid (q ≤ L.length) := by rw [← hq]; exact where_le
 rw [hq]
 clear k2 r0 r1 r2 r3 hq
 obtain ⟨W3, hW3⟩ : ∃ W3, w2.alloc (.cells #[.int .i64 x.num, .bool x.dir, .slice none 0 0, .string x.data] 62) = W3 := ⟨_, rfl⟩
 obtain ⟨Y, hYY⟩ : ∃ Y, w2.heap.size = Y := ⟨_, rfl⟩
 have HK3 : Hid (Kept [] w W3) := by rw [← hW3]; exact HK2.out.alloc _
 have HI : Hid (Calls Tryz.prog 150 #[.slice a L.length c, .int .i64 (q : Int), .slice (some ⟨Y, 0, none⟩) 1 1] W3 (InsR H 62 4 (.slice a L.length c) (L.length + 1) ((inoC L ev).take (q * 4) ++ [.int .i64 x.num, .bool x.dir, .slice none 0 0, .string x.data] ++ (inoC L ev).drop (q * 4)) W3)) := by
  refine ins_Inode (row_keep HH.out HK3.out (by simp)) (by have := HK3.out.size; have := HHs.out.1; omega) (inoC_one HEv.out.2) q HQl.out HHs.out.2 Y [.int .i64 x.num, .bool x.dir, .slice none 0 0, .string x.data] rfl (by rw [← hW3, ← hYY]; exact Go.heap_alloc_new _ _) (by
   intro u hu
   simp only [List.mem_cons, List.not_mem_nil, or_false] at hu
   rcases hu with rfl | rfl | rfl | rfl <;> rfl) (fun e => ?_)
  have := HH.out.lt _ e
  have := HK2.out.size
  omega
 have HW3 : Hid (_ ∧ _) := ⟨hW3, hYY⟩
 have HF : Hid ((inoC L ev).take (q * 4) ++ [.int .i64 x.num, .bool x.dir, .slice none 0 0, .string x.data] ++ (inoC L ev).drop (q * 4) = inoC (insR ltI L x) (ev.take (whereR ltI L x) ++ .slice none 0 0 :: ev.drop (whereR ltI L x))) := by
  show _ = _
  rw [inoC_take HEv.out.1 q HQl.out, inoC_drop HEv.out.1 q HQl.out]
  unfold insR
  rw [HQ.out, inoC_append (by rw [List.length_take, List.length_take, HEv.out.1]), List.append_assoc]
  rfl
 obtain ⟨zs, hzs⟩ : ∃ zs, (inoC L ev).take (q * 4) ++ [.int .i64 x.num, .bool x.dir, .slice none 0 0, .string x.data] ++ (inoC L ev).drop (q * 4) = zs := ⟨_, rfl⟩
 rw [hzs] at HI HF
 clear hW3 hYY hzs
 go_wp2_with (simp only [HW3.out.1, HW3.out.2])
 refine HI.out.mono ?_
 rintro e w4 ⟨v', rfl, r4, k4, h4⟩
 obtain ⟨a4, c4, hv4, -⟩ := row_form r4
 rw [HF.out] at r4
 have HE : Hid (InsR H 62 4 (.slice a L.length c) (L.length + 1) (inoC (insR ltI L x) (ev.take (whereR ltI L x) ++ .slice none 0 0 :: ev.drop (whereR ltI L x))) w (.returned v') w4) := InsR.mk r4 ((HK3.out.mono (by simp)).trans k4 (fun x hx => Or.inl hx)) (fun b hb => by
  rcases h4 b hb with h | h
  · exact Or.inl h
  · right; have := HK3.out.size; omega)
 subst hv4
 clear r4 k4 h4
 go_wp2_with fail
 go_ret
 exact HE.out
structure Cb (w0 w : World) (B : Nat) (c : Cal) (pk : Value) (v1 v2 v3 : Value) (ev : List Value) (S : Sta) : Prop where
 k : Kept [] w0 w
 box : w.heap[B]? = some (.cells (callC c v1 v2 v3 pk) 76 (0, 0))
 os : Os w w0.heap.size v1 v2 v3 ev S
 off : Off [B] v1 v2 v3 ev
 lo : w0.heap.size ≤ B
 tab : Tab w0
 bd : Bd S
theorem Cb.kept {w0 w w' : World} {B : Nat} {c : Cal} {pk v1 v2 v3 : Value} {ev : List Value} {S : Sta} (h : Cb w0 w B c pk v1 v2 v3 ev S) (k : Kept [] w w') : Cb w0 w' B c pk v1 v2 v3 ev S :=
 ⟨h.k.trans k (by simp), (k.block B (lt_of_heap h.box) (by simp)).trans h.box, h.os.kept k, h.off, h.lo, h.tab, h.bd⟩
theorem Cb.rd {w0 w : World} {B : Nat} {c : Cal} {pk v1 v2 v3 : Value} {ev : List Value} {S : Sta} (h : Cb w0 w B c pk v1 v2 v3 ev S) : ∃ p, v1 = .slice p.a1 S.ino.length p.c1 ∧ v2 = .slice p.a2 S.opn.length p.c2 ∧ v3 = .slice p.a3 S.made.length p.c3 ∧ Rd w B c pk p S ∧ (∀ x, p.a1 = some x → ∃ g, x = ⟨g, 0, none⟩) ∧ (∀ x, p.a3 = some x → ∃ g, x = ⟨g, 0, none⟩) := by
 obtain ⟨p, e1, e2, e3, hs, f1, -, f3⟩ := h.os.sv h.bd
 refine ⟨p, e1, e2, e3, ⟨hs, ?_, h.tab.kept h.k⟩, f1, f3⟩
 have := h.box
 rw [e1, e2, e3] at this
 exact this
theorem inoC_set : ∀ {L : List Ino} {vs : List Value} {k : Nat} {x : Ino} {v : Value} (hk : k < L.length), vs.length = L.length → x.num = (L[k]).num → x.dir = (L[k]).dir → x.data = (L[k]).data → inoC (L.set k x) (vs.set k v) = (inoC L vs).set (k * 4 + 2) v
 | y :: l, u :: vs, 0, x, v, _, _, h1, h2, h3 => by
  simp only [List.getElem_cons_zero] at h1 h2 h3
  simp [inoC, h1, h2, h3]
 | y :: l, u :: vs, k + 1, x, v, hk, hl, h1, h2, h3 => by
  have := inoC_set (L := l) (vs := vs) (k := k) (x := x) (v := v) (by simpa using hk) (by simpa using hl) (by simpa using h1) (by simpa using h2) (by simpa using h3)
  have e : (k + 1) * 4 + 2 = k * 4 + 2 + 1 + 1 + 1 + 1 := by omega
  rw [e]
  simp only [List.set_cons_succ, inoC, this]
 | y :: l, [], _, _, _, _, h, _, _, _ => by simp at h
@[reducible] def withE (x : Ino) (E : List En) : Ino := { x with ents := E }
@[reducible] def setE (S : Sta) (k : Nat) (hk : k < S.ino.length) (E : List En) : Sta := ⟨S.ino.set k (withE (S.ino[k]) E), S.opn, S.made⟩
theorem Os.setEnt {w w' : World} {H : Nat} {v1 v2 v3 : Value} {ev : List Value} {S : Sta} (h : Os w H v1 v2 v3 ev S) {k : Nat} (hk : k < S.ino.length) (hv : k < ev.length) {g c1 : Nat} (hv1 : v1 = .slice (some ⟨g, 0, none⟩) S.ino.length c1) {ve : Value} {E : List En}
  (kk : Kept (ev[k]).ownBlock.toList w w') (r : w'.ownsRow H 64 2 ve E.length (flat E)) (hb : ∀ b, ve.ownBlock = some b → (ev[k]).ownBlock = some b ∨ w.heap.size ≤ b) :
  Os (w'.setCell ⟨g, k * 4 + 2, none⟩ ve) H v1 v2 v3 (ev.set k ve) (setE S k hk E) := by
 have hae := h.ae _ (List.getElem_mem hv)
 have notF : ∀ {u : Value}, Ap u (ev[k]) → ∀ x ∈ (ev[k]).ownBlock.toList, u.ownBlock ≠ some x := fun hu x hx e => by
  rw [Option.mem_toList] at hx
  exact hu x e hx
 have hapk : ∀ j (hj : j < ev.length), j ≠ k → Ap (ev[j]) (ev[k]) := fun j hj hne => by
  rcases Nat.lt_or_gt_of_ne hne with h1 | h1
  · exact List.pairwise_iff_getElem.1 h.aee j k hj hv h1
  · exact (List.pairwise_iff_getElem.1 h.aee k j hv hj h1).symm
 have hbg : g < w.heap.size := (h.ino.lt g (by rw [hv1]; rfl)).2
 have hvg : ve.ownBlock ≠ some g := fun e => by
  rcases hb g e with h1 | h1
  · exact hae.1 g (by rw [hv1]; rfl) h1
  · omega
 -- a value apart from the old row is apart from the new one
 have newAp : ∀ {u : Value}, Ap u (ev[k]) → (∀ b, u.ownBlock = some b → b < w.heap.size) → Ap u ve := fun hu hl b hb1 hb2 => by
  rcases hb b hb2 with h1 | h1
  · exact hu b hb1 h1
  · have := hl b hb1; omega
 have r1 := row_keep h.ino kk (notF hae.1)
 have sB : Kept [g] w' (w'.setCell ⟨g, k * 4 + 2, none⟩ ve) := kept_set
 have notg : ∀ {u : Value}, Ap v1 u → ∀ x ∈ [g], u.ownBlock ≠ some x := fun hu x hx e => by
  rw [List.mem_singleton] at hx
  subst hx
  exact hu x (by rw [hv1]; rfl) e
 refine ⟨?_, by simp [h.evl], ?_, row_keep (row_keep h.opn kk (notF hae.2.1)) sB (notg h.a12), row_keep (row_keep h.mad kk (notF hae.2.2)) sB (notg h.a13), h.a12, h.a13, h.a23, ?_, ?_⟩
 ·
  subst hv1
  have := (r1.stored (k * 4 + 2) ve).1
  rw [← inoC_set hk h.evl (x := withE (S.ino[k]) E) rfl rfl rfl] at this
  simpa using this
 ·
  intro i hi hvi
  simp only [List.length_set] at hi hvi
  by_cases e : i = k
  ·
   subst e
   have := row_keep r sB (by simpa using hvg)
   simpa using this
  ·
   have r2 := row_keep (h.ent i hi hvi) kk (notF (hapk i hvi e))
   have r3 := row_keep r2 sB (notg (h.ae _ (List.getElem_mem hvi)).1)
   have e1 : (S.ino.set k (withE (S.ino[k]) E))[i]'(by simpa using hi) = S.ino[i] := List.getElem_set_ne (by omega) _
   have e2 : (ev.set k ve)[i]'(by simpa using hvi) = ev[i] := List.getElem_set_ne (by omega) _
   simpa [e1, e2] using r3
 ·
  intro v hmem
  rcases List.mem_or_eq_of_mem_set hmem with h1 | h1
  · exact h.ae v h1
  ·
   subst h1
   exact ⟨newAp hae.1 fun b hb => (h.ino.lt b hb).2, newAp hae.2.1 fun b hb => (h.opn.lt b hb).2, newAp hae.2.2 fun b hb => (h.mad.lt b hb).2⟩
 ·
  rw [List.pairwise_iff_getElem]
  intro i j hi hj hij
  have hi' : i < ev.length := by simpa using hi
  have hj' : j < ev.length := by simpa using hj
  have lte : ∀ j (hj : j < ev.length), ∀ b, (ev[j]).ownBlock = some b → b < w.heap.size := fun j hj b hb => ((h.ent j (by rw [← h.evl]; exact hj) hj).lt b hb).2
  by_cases e1 : i = k
  ·
   subst e1
   have e2 : (ev.set i ve)[j]'(by simpa using hj) = ev[j] := List.getElem_set_ne (by omega) _
   rw [e2]
   simp only [List.getElem_set_self]
   exact (newAp (hapk j hj' (by omega)) (lte j hj')).symm
  ·
   have e2 : (ev.set k ve)[i]'(by simpa using hi) = ev[i] := List.getElem_set_ne (by omega) _
   rw [e2]
   by_cases e3 : j = k
   ·
    subst e3
    simp only [List.getElem_set_self]
    exact newAp (hapk i hi' e1) (lte i hi')
   ·
    have e4 : (ev.set k ve)[j]'(by simpa using hj) = ev[j] := List.getElem_set_ne (by omega) _
    rw [e4]
    exact List.pairwise_iff_getElem.1 h.aee i j hi' hj' hij
end Go.Proofs.YtffncojcnbhblaaGreatDoor
