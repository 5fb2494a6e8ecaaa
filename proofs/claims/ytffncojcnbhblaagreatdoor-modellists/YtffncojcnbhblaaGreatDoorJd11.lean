/-
  Joined of my texts Mf Os Cp.
-/
import Derived.Test.YtffncojcnbhblaaGreatDoorJd10
import Derived.Test.YtffncojcnbhblaaGreatDoorJd4
set_option linter.unusedVariables false
set_option linter.unusedSimpArgs false
set_option maxRecDepth 100000
set_option maxHeartbeats 8000000
namespace Go.Proofs.YtffncojcnbhblaaGreatDoor
open Go.RowKit
def mayB (S : Sta) : Bool := madeB S.made && numsB S.ino S.made && inosB S.ino && opensB S && heldB S && foundB S.ino
theorem made_iff {M : List Int} : madeB M = true ↔ 1 ≤ M.length ∧ M.length ≤ 8 ∧ ∀ z ∈ M, 0 ≤ z ∧ z ≤ 32 := by
 unfold madeB
 rw [Bool.and_eq_true, Bool.and_eq_true, List.all_eq_true]
 constructor
 ·
  rintro ⟨⟨h1, h2⟩, h3⟩
  exact ⟨by simpa using h1, by simpa using h2, fun z hz => by have := h3 z hz; simpa using this⟩
 ·
  rintro ⟨h1, h2, h3⟩
  exact ⟨⟨by simpa using h1, by simpa using h2⟩, fun z hz => by have := h3 z hz; simpa using this⟩
theorem given_le {M : List Int} (h : madeB M = true) {z : Int} (h2 : 2 ≤ z) (hg : givenB M z = true) : z ≤ 257 := by
 unfold givenB at hg
 rcases hm : M[((z - 2) % 8).toNat]? with _ | m
 · rw [hm] at hg; cases hg
 ·
  rw [hm] at hg
  have h3 : (z - 2) / 8 < m := by simpa using hg
  have h4 := ((made_iff.1 h).2.2 m (List.mem_of_getElem? hm)).2
  omega
theorem nums_rng {L : List Ino} {M : List Int} (hM : madeB M = true) (hN : numsB L M = true) : ∀ k (hk : k < L.length), (k : Int) + 1 ≤ (L[k]).num ∧ (L[k]).num ≤ 257 := by
 obtain ⟨h0, h1, h2, h3, h4⟩ := nums_iff.1 hN
 intro k
 induction k with
 | zero => intro hk; rw [h1]; omega
 | succ k ih =>
  intro hk
  have h5 := ih (by omega)
  have h6 := adj_lt h3 k (k + 1) (by omega) hk (by omega)
  exact ⟨by omega, given_le hM (by omega) (h4 k hk)⟩
theorem ino_ents {L : List Ino} (hI : inosB L = true) {k : Nat} (hk : k < L.length) : ∀ e ∈ (L[k]).ents, (L[k]).dir = true ∧ chk e.1 = 0 ∧ e.2 ≠ 1 ∧ (atR L e.2).isSome = true := by
 intro e he
 unfold inosB at hI
 rw [List.all_eq_true] at hI
 have h1 := hI _ (List.getElem_mem hk)
 unfold inoB at h1
 by_cases hd : (L[k]).dir = true
 ·
  rw [if_pos hd, Bool.and_eq_true] at h1
  obtain ⟨j, hj, rfl⟩ := List.getElem_of_mem he
  have h2 := (ents_iff.1 h1.2).1 j hj
  unfold entB at h2
  rw [Bool.and_eq_true, Bool.and_eq_true] at h2
  exact ⟨hd, by simpa using h2.1.1, by simpa using h2.1.2, h2.2⟩
 ·
  rw [if_neg hd, Bool.and_eq_true, List.isEmpty_iff] at h1
  rw [h1.1] at he
  cases he
theorem rng_of {S : Sta} (hM : madeB S.made = true) (hN : numsB S.ino S.made = true) (hI : inosB S.ino = true) : Rng S := by
 have hr := nums_rng hM hN
 have h0 := (nums_iff.1 hN).1
 refine ⟨fun x hx => ?_, fun x hx e he => ?_, ?_, h0⟩
 ·
  obtain ⟨k, hk, rfl⟩ := List.getElem_of_mem hx
  have := hr k hk
  omega
 ·
  obtain ⟨k, hk, rfl⟩ := List.getElem_of_mem hx
  have h1 := (ino_ents hI hk e he).2.2.2
  rcases ha : atR S.ino e.2 with _ | j
  · rw [ha] at h1; cases h1
  ·
   obtain ⟨hj, e1⟩ := at_get ha
   have := hr j hj
   omega
 ·
  have := hr (S.ino.length - 1) (by omega)
  omega
theorem tr_of {S : Sta} (hN : numsB S.ino S.made = true) (hI : inosB S.ino = true) (hH : heldB S = true) : Tr S.ino := by
 obtain ⟨h0, h1, h2, h3, h4⟩ := nums_iff.1 hN
 refine ⟨h3, h0, h1, h2, fun k hk e he => ⟨(ino_ents hI hk e he).2.2.1, (ino_ents hI hk e he).2.2.2⟩, fun k hk hk0 hd => ?_⟩
 obtain ⟨j, rfl⟩ : ∃ j, k = j + 1 := ⟨k - 1, by omega⟩
 have := held_iff.1 hH j hk
 unfold helB at this
 rw [if_pos hd] at this
 simpa using this
theorem may_iff {S : Sta} : mayB S = true ↔ madeB S.made = true ∧ numsB S.ino S.made = true ∧ inosB S.ino = true ∧ opensB S = true ∧ heldB S = true ∧ foundB S.ino = true := by
 unfold mayB
 simp only [Bool.and_eq_true, and_assoc]
theorem p_may {w : World} {p : Pl} {S : Sta} (h : Sv w p S) (hT : Tab w) (hd : ∀ x ∈ S.ino, x.data.size ≤ 9223372036854775807) :
  Calls Tryz.prog 19 #[sval p S] w fun e w' => e = .returned (.bool (mayB S)) ∧ Kept [] w w' := by
 have HD : Hid (_) := hd
 have HN3 : Hid (S.made.length ≤ lim) := h.n3
 obtain ⟨W0, X, HW, HB⟩ := boxS h
 have HT : Hid (Tab W0) := hT.kept HB.out.k
 have x2 := HB.out.x2
 clear h hT hd
 go_enter Tryz.func19, Tryz.ntmps19
 go_upto_region 1 with fail
 rw [HW.out.1, HW.out.2]
 clear HW
 go_wp2_with fail
 refine (p_made HB.out.sv.mad HN3.out p.c3).mono ?_
 rintro e w1 ⟨rfl, k1⟩
 have HB1 : Hid (_) := HB.out.kept k1
 have HT1 : Hid (Tab w1) := HT.out.kept k1
 clear k1 x2 HB HT
 rcases h1 : madeB S.made with _ | _
 ·
  have HR : Hid (false = mayB S) := by show _ = _; unfold mayB; rw [h1]; rfl
  clear h1
  go_wp2_with fail
  go_ret
  exact ⟨ret_bool HR.out, HB1.out.k⟩
 have H1 : Hid (_) := h1
 clear h1
 have x0 := HB1.out.x0
 have x1 := HB1.out.x1
 have x2 := HB1.out.x2
 go_wp2_with fail
 refine (p_nums HB1.out.sv).mono ?_
 rintro e w2 ⟨rfl, k1⟩
 have HB2 : Hid (_) := HB1.out.kept k1
 have HT2 : Hid (Tab w2) := HT1.out.kept k1
 clear k1 x0 x1 x2
 rcases h : numsB S.ino S.made with _ | _
 ·
  have HR : Hid (false = mayB S) := by show _ = _; unfold mayB; rw [H1.out, h]; rfl
  clear h
  go_wp2_with fail
  go_ret
  exact ⟨ret_bool HR.out, HB2.out.k⟩
 have H2 : Hid (_) := h
 clear h
 have x0 := HB2.out.x0
 have x1 := HB2.out.x1
 have x2 := HB2.out.x2
 go_wp2_with fail
 refine (p_inos HB2.out.sv HT2.out HD.out).mono ?_
 rintro e w3 ⟨rfl, k1⟩
 have HB3 : Hid (_) := HB2.out.kept k1
 have HT3 : Hid (Tab w3) := HT2.out.kept k1
 clear k1 x0 x1 x2
 rcases h : inosB S.ino with _ | _
 ·
  have HR : Hid (false = mayB S) := by show _ = _; unfold mayB; rw [H1.out, H2.out, h]; rfl
  clear h
  go_wp2_with fail
  go_ret
  exact ⟨ret_bool HR.out, HB3.out.k⟩
 have H3 : Hid (_) := h
 clear h
 have x0 := HB3.out.x0
 have x1 := HB3.out.x1
 have x2 := HB3.out.x2
 go_wp2_with fail
 refine (p_opens HB3.out.sv).mono ?_
 rintro e w4 ⟨rfl, k1⟩
 have HB4 : Hid (_) := HB3.out.kept k1
 have HT4 : Hid (Tab w4) := HT3.out.kept k1
 clear k1 x0 x1 x2
 rcases h : opensB S with _ | _
 ·
  have HR : Hid (false = mayB S) := by show _ = _; unfold mayB; rw [H1.out, H2.out, H3.out, h]; rfl
  clear h
  go_wp2_with fail
  go_ret
  exact ⟨ret_bool HR.out, HB4.out.k⟩
 have H4 : Hid (_) := h
 clear h
 have x0 := HB4.out.x0
 have x1 := HB4.out.x1
 have x2 := HB4.out.x2
 have HRg : Hid (_) := rng_of H1.out H2.out H3.out
 go_wp2_with fail
 refine (p_held HB4.out.sv HRg.out).mono ?_
 rintro e w5 ⟨rfl, k1⟩
 have HB5 : Hid (_) := HB4.out.kept k1
 have HT5 : Hid (Tab w5) := HT4.out.kept k1
 clear k1 x0 x1 x2
 rcases h : heldB S with _ | _
 ·
  have HR : Hid (false = mayB S) := by show _ = _; unfold mayB; rw [H1.out, H2.out, H3.out, H4.out, h]; rfl
  clear h
  go_wp2_with fail
  go_ret
  exact ⟨ret_bool HR.out, HB5.out.k⟩
 have H5 : Hid (_) := h
 clear h
 have x0 := HB5.out.x0
 have x1 := HB5.out.x1
 have x2 := HB5.out.x2
 have HTr : Hid (_) := tr_of H2.out H3.out H5.out
 go_wp2_with fail
 refine (p_found HB5.out.sv HRg.out HTr.out).mono ?_
 rintro e w6 ⟨rfl, k1⟩
 have HB6 : Hid (_) := HB5.out.kept k1
 have HT6 : Hid (Tab w6) := HT5.out.kept k1
 clear k1 x0 x1 x2
 rcases h : foundB S.ino with _ | _
 ·
  have HR : Hid (false = mayB S) := by show _ = _; unfold mayB; rw [H1.out, H2.out, H3.out, H4.out, H5.out, h]; rfl
  clear h
  go_wp2_with fail
  go_ret
  exact ⟨ret_bool HR.out, HB6.out.k⟩
 have H6 : Hid (_) := h
 clear h
 have HR : Hid (true = mayB S) := by show _ = _; unfold mayB; rw [H1.out, H2.out, H3.out, H4.out, H5.out, H6.out]; rfl
 go_wp2_with fail
 go_ret
 exact ⟨ret_bool HR.out, HB6.out.k⟩
def inoC : List Ino → List Value → List Value
 | x :: l, v :: vs => .int .i64 x.num :: .bool x.dir :: v :: .string x.data :: inoC l vs
 | _, _ => []
def desC : List Ds → List Value
 | [] => []
 | d :: l => .int .i64 d.1 :: .int .i64 d.2.1 :: .int .i64 d.2.2 :: desC l
theorem inoC_length : ∀ {L : List Ino} {vs : List Value}, vs.length = L.length → (inoC L vs).length = L.length * 4
 | [], [], _ => rfl
 | x :: l, v :: vs, h => by
  have := inoC_length (L := l) (vs := vs) (by simpa using h)
  simp only [inoC, List.length_cons, this]
  omega
 | [], v :: vs, h => by simp at h
 | x :: l, [], h => by simp at h
theorem inoC_append : ∀ {L L' : List Ino} {vs vs' : List Value}, vs.length = L.length → inoC (L ++ L') (vs ++ vs') = inoC L vs ++ inoC L' vs'
 | [], L', [], vs', _ => rfl
 | x :: l, L', v :: vs, vs', h => by
  have := inoC_append (L := l) (L' := L') (vs := vs) (vs' := vs') (by simpa using h)
  simp only [inoC, List.cons_append, this]
 | [], _, v :: vs, _, h => by simp at h
 | x :: l, _, [], _, h => by simp at h
theorem inoC_get : ∀ {L : List Ino} {vs : List Value} {i : Nat} (hi : i < L.length) (hv : i < vs.length),
  (inoC L vs)[i * 4]? = some (.int .i64 (L[i]).num) ∧ (inoC L vs)[i * 4 + 1]? = some (.bool (L[i]).dir) ∧ (inoC L vs)[i * 4 + 2]? = some vs[i] ∧ (inoC L vs)[i * 4 + 3]? = some (.string (L[i]).data)
 | x :: l, v :: vs, 0, _, _ => by simp [inoC]
 | x :: l, v :: vs, i + 1, hi, hv => by
  have := inoC_get (L := l) (vs := vs) (i := i) (by simpa using hi) (by simpa using hv)
  have e : (i + 1) * 4 = i * 4 + 1 + 1 + 1 + 1 := by omega
  rw [e]
  simp only [inoC, List.getElem_cons_succ, List.getElem?_cons_succ]
  exact this
theorem desC_length : ∀ {D : List Ds}, (desC D).length = D.length * 3
 | [] => rfl
 | d :: l => by
  have := desC_length (D := l)
  simp only [desC, List.length_cons, this]
  omega
theorem desC_append : ∀ {D D' : List Ds}, desC (D ++ D') = desC D ++ desC D'
 | [], _ => rfl
 | d :: l, D' => by simp only [desC, List.cons_append, desC_append (D := l)]
theorem desC_get : ∀ {D : List Ds} {i : Nat} (hi : i < D.length),
  (desC D)[i * 3]? = some (.int .i64 (D[i]).1) ∧ (desC D)[i * 3 + 1]? = some (.int .i64 (D[i]).2.1) ∧ (desC D)[i * 3 + 2]? = some (.int .i64 (D[i]).2.2)
 | d :: l, 0, _ => by simp [desC]
 | d :: l, i + 1, hi => by
  have := desC_get (D := l) (i := i) (by simpa using hi)
  have e : (i + 1) * 3 = i * 3 + 1 + 1 + 1 := by omega
  rw [e]
  simp only [desC, List.getElem_cons_succ, List.getElem?_cons_succ]
  exact this
theorem desC_one : ∀ {D : List Ds}, ∀ u ∈ desC D, u.oneCell' = true
 | [], u, h => by cases h
 | d :: l, u, h => by
  simp only [desC, List.mem_cons] at h
  rcases h with rfl | rfl | rfl | h
  · rfl
  · rfl
  · rfl
  · exact desC_one u h
theorem inoC_one : ∀ {L : List Ino} {vs : List Value}, (∀ v ∈ vs, v.oneCell' = true) → ∀ u ∈ inoC L vs, u.oneCell' = true
 | [], _, _, u, h => by simp [inoC] at h
 | _ :: _, [], _, u, h => by simp [inoC] at h
 | x :: l, v :: vs, hv, u, h => by
  simp only [inoC, List.mem_cons] at h
  rcases h with rfl | rfl | rfl | rfl | h
  · rfl
  · rfl
  · exact hv _ (List.mem_cons_self ..)
  · rfl
  · exact inoC_one (fun v hv' => hv v (List.mem_cons_of_mem _ hv')) u h
theorem row_keep {w w' : World} {H : Nat} {T : TypeId} {k : Nat} {v : Value} {n : Nat} {xs : List Value} {F : List Nat} (h : w.ownsRow H T k v n xs) (kk : Kept F w w') (hF : ∀ x ∈ F, v.ownBlock ≠ some x) : w'.ownsRow H T k v n xs := by
 refine ⟨h.1, ?_⟩
 rcases h.2 with hn | ⟨g, cap, cur, rfl, hb, hgg, rest⟩
 · exact .inl hn
 · exact .inr ⟨g, cap, cur, rfl, hb, (kk.block g (lt_of_heap hgg) (fun hm => hF g hm rfl)).trans hgg, rest⟩
theorem row_form {w : World} {H : Nat} {T : TypeId} {k : Nat} {v : Value} {n : Nat} {xs : List Value} (h : w.ownsRow H T k v n xs) : ∃ a c, v = .slice a n c ∧ n ≤ c ∧ (∀ x, a = some x → ∃ g, x = ⟨g, 0, none⟩ ∧ H ≤ g) ∧
  ∀ j u, xs[j]? = some u → ∃ g, a = some ⟨g, 0, none⟩ ∧ w.cell? ⟨g, j, none⟩ = some u := by
 rcases h.2 with ⟨rfl, rfl⟩ | ⟨g, cap, cur, rfl, hb, hgg, h4, h5, h6, h7⟩
 ·
  refine ⟨none, 0, rfl, Nat.le_refl _, fun x hx => (by cases hx), fun j u hj => ?_⟩
  have h0 := h.1
  have : xs = [] := List.eq_nil_of_length_eq_zero (by omega)
  rw [this] at hj
  cases hj
 ·
  refine ⟨_, cap, rfl, h4, fun x hx => ⟨g, (Option.some.inj hx).symm, hb⟩, fun j u hj => ⟨g, rfl, ?_⟩⟩
  rw [cellB hgg]
  have hl : j < xs.length := by
   rcases Nat.lt_or_ge j xs.length with h | h
   · exact h
   · rw [List.getElem?_eq_none h] at hj; cases hj
  rw [← h7, List.getElem?_take_of_lt (by rw [← h.1]; exact hl)] at hj
  simpa using hj
theorem row_one {w : World} {H : Nat} {T : TypeId} {k : Nat} {v : Value} {n : Nat} {xs : List Value} (h : w.ownsRow H T k v n xs) : v.oneCell' = true := by
 obtain ⟨a, c, rfl, -⟩ := row_form h
 rfl
theorem row_less {w : World} {H H' : Nat} {T : TypeId} {k : Nat} {v : Value} {n : Nat} {xs : List Value} (h : w.ownsRow H T k v n xs) (hH : H' ≤ H) : w.ownsRow H' T k v n xs := by
 refine ⟨h.1, ?_⟩
 rcases h.2 with hn | ⟨g, cap, cur, rfl, hb, rest⟩
 · exact .inl hn
 · exact .inr ⟨g, cap, cur, rfl, by omega, rest⟩
def Ap (a b : Value) : Prop := ∀ k, a.ownBlock = some k → b.ownBlock ≠ some k
theorem Ap.symm {a b : Value} (h : Ap a b) : Ap b a := fun k hb ha => h k ha hb
structure Os (w : World) (H : Nat) (v1 v2 v3 : Value) (ev : List Value) (S : Sta) : Prop where
 ino : w.ownsRow H 62 4 v1 S.ino.length (inoC S.ino ev)
 evl : ev.length = S.ino.length
 ent : ∀ i (hi : i < S.ino.length) (hv : i < ev.length), w.ownsRow H 64 2 ev[i] (S.ino[i]).ents.length (flat (S.ino[i]).ents)
 opn : w.ownsRow H 83 3 v2 S.opn.length (desC S.opn)
 mad : w.ownsRow H 3 1 v3 S.made.length (S.made.map (Value.int .i64))
 a12 : Ap v1 v2
 a13 : Ap v1 v3
 a23 : Ap v2 v3
 ae : ∀ v ∈ ev, Ap v1 v ∧ Ap v2 v ∧ Ap v3 v
 aee : ev.Pairwise Ap
def Off (F : List Nat) (v1 v2 v3 : Value) (ev : List Value) : Prop := ∀ x ∈ F, v1.ownBlock ≠ some x ∧ v2.ownBlock ≠ some x ∧ v3.ownBlock ≠ some x ∧ ∀ v ∈ ev, v.ownBlock ≠ some x
theorem Os.keep {w w' : World} {H : Nat} {v1 v2 v3 : Value} {ev : List Value} {S : Sta} {F : List Nat} (h : Os w H v1 v2 v3 ev S) (k : Kept F w w') (hF : Off F v1 v2 v3 ev) : Os w' H v1 v2 v3 ev S :=
 ⟨row_keep h.ino k fun x hx => (hF x hx).1, h.evl, fun i hi hv => row_keep (h.ent i hi hv) k fun x hx => (hF x hx).2.2.2 _ (List.getElem_mem hv), row_keep h.opn k fun x hx => (hF x hx).2.1,
  row_keep h.mad k fun x hx => (hF x hx).2.2.1, h.a12, h.a13, h.a23, h.ae, h.aee⟩
theorem Off.nil {v1 v2 v3 : Value} {ev : List Value} : Off [] v1 v2 v3 ev := fun x hx => by cases hx
theorem Os.kept {w w' : World} {H : Nat} {v1 v2 v3 : Value} {ev : List Value} {S : Sta} (h : Os w H v1 v2 v3 ev S) (k : Kept [] w w') : Os w' H v1 v2 v3 ev S := h.keep k Off.nil
structure Bd (S : Sta) : Prop where
 n1 : S.ino.length ≤ 2513169434843
 n2 : S.opn.length ≤ 5864062014634
 n3 : S.made.length ≤ 17592186043904
 n4 : ∀ x ∈ S.ino, x.ents.length ≤ 5864062014634
 w1 : ∀ x ∈ S.ino, x.num ≤ 9223372036854775807
 d1 : ∀ x ∈ S.ino, x.data.size ≤ 140737488351232
 e1 : ∀ x ∈ S.ino, ∀ e ∈ x.ents, e.1.size ≤ 140737488351232
theorem Os.sv {w : World} {H : Nat} {v1 v2 v3 : Value} {ev : List Value} {S : Sta} (h : Os w H v1 v2 v3 ev S) (hb : Bd S) : ∃ p, v1 = .slice p.a1 S.ino.length p.c1 ∧ v2 = .slice p.a2 S.opn.length p.c2 ∧ v3 = .slice p.a3 S.made.length p.c3 ∧ Sv w p S ∧
  (∀ x, p.a1 = some x → ∃ g, x = ⟨g, 0, none⟩) ∧ (∀ x, p.a2 = some x → ∃ g, x = ⟨g, 0, none⟩) ∧ (∀ x, p.a3 = some x → ∃ g, x = ⟨g, 0, none⟩) := by
 obtain ⟨a1, c1, e1, l1, g1, r1⟩ := row_form h.ino
 obtain ⟨a2, c2, e2, l2, g2, r2⟩ := row_form h.opn
 obtain ⟨a3, c3, e3, l3, g3, r3⟩ := row_form h.mad
 have hlim : 17592186043904 ≤ lim := by unfold lim; omega
 refine ⟨⟨a1, c1, a2, c2, a3, c3⟩, e1, e2, e3, ⟨fun i hi => ?_, fun i hi => ?_, fun i hi => ?_, (by have := hb.n1; show S.ino.length ≤ lim; omega), (by have := hb.n2; show S.opn.length ≤ lim; omega), (by have := hb.n3; show S.made.length ≤ lim; omega), fun x hx => (by have := hb.n4 x hx; omega), hb.w1, l1, l2, l3, trivial, trivial⟩,
  fun x hx => by obtain ⟨g, e, -⟩ := g1 x hx; exact ⟨g, e⟩, fun x hx => by obtain ⟨g, e, -⟩ := g2 x hx; exact ⟨g, e⟩, fun x hx => by obtain ⟨g, e, -⟩ := g3 x hx; exact ⟨g, e⟩⟩
 ·
  have hv : i < ev.length := by rw [h.evl]; exact hi
  obtain ⟨q0, q1, q2, q3⟩ := inoC_get hi hv
  obtain ⟨g, hg, p0⟩ := r1 _ _ q0
  obtain ⟨g', hg', p1⟩ := r1 _ _ q1
  obtain ⟨g'', hg'', p2⟩ := r1 _ _ q2
  obtain ⟨g3', hg3, p3⟩ := r1 _ _ q3
  rw [hg] at hg' hg'' hg3
  simp only [Option.some.injEq, Addr.mk.injEq, and_true] at hg' hg'' hg3
  subst hg' hg'' hg3
  obtain ⟨ae, ce, ee, le, fe, re⟩ := row_form (h.ent i hi hv)
  rw [ee] at p2
  refine ⟨g, 0, ae, ce, hg, by rw [Nat.zero_add]; exact p0, by rw [Nat.zero_add]; exact p1, by rw [Nat.zero_add]; exact p2, by rw [Nat.zero_add]; exact p3, fun j hj => ?_, le, trivial⟩
  obtain ⟨f0, f1⟩ := flat_get (S.ino[i]).ents j _ (List.getElem?_eq_getElem hj)
  obtain ⟨ge, hge, t0⟩ := re _ _ f0
  obtain ⟨ge', hge', t1⟩ := re _ _ f1
  rw [hge] at hge'
  simp only [Option.some.injEq, Addr.mk.injEq, and_true] at hge'
  subst hge'
  exact ⟨ge, 0, hge, by rw [Nat.zero_add]; exact t0, by rw [Nat.zero_add]; exact t1⟩
 ·
  obtain ⟨q0, q1, q2⟩ := desC_get hi
  obtain ⟨g, hg, p0⟩ := r2 _ _ q0
  obtain ⟨g', hg', p1⟩ := r2 _ _ q1
  obtain ⟨g'', hg'', p2⟩ := r2 _ _ q2
  rw [hg] at hg' hg''
  simp only [Option.some.injEq, Addr.mk.injEq, and_true] at hg' hg''
  subst hg' hg''
  exact ⟨g, 0, hg, by rw [Nat.zero_add]; exact p0, by rw [Nat.zero_add]; exact p1, by rw [Nat.zero_add]; exact p2⟩
 ·
  obtain ⟨g, hg, p0⟩ := r3 i (.int .i64 S.made[i]) (by simp [hi])
  exact ⟨g, 0, hg, by rw [Nat.zero_add]; exact p0⟩
theorem info_Desc : (Tryz.prog.info? 83).map (fun i => (i.zero, i.size, i.bytes)) = some (some (.agg #[.int .i64 0, .int .i64 0, .int .i64 0]), 3, 24) := by kernel_rfl
theorem info_int : (Tryz.prog.info? 3).map (fun i => (i.zero, i.size, i.bytes)) = some (some (.int .i64 0), 1, 8) := by kernel_rfl
theorem info_Entry : (Tryz.prog.info? 64).map (fun i => (i.zero, i.size, i.bytes)) = some (some (.agg #[.string ⟨#[]⟩, .int .i64 0]), 2, 24) := by kernel_rfl
theorem info_Inode : (Tryz.prog.info? 62).map (fun i => (i.zero, i.size, i.bytes)) = some (some (.agg #[.int .i64 0, .bool false, .slice none 0 0, .string ⟨#[]⟩]), 4, 56) := by kernel_rfl
theorem clone_Desc {w : World} (a : Option Addr) (n c : Nat) (news : List Value) (hl : news.length = n * 3) (hn : n ≤ 5864062014634) (ha : True)
  (hc : ∀ j u, news[j]? = some u → ∃ b o, a = some ⟨b, o, none⟩ ∧ w.cell? ⟨b, o + j, none⟩ = some u) (h1 : ∀ u ∈ news, u.oneCell' = true) :
  Calls Tryz.prog 42 #[.slice a n c] w fun e w' => ∃ v', e = .returned v' ∧ w'.ownsRow w.heap.size 83 3 v' n news ∧ Kept [] w w' := by
 rcases a with _ | x
 ·
  have hn0 : n = 0 := by
   rcases Nat.eq_zero_or_pos n with e | e
   · exact e
   ·
    obtain ⟨b, o, e1, -⟩ := hc 0 news[0] (List.getElem?_eq_getElem (by omega))
    cases e1
  have HR : Hid (w.ownsRow w.heap.size 83 3 (.slice none 0 0) n news) := ⟨hl, .inl ⟨rfl, hn0⟩⟩
  have q22 : ∀ (w : World) (n c n' c' : Nat), (binOp .eql 24 (.slice none n c) (.slice none n' c')).run Tryz.prog w = .ok (.bool true) w := fun w n c n' c' => Lib.run_eql_slice_nil w _ _ none n c n' c' Tryz.underlying24
  clear hn0 hc hl h1 ha
  go_enter Tryz.func42, Tryz.ntmps42
  go_wp2_with fail
  go_ret
  exact ⟨_, rfl, HR.out, Kept.refl _ _⟩
 ·
  have q22 : ∀ (w : World) (x : Addr) (n c n' c' : Nat), (binOp .eql 24 (.slice (some x) n c) (.slice none n' c')).run Tryz.prog w = .ok (.bool false) w := fun w x n c n' c' => Lib.run_eql_slice_nil w _ _ (some x) n c n' c' Tryz.underlying24
  obtain ⟨i0, hi, hz0, hz1, hz2⟩ := info_parts info_Desc
  have HC : Hid (∀ j u, news[j]? = some u → ∃ b o, x = ⟨b, o, none⟩ ∧ w.cell? ⟨b, o + j, none⟩ = some u) := fun j u hj => by
   obtain ⟨b', o', e1, e2⟩ := hc j u hj
   exact ⟨b', o', Option.some.inj e1, e2⟩
  have H1 : Hid (_) := h1
  have HL : Hid (_) := hl
  clear hc h1 ha
  go_enter Tryz.func42, Tryz.ntmps42
  go_wp2_with (at_builtin; refine wpList_append_own _ rfl _ _ 24 rfl w.heap.size 83 i0 _ 3 24 Tryz.underlying24 hi hz0 hz1 hz2 rfl (by omega) _ _ _ rfl (World.ownsRow_made w #[] 0 (Nat.le_refl _) (Nat.zero_le _) (by simp)) x n c news rfl ?qc1 ?qc2 ?qc3 ?qc4 ?qc5 ?qc6 ?_)
  case qc1 => exact HL.out
  case qc2 =>
   intro j u hj
   obtain ⟨b', o', e1, e2⟩ := HC.out j u hj
   rw [e1, add_lit]
   exact ((Kept.refl [] w).alloc _).cell e2 (by simp)
  case qc3 => exact H1.out
  case qc4 => rw [Nat.zero_add]; unfold maxLen; omega
  case qc5 => omega
  case qc6 => simp
  intro v' w1 hown hgrow hnil
  have HO : Hid (w1.ownsRow w.heap.size 83 3 v' n news ∧ Kept [] w w1) := ⟨by simpa using hown, ((Kept.refl [] w).alloc _).grown hgrow (fun g hg => by simp [Value.ownBlock] at hg; omega)⟩
  clear hown hgrow hnil
  go_wp2_with fail
  go_ret
  exact ⟨v', rfl, HO.out.1, HO.out.2⟩
theorem clone_int {w : World} (a : Option Addr) (n c : Nat) (news : List Value) (hl : news.length = n * 1) (hn : n ≤ 17592186043904) (ha : True)
  (hc : ∀ j u, news[j]? = some u → ∃ b o, a = some ⟨b, o, none⟩ ∧ w.cell? ⟨b, o + j, none⟩ = some u) (h1 : ∀ u ∈ news, u.oneCell' = true) :
  Calls Tryz.prog 43 #[.slice a n c] w fun e w' => ∃ v', e = .returned v' ∧ w'.ownsRow w.heap.size 3 1 v' n news ∧ Kept [] w w' := by
 rcases a with _ | x
 ·
  have hn0 : n = 0 := by
   rcases Nat.eq_zero_or_pos n with e | e
   · exact e
   ·
    obtain ⟨b, o, e1, -⟩ := hc 0 news[0] (List.getElem?_eq_getElem (by omega))
    cases e1
  have HR : Hid (w.ownsRow w.heap.size 3 1 (.slice none 0 0) n news) := ⟨hl, .inl ⟨rfl, hn0⟩⟩
  have q22 : ∀ (w : World) (n c n' c' : Nat), (binOp .eql 25 (.slice none n c) (.slice none n' c')).run Tryz.prog w = .ok (.bool true) w := fun w n c n' c' => Lib.run_eql_slice_nil w _ _ none n c n' c' Tryz.underlying25
  clear hn0 hc hl h1 ha
  go_enter Tryz.func43, Tryz.ntmps43
  go_wp2_with fail
  go_ret
  exact ⟨_, rfl, HR.out, Kept.refl _ _⟩
 ·
  have q22 : ∀ (w : World) (x : Addr) (n c n' c' : Nat), (binOp .eql 25 (.slice (some x) n c) (.slice none n' c')).run Tryz.prog w = .ok (.bool false) w := fun w x n c n' c' => Lib.run_eql_slice_nil w _ _ (some x) n c n' c' Tryz.underlying25
  obtain ⟨i0, hi, hz0, hz1, hz2⟩ := info_parts info_int
  have HC : Hid (∀ j u, news[j]? = some u → ∃ b o, x = ⟨b, o, none⟩ ∧ w.cell? ⟨b, o + j, none⟩ = some u) := fun j u hj => by
   obtain ⟨b', o', e1, e2⟩ := hc j u hj
   exact ⟨b', o', Option.some.inj e1, e2⟩
  have H1 : Hid (_) := h1
  have HL : Hid (_) := hl
  clear hc h1 ha
  go_enter Tryz.func43, Tryz.ntmps43
  go_wp2_with (at_builtin; refine wpList_append_own _ rfl _ _ 25 rfl w.heap.size 3 i0 _ 1 8 Tryz.underlying25 hi hz0 hz1 hz2 rfl (by omega) _ _ _ rfl (World.ownsRow_made w #[] 0 (Nat.le_refl _) (Nat.zero_le _) (by simp)) x n c news rfl ?qc1 ?qc2 ?qc3 ?qc4 ?qc5 ?qc6 ?_)
  case qc1 => exact HL.out
  case qc2 =>
   intro j u hj
   obtain ⟨b', o', e1, e2⟩ := HC.out j u hj
   rw [e1, add_lit]
   exact ((Kept.refl [] w).alloc _).cell e2 (by simp)
  case qc3 => exact H1.out
  case qc4 => rw [Nat.zero_add]; unfold maxLen; omega
  case qc5 => omega
  case qc6 => simp
  intro v' w1 hown hgrow hnil
  have HO : Hid (w1.ownsRow w.heap.size 3 1 v' n news ∧ Kept [] w w1) := ⟨by simpa using hown, ((Kept.refl [] w).alloc _).grown hgrow (fun g hg => by simp [Value.ownBlock] at hg; omega)⟩
  clear hown hgrow hnil
  go_wp2_with fail
  go_ret
  exact ⟨v', rfl, HO.out.1, HO.out.2⟩
theorem clone_Entry {w : World} (a : Option Addr) (n c : Nat) (news : List Value) (hl : news.length = n * 2) (hn : n ≤ 5864062014634) (ha : True)
  (hc : ∀ j u, news[j]? = some u → ∃ b o, a = some ⟨b, o, none⟩ ∧ w.cell? ⟨b, o + j, none⟩ = some u) (h1 : ∀ u ∈ news, u.oneCell' = true) :
  Calls Tryz.prog 44 #[.slice a n c] w fun e w' => ∃ v', e = .returned v' ∧ w'.ownsRow w.heap.size 64 2 v' n news ∧ Kept [] w w' := by
 rcases a with _ | x
 ·
  have hn0 : n = 0 := by
   rcases Nat.eq_zero_or_pos n with e | e
   · exact e
   ·
    obtain ⟨b, o, e1, -⟩ := hc 0 news[0] (List.getElem?_eq_getElem (by omega))
    cases e1
  have HR : Hid (w.ownsRow w.heap.size 64 2 (.slice none 0 0) n news) := ⟨hl, .inl ⟨rfl, hn0⟩⟩
  have q22 : ∀ (w : World) (n c n' c' : Nat), (binOp .eql 60 (.slice none n c) (.slice none n' c')).run Tryz.prog w = .ok (.bool true) w := fun w n c n' c' => Lib.run_eql_slice_nil w _ _ none n c n' c' Tryz.underlying60
  clear hn0 hc hl h1 ha
  go_enter Tryz.func44, Tryz.ntmps44
  go_wp2_with fail
  go_ret
  exact ⟨_, rfl, HR.out, Kept.refl _ _⟩
 ·
  have q22 : ∀ (w : World) (x : Addr) (n c n' c' : Nat), (binOp .eql 60 (.slice (some x) n c) (.slice none n' c')).run Tryz.prog w = .ok (.bool false) w := fun w x n c n' c' => Lib.run_eql_slice_nil w _ _ (some x) n c n' c' Tryz.underlying60
  obtain ⟨i0, hi, hz0, hz1, hz2⟩ := info_parts info_Entry
  have HC : Hid (∀ j u, news[j]? = some u → ∃ b o, x = ⟨b, o, none⟩ ∧ w.cell? ⟨b, o + j, none⟩ = some u) := fun j u hj => by
   obtain ⟨b', o', e1, e2⟩ := hc j u hj
   exact ⟨b', o', Option.some.inj e1, e2⟩
  have H1 : Hid (_) := h1
  have HL : Hid (_) := hl
  clear hc h1 ha
  go_enter Tryz.func44, Tryz.ntmps44
  go_wp2_with (at_builtin; refine wpList_append_own _ rfl _ _ 60 rfl w.heap.size 64 i0 _ 2 24 Tryz.underlying60 hi hz0 hz1 hz2 rfl (by omega) _ _ _ rfl (World.ownsRow_made w #[] 0 (Nat.le_refl _) (Nat.zero_le _) (by simp)) x n c news rfl ?qc1 ?qc2 ?qc3 ?qc4 ?qc5 ?qc6 ?_)
  case qc1 => exact HL.out
  case qc2 =>
   intro j u hj
   obtain ⟨b', o', e1, e2⟩ := HC.out j u hj
   rw [e1, add_lit]
   exact ((Kept.refl [] w).alloc _).cell e2 (by simp)
  case qc3 => exact H1.out
  case qc4 => rw [Nat.zero_add]; unfold maxLen; omega
  case qc5 => omega
  case qc6 => simp
  intro v' w1 hown hgrow hnil
  have HO : Hid (w1.ownsRow w.heap.size 64 2 v' n news ∧ Kept [] w w1) := ⟨by simpa using hown, ((Kept.refl [] w).alloc _).grown hgrow (fun g hg => by simp [Value.ownBlock] at hg; omega)⟩
  clear hown hgrow hnil
  go_wp2_with fail
  go_ret
  exact ⟨v', rfl, HO.out.1, HO.out.2⟩
end Go.Proofs.YtffncojcnbhblaaGreatDoor
