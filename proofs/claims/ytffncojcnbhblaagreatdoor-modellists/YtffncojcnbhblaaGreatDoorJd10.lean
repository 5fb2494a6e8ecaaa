/-
  Joined of my texts Ow Bf Me.
-/
import Derived.Test.YtffncojcnbhblaaGreatDoorJd9
import Derived.OwnWalk
import Derived.Maps.AppendAt
set_option linter.unusedVariables false
set_option linter.unusedSimpArgs false
set_option maxRecDepth 100000
set_option maxHeartbeats 8000000
namespace Go.Proofs.YtffncojcnbhblaaGreatDoor
open Go.RowKit
theorem info3 : (Tryz.prog.info? 3).map (fun i => (i.zero, i.size, i.bytes)) = some (some (.int .i64 0), 1, 8) := by kernel_rfl
theorem add_lit (g o j : Nat) : (⟨g, o, none⟩ : Addr).add j = ⟨g, o + j, none⟩ := by unfold Addr.add; split <;> simp_all
def Own (w : World) (H : Nat) (v : Value) (xs : List Int) : Prop := w.ownsRow H 3 1 v xs.length (xs.map (Value.int .i64))
theorem Own.nil (w : World) (H : Nat) : Own w H (.slice none 0 0) [] := World.ownsRow_nil w H 3 1
theorem Own.form {w : World} {H : Nat} {v : Value} {xs : List Int} (h : Own w H v xs) : (v = .slice none 0 0 ∧ xs = []) ∨
  ∃ g cap cur, v = .slice (some ⟨g, 0, none⟩) xs.length cap ∧ H ≤ g ∧ w.heap[g]? = some (.cells cur 3 (0, 0)) ∧ xs.length ≤ cap ∧ cap ≤ maxLen ∧ cur.size = cap ∧ cur.toList.take xs.length = xs.map (Value.int .i64) := by
 rcases h.2 with ⟨h1, h2⟩ | ⟨g, cap, cur, h1, h2, h3, h4, h5, h6, h7⟩
 · exact Or.inl ⟨h1, List.eq_nil_of_length_eq_zero h2⟩
 · exact Or.inr ⟨g, cap, cur, h1, h2, h3, h4, h5, by simpa using h6, by simpa using h7⟩
theorem Own.block {w : World} {H : Nat} {v : Value} {xs : List Int} (h : Own w H v xs) : ∀ k, v.ownBlock = some k → H ≤ k ∧ k < w.heap.size := World.ownsRow.lt h
theorem Own.lies {w : World} {H g n cap : Nat} {xs : List Int} (h : Own w H (.slice (some ⟨g, 0, none⟩) n cap) xs) : n = xs.length ∧ n ≤ cap ∧ H ≤ g ∧ ∀ i, i < xs.length → w.cell? ⟨g, i, none⟩ = some (.int .i64 (wordAt xs i)) := by
 rcases h.form with ⟨h1, h2⟩ | ⟨g', c', cur, h1, h2, h3, h4, h5, h6, h7⟩
 · cases h1
 ·
  simp only [Value.slice.injEq, Option.some.injEq, Addr.mk.injEq, and_true] at h1
  obtain ⟨rfl, rfl, rfl⟩ := h1
  refine ⟨rfl, h4, h2, fun i hi => ?_⟩
  have e : cur[i]? = some (.int .i64 (wordAt xs i)) := by
   have h8 : (cur.toList.take xs.length)[i]? = some (.int .i64 (wordAt xs i)) := by
    rw [h7]; simp [hi, wordAt]
   rw [List.getElem?_take_of_lt hi] at h8
   simpa using h8
  simp [World.cell?, h3, e]
theorem Own.same {w w' : World} {H : Nat} {v : Value} {xs : List Int} (h : Own w H v xs) (hk : ∀ k, v.ownBlock = some k → w'.heap[k]? = w.heap[k]?) : Own w' H v xs := by
 refine ⟨h.1, ?_⟩
 rcases h.2 with hn | ⟨g, cap, cur, rfl, hb, hgg, rest⟩
 · exact .inl hn
 · exact .inr ⟨g, cap, cur, rfl, hb, by rw [hk g rfl]; exact hgg, rest⟩
theorem Own.kept {w w' : World} {H : Nat} {v : Value} {xs : List Int} (h : Own w H v xs) (k : Kept [] w w') : Own w' H v xs :=
 h.same fun x hx => k.block x (h.block x hx).2 (by simp)
theorem Own.more {w' : World} {H : Nat} {v : Value} {n : Nat} {xs ys : List Int} (hn : n = xs.length + ys.length) (h : w'.ownsRow H 3 1 v n (xs.map (Value.int .i64) ++ ys.map (Value.int .i64))) : Own w' H v (xs ++ ys) := by
 subst hn
 unfold Own
 rw [List.length_append, List.map_append]
 exact h
theorem ints_oneCell (xs : List Int) : ∀ u ∈ xs.map (Value.int .i64), u.oneCell' = true := by
 intro u hu
 simp only [List.mem_map] at hu
 obtain ⟨a, _, rfl⟩ := hu
 rfl
structure Grew (w w' : World) (v v' : Value) : Prop where
 grown : w.grownBy w' v.ownBlock
 at_ : ∀ k, v'.ownBlock = some k → v.ownBlock = some k ∨ w.heap.size ≤ k
theorem append_row {w : World} {H : Nat} {v : Value} {xs : List Int} (h : Own w H v xs) (hH : H ≤ w.heap.size) (b o m c : Nat) (ys : List Int) (hm : m = ys.length) (hy : ∀ i, i < ys.length → w.cell? ⟨b, o + i, none⟩ = some (.int .i64 (wordAt ys i))) (hb : xs.length + m ≤ 17592186044416) (ty : TypeId) :
  ∃ v' w', (Builtin.append_ #[25, 25] ty #[v, .slice (some ⟨b, o, none⟩) m c]).run Tryz.prog w = .ok v' w' ∧ Own w' H v' (xs ++ ys) ∧ Grew w w' v v' := by
 subst hm
 obtain ⟨i0, hi, hz0, hz1, hz2⟩ := info_parts info3
 obtain ⟨v', w', hr, h2, h3, _, h5⟩ := run_append_own_at (P := Tryz.prog) w H 25 ty 3 i0 (.int .i64 0) 1 8 Tryz.underlying25 hi hz0 hz1 hz2 rfl (by omega) v xs.length (xs.map (Value.int .i64)) h ⟨b, o, none⟩ ys.length c (ys.map (Value.int .i64)) (by simp)
  (fun j u hu => by
   have hj : j < ys.length := by
    rcases Nat.lt_or_ge j ys.length with h1 | h1
    · exact h1
    · rw [List.getElem?_eq_none (by simpa using h1)] at hu; cases hu
   rw [add_lit, hy j hj, ← hu]
   simp [wordAt, hj])
  (ints_oneCell ys) (by unfold maxLen; omega) (by omega) hH
 refine ⟨v', w', hr, Own.more rfl h2, h3, fun k hk => ?_⟩
 rcases h5 with h5 | h5
 · exact Or.inl (h5 ▸ hk)
 ·
  right
  rw [h5] at hk
  simp at hk
  omega
theorem own_append {W0 w : World} {u : Value} {xs : List Int} (k : Kept [] W0 w) (h : Own w W0.heap.size u xs) (z : Int) (hn : xs.length + 1 ≤ 17592186044416) (ty : TypeId) :
  ∃ u' w', (Builtin.append_ #[25, 25] ty #[u, .slice (some ⟨w.heap.size, 0, none⟩) 1 1]).run Tryz.prog (w.alloc (.cells #[.int .i64 z] 3)) = .ok u' w' ∧ Kept [] W0 w' ∧ Own w' W0.heap.size u' (xs ++ [z]) := by
 have hka : Kept [] w (w.alloc (.cells #[.int .i64 z] 3)) := (Kept.refl [] w).alloc _
 obtain ⟨u', w', hr, h2, h3⟩ := append_row (h.kept hka) (Nat.le_trans k.size hka.size) w.heap.size 0 1 1 [z] rfl (fun i hi => by
  have : i = 0 := by simp at hi; exact hi
  subst this
  exact (cell_new w #[.int .i64 z] 3 0).trans rfl) hn ty
 exact ⟨u', w', hr, (k.trans hka (by simp)).grown h3.grown (fun g hg => Or.inr (h.block g hg).1), h2⟩
def dirOf (L : List Ino) (z : Int) : Bool := match atR L z with
 | none => false
 | some k => (L[k]?.map Ino.dir).getD false
def entsOf (L : List Ino) (z : Int) : List En := match atR L z with
 | none => []
 | some k => (L[k]?.map Ino.ents).getD []
def kidsE (L : List Ino) (E : List En) : List Int := (E.filter fun e => dirOf L e.2).map Prod.snd
def kids (L : List Ino) (z : Int) : List Int := kidsE L (entsOf L z)
def bfs (L : List Ino) : Nat → Nat → List Int → List Int
 | 0, _, F => F
 | f + 1, i, F => match F[i]? with
  | none => F
  | some z => bfs L f (i + 1) (F ++ kids L z)
def dirN (L : List Ino) : Nat := L.countP Ino.dir
def foundB (L : List Ino) : Bool := (bfs L (L.length + 1) 0 [1]).length == dirN L
structure Tr (L : List Ino) : Prop where
 row : adj ltI L = true
 pos : 0 < L.length
 n0 : (L[0]'pos).num = 1
 d0 : (L[0]'pos).dir = true
 ent : ∀ k (hk : k < L.length), ∀ e ∈ (L[k]).ents, e.2 ≠ 1 ∧ (atR L e.2).isSome = true
 one : ∀ k (hk : k < L.length), 0 < k → (L[k]).dir = true → entN L (L[k]).num = 1
theorem at_num {L : List Ino} (h : adj ltI L = true) {k : Nat} (hk : k < L.length) : atR L (L[k]).num = some k :=
 at_some hk rfl fun j hj hjk => by have := adj_lt h j k hj hk hjk; omega
theorem sum_one {l : List Nat} : ∀ {i : Nat} (hi : i < l.length), l[i] ≤ l.sum := by
 induction l with
 | nil => intro i hi; simp at hi
 | cons x l ih =>
  intro i hi
  cases i with
  | zero => simp
  | succ i =>
   have := ih (i := i) (by simpa using hi)
   simp only [List.getElem_cons_succ, List.sum_cons]
   omega
theorem sum_two {l : List Nat} : ∀ {i j : Nat} (hi : i < l.length) (hj : j < l.length), i < j → l[i] + l[j] ≤ l.sum := by
 induction l with
 | nil => intro i j hi; simp at hi
 | cons x l ih =>
  intro i j hi hj hij
  cases j with
  | zero => omega
  | succ j =>
   cases i with
   | zero =>
    have := sum_one (l := l) (i := j) (by simpa using hj)
    simp only [List.getElem_cons_zero, List.getElem_cons_succ, List.sum_cons]
    omega
   | succ i =>
    have := ih (i := i) (j := j) (by simpa using hi) (by simpa using hj) (by omega)
    simp only [List.getElem_cons_succ, List.sum_cons]
    omega
theorem cnt_entN {L : List Ino} {k : Nat} (hk : k < L.length) (z : Int) : cnt (L[k]).ents z ≤ entN L z := by
 unfold entN
 have := sum_one (l := L.map fun x => cnt x.ents z) (i := k) (by simpa using hk)
 simpa using this
theorem cnt_entN2 {L : List Ino} {j k : Nat} (hj : j < L.length) (hk : k < L.length) (h : j ≠ k) (z : Int) : cnt (L[j]).ents z + cnt (L[k]).ents z ≤ entN L z := by
 unfold entN
 rcases Nat.lt_or_gt_of_ne h with h | h
 ·
  have := sum_two (l := L.map fun x => cnt x.ents z) (i := j) (j := k) (by simpa using hj) (by simpa using hk) h
  simpa using this
 ·
  have := sum_two (l := L.map fun x => cnt x.ents z) (i := k) (j := j) (by simpa using hk) (by simpa using hj) h
  simp only [List.getElem_map] at this
  omega
theorem cnt_pos {E : List En} {e : En} {z : Int} (h : e ∈ E) (he : e.2 = z) : 1 ≤ cnt E z := by
 unfold cnt
 exact List.countP_pos_iff.2 ⟨e, h, by simpa using he⟩
theorem mem_kids {L : List Ino} {E : List En} {z : Int} : z ∈ kidsE L E ↔ ∃ e ∈ E, e.2 = z ∧ dirOf L z = true := by
 unfold kidsE
 rw [List.mem_map]
 constructor
 ·
  rintro ⟨e, he, rfl⟩
  rw [List.mem_filter] at he
  exact ⟨e, he.1, rfl, he.2⟩
 ·
  rintro ⟨e, he, rfl, hd⟩
  exact ⟨e, List.mem_filter.2 ⟨he, hd⟩, rfl⟩
theorem count_kids {L : List Ino} {E : List En} {z : Int} : (kidsE L E).count z ≤ cnt E z := by
 unfold kidsE cnt
 rw [List.count_eq_countP, List.countP_map]
 exact List.Sublist.countP_le (List.filter_sublist ..)
theorem dir_at {L : List Ino} {z : Int} (h : dirOf L z = true) : ∃ k, ∃ hk : k < L.length, atR L z = some k ∧ (L[k]).num = z ∧ (L[k]).dir = true := by
 unfold dirOf at h
 rcases ha : atR L z with _ | k
 · rw [ha] at h; cases h
 ·
  rw [ha] at h
  obtain ⟨hk, hz⟩ := at_get ha
  refine ⟨k, hk, rfl, hz, ?_⟩
  simpa [hk] using h
theorem ents_at {L : List Ino} {z : Int} {k : Nat} (h : atR L z = some k) (hk : k < L.length) : entsOf L z = (L[k]).ents := by
 unfold entsOf
 rw [h]
 simp [hk]
structure Jf (L : List Ino) (n : Nat) (F : List Int) : Prop where
 nd : F.Nodup
 dr : ∀ z ∈ F, dirOf L z = true
 up : ∀ z ∈ F, z = 1 ∨ ∃ i y, i < n ∧ F[i]? = some y ∧ z ∈ kids L y
 le : n ≤ F.length
 hd : F[0]? = some 1
theorem Tr.root {L : List Ino} (h : Tr L) : atR L 1 = some 0 ∧ dirOf L 1 = true := by
 have h1 := at_num h.row h.pos
 rw [h.n0] at h1
 refine ⟨h1, ?_⟩
 unfold dirOf
 rw [h1]
 simp [h.pos, h.d0]
theorem Jf.start {L : List Ino} (h : Tr L) : Jf L 0 [1] :=
 ⟨by simp, fun z hz => by simp at hz; subst hz; exact h.root.2, fun z hz => by simp at hz; exact Or.inl hz, by simp, rfl⟩
theorem Tr.single {L : List Ino} (h : Tr L) {z : Int} (hd : dirOf L z = true) (h1 : z ≠ 1) : entN L z = 1 := by
 obtain ⟨k, hk, ha, hz, hdir⟩ := dir_at hd
 have hk0 : 0 < k := by
  rcases Nat.eq_zero_or_pos k with e | e
  · subst e; rw [h.n0] at hz; exact absurd hz.symm h1
  · exact e
 have := h.one k hk hk0 hdir
 rw [hz] at this
 exact this
theorem kid_ne {L : List Ino} (h : Tr L) {y z : Int} (hz : z ∈ kids L y) : z ≠ 1 ∧ dirOf L z = true ∧ ∃ k, ∃ hk : k < L.length, atR L y = some k ∧ 1 ≤ cnt (L[k]).ents z := by
 unfold kids at hz
 obtain ⟨e, he, rfl, hd⟩ := mem_kids.1 hz
 rcases ha : atR L y with _ | k
 · unfold entsOf at he; rw [ha] at he; simp at he
 ·
  obtain ⟨hk, -⟩ := at_get ha
  rw [ents_at ha hk] at he
  exact ⟨(h.ent k hk e he).1, hd, k, hk, rfl, cnt_pos he rfl⟩
theorem Jf.step {L : List Ino} (h : Tr L) {n : Nat} {F : List Int} (j : Jf L n F) {y : Int} (hy : F[n]? = some y) : Jf L (n + 1) (F ++ kids L y) := by
 have hn : n < F.length := by
  rcases Nat.lt_or_ge n F.length with h | h
  · exact h
  · rw [List.getElem?_eq_none h] at hy; cases hy
 refine ⟨?_, ?_, ?_, ?_, ?_⟩
 ·
  rw [List.nodup_append]
  refine ⟨j.nd, ?_, ?_⟩
  ·
   rw [List.nodup_iff_count]
   intro a
   rcases Nat.eq_zero_or_pos ((kids L y).count a) with e | e
   · omega
   ·
    have ha : a ∈ kids L y := List.count_pos_iff.1 e
    obtain ⟨h1, h2, k, hk, h3, h4⟩ := kid_ne h ha
    have h5 := h.single h2 h1
    have h6 := cnt_entN hk a
    have h7 : (kids L y).count a ≤ cnt (L[k]).ents a := by
     unfold kids
     rw [ents_at h3 hk]
     exact count_kids
    omega
  ·
   rintro a ha b hb rfl
   obtain ⟨h1, h2, k, hk, h3, h4⟩ := kid_ne h hb
   rcases j.up a ha with e | ⟨i, y', hi, hyi, hay⟩
   · exact h1 e
   ·
    obtain ⟨-, -, k', hk', h3', h4'⟩ := kid_ne h hay
    have h5 := h.single h2 h1
    by_cases e : k' = k
    ·
     subst e
     obtain ⟨_, e1⟩ := at_get h3
     obtain ⟨_, e2⟩ := at_get h3'
     have e3 : y = y' := e1.symm.trans e2
     subst e3
     have hil : i < F.length := by omega
     rw [List.getElem?_eq_getElem hil] at hyi
     rw [List.getElem?_eq_getElem hn] at hy
     have := (List.getElem_inj (h₀ := hil) (h₁ := hn) j.nd).1 ((Option.some.inj hyi).trans (Option.some.inj hy).symm)
     omega
    ·
     have := cnt_entN2 hk' hk e a
     omega
 ·
  intro z hz
  rcases List.mem_append.1 hz with hz | hz
  · exact j.dr z hz
  · exact (kid_ne h hz).2.1
 ·
  intro z hz
  rcases List.mem_append.1 hz with hz | hz
  ·
   rcases j.up z hz with e | ⟨i, y', hi, hyi, hay⟩
   · exact Or.inl e
   · exact Or.inr ⟨i, y', by omega, by rw [List.getElem?_append_left (by omega)]; exact hyi, hay⟩
  · exact Or.inr ⟨n, y, by omega, by rw [List.getElem?_append_left hn]; exact hy, hz⟩
 · rw [List.length_append]; omega
 · rw [List.getElem?_append_left (by omega)]; exact j.hd
theorem Jf.few {L : List Ino} {n : Nat} {F : List Int} (j : Jf L n F) : F.length ≤ L.length := by
 have : F.length ≤ (L.map Ino.num).length := List.Nodup.length_le_of_subset j.nd fun z hz => by
  obtain ⟨k, hk, -, e, -⟩ := dir_at (j.dr z hz)
  rw [← e]
  exact List.mem_map.2 ⟨_, List.getElem_mem hk, rfl⟩
 simpa using this
theorem bfs_on {L : List Ino} {f i : Nat} {F : List Int} {z : Int} (h : F[i]? = some z) : bfs L (f + 1) i F = bfs L f (i + 1) (F ++ kids L z) := by rw [bfs, h]
theorem bfs_end {L : List Ino} {f i : Nat} {F : List Int} (h : F.length ≤ i) : bfs L (f + 1) i F = F := by rw [bfs, List.getElem?_eq_none h]
theorem kidsE_take {L : List Ino} {E : List En} {n : Nat} (h : n < E.length) : kidsE L (E.take (n + 1)) = kidsE L (E.take n) ++ if dirOf L (E[n]).2 then [(E[n]).2] else [] := by
 unfold kidsE
 rw [List.take_succ_eq_append_getElem h, List.filter_append, List.map_append]
 congr 1
 by_cases e : dirOf L (E[n]).2 = true
 · simp [e]
 · simp [e]
theorem dirN_take {L : List Ino} {n : Nat} (h : n < L.length) : dirN (L.take (n + 1)) = dirN (L.take n) + if (L[n]).dir then 1 else 0 := by
 unfold dirN
 rw [List.take_succ_eq_append_getElem h, List.countP_append]
 congr 1
 by_cases e : (L[n]).dir = true <;> simp [e]
theorem dirN_le (L : List Ino) : dirN L ≤ L.length := List.countP_le_length
theorem p_found {w : World} {p : Pl} {S : Sta} (h : Sv w p S) (hg : Rng S) (ht : Tr S.ino) :
  Calls Tryz.prog 36 #[sval p S] w fun e w' => e = .returned (.bool (foundB S.ino)) ∧ Kept [] w w' := by
 have HN : Hid (_) := h.n4
 have HG : Hid (Rng S) := hg
 have HTr : Hid (Tr S.ino) := ht
 obtain ⟨W0, X, HW, HB⟩ := boxS h
 have hn1 : S.ino.length ≤ 257 := hg.few
 have hpos : 0 < S.ino.length := hg.pos
 clear h hg ht
 obtain ⟨b, o, ae0, ce0, ha, -⟩ := HB.out.sv.ino 0 hpos
 have HA : Hid (p.a1 = some ⟨b, o, none⟩) := ha
 clear ha
 have x0 := HB.out.x0
 rw [HA.out] at x0
 go_enter Tryz.func36, Tryz.ntmps36
 go_upto_region 1 with fail
 rw [HW.out.1, HW.out.2]
 clear HW
 go_wp2_with fail
 clear x0
 go_loopw [3, 13] (fun u i wr => ∃ n : Nat, i = .int .i64 (n : Int) ∧ u = .int .i64 ((dirN (S.ino.take n) : Nat) : Int) ∧ n ≤ S.ino.length ∧ Hid (Kept [] W0 wr)) (fun _ i _ => (S.ino.length - intOf i).toNat)
 case atStart => exact ⟨0, rfl, rfl, by omega, Kept.refl _ _⟩
 case round =>
  obtain ⟨n, rfl, rfl, hn, HJ⟩ := hrel
  by_cases hlt : n < S.ino.length
  ·
   have j0 : (0 : Int) ≤ (n : Int) := by omega
   have j1 : (n : Int) < (S.ino.length : Int) := by omega
   obtain ⟨b', o', ae, ce, ha', q0, q1, q2, q3, q4, q5⟩ := (HB.out.kept HJ.out).sv.ino n hlt
   rw [HA.out] at ha'
   simp only [Option.some.injEq, Addr.mk.injEq, and_true] at ha'
   obtain ⟨hb1, hb2⟩ := ha'
   subst hb1 hb2
   have hdl := dirN_le (S.ino.take n)
   rw [List.length_take] at hdl
   have HDn : Hid (_) := dirN_take hlt
   obtain ⟨q, hq⟩ : ∃ q, dirN (S.ino.take n) = q := ⟨_, rfl⟩
   rw [hq] at hdl HDn ⊢
   obtain ⟨d, hd⟩ : ∃ d, (S.ino[n]).dir = d := ⟨_, rfl⟩
   rw [hd] at q1 HDn
   generalize (S.ino[n]).num = z0 at q0
   generalize (S.ino[n]).ents.length = el at q2
   generalize (S.ino[n]).data = s0 at q3
   clear hq hd q4 q5
   obtain ⟨W2, Y, HWY, HK2, c0, c1, c2, c3⟩ := box4 wr (.int .i64 z0) (.bool d) (.slice ae el ce) (.string s0) 62
   have HK3 : Hid (Kept [] W0 W2) := HJ.out.trans HK2.out (by simp)
   go_upto_region 5 with fail
   rw [HWY.out.1, HWY.out.2]
   clear HWY q0 q1 q2 q3 HJ HK2
   cases d
   ·
    have HD2 : Hid (dirN (S.ino.take (n + 1)) = q) := by show _ = _; have := HDn.out; simpa using this
    clear HDn
    go_wp2_with fail
    go_roundw
    case rel => exact ⟨n + 1, by go_num, by rw [HD2.out], by omega, HK3.out⟩
    case measure => simp [intOf]; omega
   ·
    have HD2 : Hid (dirN (S.ino.take (n + 1)) = q + 1) := by show _ = _; have := HDn.out; simpa using this
    clear HDn
    go_wp2_with fail
    go_roundw
    case rel => exact ⟨n + 1, by go_num, by rw [HD2.out]; go_num, by omega, HK3.out⟩
    case measure => simp [intOf]; omega
  ·
   have j1 : ¬ (n : Int) < (S.ino.length : Int) := by omega
   have HD : Hid (dirN (S.ino.take n) = dirN S.ino) := by show _ = _; rw [List.take_of_length_le (by omega)]
   obtain ⟨q, hq⟩ : ∃ q, dirN (S.ino.take n) = q := ⟨_, rfl⟩
   rw [hq] at HD ⊢
   clear hq
   obtain ⟨W1, B, HWB, HKB, cB⟩ := box1 wr (.int .i64 1) 3
   have HK1 : Hid (Kept [] W0 W1) := HJ.out.trans HKB.out (by simp)
   have HOw : Hid (Own W1 W0.heap.size (.slice (some ⟨B, 0, none⟩) 1 1) [1]) := by
    rw [← HWB.out.1, ← HWB.out.2]
    exact ⟨by simp, .inr ⟨wr.heap.size, 1, #[.int .i64 1], rfl, HJ.out.size, Go.heap_alloc_new wr _, by simp, by unfold maxLen; omega, by simp, by simp⟩⟩
   clear HJ HKB cB
   go_upto_region 9 with fail
   rw [HWB.out.1, HWB.out.2]
   clear HWB
   go_wp2_with fail
   go_loopw [7, 6] (fun i u wr => ∃ (n : Nat) (F : List Int), i = .int .i64 (n : Int) ∧ Hid (Kept [] W0 wr ∧ Own wr W0.heap.size u F ∧ Jf S.ino n F ∧ bfs S.ino (S.ino.length + 1) 0 [1] = bfs S.ino (S.ino.length + 1 - n) n F)) (fun i _ _ => (S.ino.length + 1 - intOf i).toNat)
   case atStart => exact ⟨0, [1], rfl, HK1.out, HOw.out, Jf.start HTr.out, rfl⟩
   case round =>
    obtain ⟨n, F, rfl, HJ⟩ := hrel
    have hnF := HJ.out.2.2.1.le
    have hFl := HJ.out.2.2.1.few
    rcases HJ.out.2.1.form with ⟨-, e⟩ | ⟨g, cap, cur, hu, hg1, hg2, hg3, hg4, hg5, hg6⟩
    ·
     have := HJ.out.2.2.1.hd
     rw [e] at this
     cases this
    subst hu
    clear hg5 hg6 hg4
    by_cases hlt : n < F.length
    ·
     have l0 : (0 : Int) ≤ (n : Int) := by omega
     have l1 : (n : Int) < (F.length : Int) := by omega
     have HB1 : Hid (_) := HB.out.kept HJ.out.1
     have hc := HJ.out.2.1.lies.2.2.2 n hlt
     obtain ⟨z, hz⟩ : ∃ z, wordAt F n = z := ⟨_, rfl⟩
     have HZ : Hid (F[n]? = some z) := by
      show _ = _
      rw [← hz]
      unfold wordAt
      rw [List.getD_eq_getElem?_getD, List.getElem?_eq_getElem hlt]
      rfl
     rw [hz] at hc
     clear hz hg2 hg3 hg1
     obtain ⟨k, hk, hat, -, -⟩ := dir_at (HJ.out.2.2.1.dr z (List.mem_of_getElem? HZ.out))
     obtain ⟨b', o', ae, ce, ha', -, -, q20, -, q4, -⟩ := HB.out.sv.ino k hk
     have q2 := HJ.out.1.cell q20 (by simp)
     clear q20
     rw [HA.out] at ha'
     simp only [Option.some.injEq, Addr.mk.injEq, and_true] at ha'
     obtain ⟨hb1, hb2⟩ := ha'
     subst hb1 hb2
     have hlim : (S.ino[k]).ents.length ≤ lim := HN.out _ (List.getElem_mem hk)
     have HKid : Hid (kids S.ino z = kidsE S.ino (S.ino[k]).ents) := by show _ = _; unfold kids; rw [ents_at hat hk]
     have HFd : Hid (∀ e ∈ (S.ino[k]).ents, e.2 ≠ 1 ∧ (atR S.ino e.2).isSome = true) := HTr.out.ent k hk
     obtain ⟨E, hE⟩ : ∃ E, (S.ino[k]).ents = E := ⟨_, rfl⟩
     rw [hE] at q2 q4 hlim HKid HFd
     unfold lim at hlim
     have HEn : Hid (EntA W0 ae E) := q4
     have HAt : Hid (atR S.ino z = some k ∧ p.a1 = some ⟨b, o, none⟩) := ⟨hat, HA.out⟩
     have x0 := HB1.out.x0
     rw [HA.out] at x0
     have HC : Hid (wr.cell? ⟨X, 0, none⟩ = some (.slice (some ⟨b, o, none⟩) S.ino.length p.c1) ∧ wr.cell? ⟨X, 1, none⟩ = some (.slice p.a2 S.opn.length p.c2) ∧ wr.cell? ⟨X, 2, none⟩ = some (.slice p.a3 S.made.length p.c3) ∧ wr.cell? ⟨g, n, none⟩ = some (.int .i64 z) ∧ wr.cell? ⟨b, o + k * 4 + 2, none⟩ = some (.slice ae E.length ce)) := ⟨x0, HB1.out.x1, HB1.out.x2, hc, q2⟩
     have HIn : Hid (∀ W, Sv W p S → Calls Tryz.prog 48 #[.agg #[.slice (some ⟨b, o, none⟩) S.ino.length p.c1, .slice p.a2 S.opn.length p.c2, .slice p.a3 S.made.length p.c3], .int .i64 z] W fun e w' => e = .returned (.pointer (some ⟨b, o + k * 4, none⟩)) ∧ Kept [] W w') := fun W hW => by
      have := p_inode_some hW z HAt.out.1 HAt.out.2
      unfold sval at this
      rw [HA.out] at this
      exact this
     clear hE q4 q2 hat x0 hc
     go_upto_region 12 with fail
     go_region_held3 (fun w' => w'.cell? ⟨X, 0, none⟩ = some (.slice (some ⟨b, o, none⟩) S.ino.length p.c1) ∧ w'.cell? ⟨X, 1, none⟩ = some (.slice p.a2 S.opn.length p.c2) ∧ w'.cell? ⟨X, 2, none⟩ = some (.slice p.a3 S.made.length p.c3) ∧ w'.cell? ⟨g, n, none⟩ = some (.int .i64 z) ∧ w'.cell? ⟨b, o + k * 4 + 2, none⟩ = some (.slice ae E.length ce)) (first | exact HC.out | exact z4 | go_keep)
      (first
       | (go_at_call 48; refine (HIn.out _ (HB1.out.sv.kept (Kept.refl [] wr).drew)).mono ?_; rintro e w4 ⟨rfl, k4⟩; have z4 := (⟨k4.cell (HC.out.1) (by simp), k4.cell (HC.out.2.1) (by simp), k4.cell (HC.out.2.2.1) (by simp), k4.cell (HC.out.2.2.2.1) (by simp), k4.cell (HC.out.2.2.2.2) (by simp)⟩ : w4.cell? ⟨X, 0, none⟩ = some (.slice (some ⟨b, o, none⟩) S.ino.length p.c1) ∧ w4.cell? ⟨X, 1, none⟩ = some (.slice p.a2 S.opn.length p.c2) ∧ w4.cell? ⟨X, 2, none⟩ = some (.slice p.a3 S.made.length p.c3) ∧ w4.cell? ⟨g, n, none⟩ = some (.int .i64 z) ∧ w4.cell? ⟨b, o + k * 4 + 2, none⟩ = some (.slice ae E.length ce)); have HK4 : Hid (Kept [] wr w4) := (Kept.refl [] wr).drew.trans k4 (by simp); clear k4))
     have HJ4 : Hid (Kept [] W0 w4 ∧ Own w4 W0.heap.size (.slice (some ⟨g, 0, none⟩) F.length cap) F) := ⟨HJ.out.1.trans HK4.out (by simp), HJ.out.2.1.kept HK4.out⟩
     have HNx : Hid (Jf S.ino (n + 1) (F ++ kidsE S.ino E) ∧ bfs S.ino (S.ino.length + 1) 0 [1] = bfs S.ino (S.ino.length + 1 - (n + 1)) (n + 1) (F ++ kidsE S.ino E)) := by
      have h1 := HJ.out.2.2.1.step HTr.out HZ.out
      have h2 := HJ.out.2.2.2
      have e : S.ino.length + 1 - n = (S.ino.length + 1 - (n + 1)) + 1 := by omega
      rw [e, bfs_on HZ.out] at h2
      rw [HKid.out] at h1 h2
      exact ⟨h1, h2⟩
     have hFe : (F ++ kidsE S.ino E).length ≤ S.ino.length := HNx.out.1.few
     clear z4 HC HJ HK4 HB1 HKid HIn
     go_wp2_with fail
     go_loopw [39, 6] (fun i u wr => ∃ k2 : Nat, i = .int .i64 (k2 : Int) ∧ k2 ≤ E.length ∧ Hid (Kept [] W0 wr ∧ Own wr W0.heap.size u (F ++ kidsE S.ino (E.take k2)))) (fun i _ _ => (E.length - intOf i).toNat)
     case atStart => exact ⟨0, rfl, by omega, HJ4.out.1, by have := HJ4.out.2; simpa [kidsE] using this⟩
     case round =>
      obtain ⟨k2, rfl, hk2, HI⟩ := hrel
      obtain ⟨G, hG⟩ : ∃ G, F ++ kidsE S.ino (E.take k2) = G := ⟨_, rfl⟩
      have HGe : Hid (_) := hG
      rw [hG] at HI
      clear hG
      rcases HI.out.2.form with ⟨-, e2⟩ | ⟨g2, cap2, cur2, hu2, -⟩
      ·
       have := HGe.out
       rw [e2, List.append_eq_nil_iff] at this
       rw [this.1] at hlt
       simp at hlt
      subst hu2
      by_cases hlk : k2 < E.length
      ·
       have m0 : (0 : Int) ≤ (k2 : Int) := by omega
       have m1 : (k2 : Int) < (E.length : Int) := by omega
       obtain ⟨b5, o5, hb5, g1, g2'⟩ := (HEn.out.kept HI.out.1) k2 hlk
       have HA5 : Hid (_) := hb5
       have hfd := (HFd.out _ (List.getElem_mem hlk)).2
       have HTk : Hid (_) := kidsE_take (L := S.ino) hlk
       have hle : (F ++ kidsE S.ino (E.take (k2 + 1))).length ≤ S.ino.length := by
        have h1 : (kidsE S.ino (E.take (k2 + 1))).length ≤ (kidsE S.ino E).length := by
         unfold kidsE
         rw [List.length_map, List.length_map]
         exact ((List.take_sublist (k2 + 1) E).filter _).length_le
        rw [List.length_append] at hFe ⊢
        omega
       obtain ⟨z2, hz2⟩ : ∃ z2, (E[k2]).2 = z2 := ⟨_, rfl⟩
       rw [hz2] at g2' hfd HTk
       generalize (E[k2]).1 = t at g1
       rcases hat2 : atR S.ino z2 with _ | k3
       · rw [hat2] at hfd; cases hfd
       obtain ⟨hk3, -⟩ := at_get hat2
       have HDo : Hid (dirOf S.ino z2 = (S.ino[k3]).dir) := by show _ = _; unfold dirOf; rw [hat2]; simp [hk3]
       have HAt2 : Hid (atR S.ino z2 = some k3) := hat2
       rw [hb5]
       clear hb5 hz2 hat2 hfd
       obtain ⟨W3, Z, HWZ, HK3, e0, e1⟩ := box2 wr (.string t) (.int .i64 z2) 64
       have HKW : Hid (Kept [] W0 W3) := HI.out.1.trans HK3.out (by simp)
       have HI3 : Hid (Own W3 W0.heap.size (.slice (some ⟨g2, 0, none⟩) G.length cap2) G) := HI.out.2.kept HK3.out
       have HB3 : Hid (_) := HB.out.kept HKW.out
       obtain ⟨b', o', ae', ce', ha', -, q1, -⟩ := HB3.out.sv.ino k3 hk3
       rw [HA.out] at ha'
       simp only [Option.some.injEq, Addr.mk.injEq, and_true] at ha'
       obtain ⟨hb1, hb2⟩ := ha'
       subst hb1 hb2
       obtain ⟨d, hd⟩ : ∃ d, (S.ino[k3]).dir = d := ⟨_, rfl⟩
       rw [hd] at q1 HDo
       have x0 := HB3.out.x0
       have x1 := HB3.out.x1
       have x2 := HB3.out.x2
       clear hd
       go_upto_region 15 with fail
       rw [HWZ.out.1, HWZ.out.2]
       clear HWZ g1 g2' HI HK3
       go_wp2_with fail
       refine (p_inode_some HB3.out.sv z2 HAt2.out HA.out).mono ?_
       rintro e w5 ⟨rfl, k5⟩
       have y1 := k5.cell q1 (by simp)
       have f1 := k5.cell e1 (by simp)
       have HK5 : Hid (Kept [] W0 w5) := HKW.out.trans k5 (by simp)
       have HI5 : Hid (Own w5 W0.heap.size (.slice (some ⟨g2, 0, none⟩) G.length cap2) G) := HI3.out.kept k5
       clear k5 x0 x1 x2 e0 e1 q1 HI3 HB3 HKW
       cases d
       ·
        have HR : Hid (F ++ kidsE S.ino (E.take (k2 + 1)) = G) := by show _ = _; rw [HTk.out, HDo.out, ← HGe.out]; simp
        clear HTk HDo
        go_wp2_with fail
        go_roundw
        case rel => exact ⟨k2 + 1, by go_num, by omega, HK5.out, by rw [HR.out]; exact HI5.out⟩
        case measure => simp [intOf]; omega
       ·
        have HR : Hid (F ++ kidsE S.ino (E.take (k2 + 1)) = G ++ [z2]) := by show _ = _; rw [HTk.out, HDo.out, ← HGe.out]; simp
        rw [HR.out, List.length_append] at hle
        obtain ⟨v', w', hr, hk6, ho6⟩ := own_append HK5.out HI5.out z2 (by simp only [List.length_cons, List.length_nil] at hle; omega) 25
        have HAp : Hid (_) := hr
        have HO6 : Hid (Kept [] W0 w' ∧ Own w' W0.heap.size v' (F ++ kidsE S.ino (E.take (k2 + 1)))) := ⟨hk6, by rw [HR.out]; exact ho6⟩
        clear hr hk6 ho6 HTk HDo HR
        go_wp2_with (first
         | (at_builtin; refine wpList_append_run _ rfl _ _ 25 25 rfl _ _ rfl rfl v' w' HAp.out ?_))
        go_roundw
        case rel => exact ⟨k2 + 1, by go_num, by omega, HO6.out.1, HO6.out.2⟩
        case measure => simp [intOf]; omega
      ·
       have m1 : ¬ (k2 : Int) < (E.length : Int) := by omega
       have HO7 : Hid (Kept [] W0 wr ∧ Own wr W0.heap.size (.slice (some ⟨g2, 0, none⟩) G.length cap2) (F ++ kidsE S.ino E)) := ⟨HI.out.1, by have h1 := HI.out.2; have h2 := HGe.out; rw [List.take_of_length_le (l := E) (by omega)] at h2; rw [h2]; exact h1⟩
       clear HI
       go_wp2_with fail
       go_roundw
       case rel => exact ⟨n + 1, _, by go_num, HO7.out.1, HO7.out.2, HNx.out.1, HNx.out.2⟩
       case measure => simp [intOf]; omega
    ·
     have l1 : ¬ (n : Int) < (F.length : Int) := by omega
     have HR : Hid (decide ((F.length : Int) = (q : Int)) = foundB S.ino) := by
      show _ = _
      unfold foundB
      have e : S.ino.length + 1 - n = (S.ino.length - n) + 1 := by omega
      rw [HJ.out.2.2.2, e, bfs_end (by omega), ← HD.out]
      by_cases h : F.length = q
      · simp [h]
      ·
       have h2 : ¬ (F.length : Int) = (q : Int) := by omega
       simp [h, h2]
     have HK : Hid (Kept [] w wr) := HB.out.k.trans HJ.out.1 (by simp)
     clear HJ
     go_wp2_with fail
     go_ret
     refine ⟨?_, HK.out⟩
     first
      | exact ret_bool HR.out
      | (refine ret_bool ?_; rw [← HR.out, Bool.eq_iff_iff]; simp)
end Go.Proofs.YtffncojcnbhblaaGreatDoor
