/-
  Joined of my texts Fo Kv Yh.
-/
import Derived.Test.YtffncojcnbhblaaGreatDoorJd21
import Derived.Test.YtffncojcnbhblaaGreatDoorJd25
import Derived.Test.YtffncojcnbhblaaGreatDoorJd38
set_option linter.unusedVariables false
set_option linter.unusedSimpArgs false
set_option maxRecDepth 100000
set_option maxHeartbeats 8000000
namespace Go.Proofs.YtffncojcnbhblaaGreatDoor
open Go.RowKit
inductive Rch (L : List Ino) : Int → Prop
 | root : Rch L 1
 | kid {y z : Int} : Rch L y → z ∈ kids L y → Rch L z
theorem nodup_len {A B : List Int} (hn : A.Nodup) (hs : ∀ x ∈ A, x ∈ B) : A.length ≤ B.length := List.Nodup.length_le_of_subset hn hs
def Jc (L : List Ino) (n : Nat) (F : List Int) : Prop := ∀ i, i < n → ∀ y, F[i]? = some y → ∀ z ∈ kids L y, z ∈ F
theorem bfs_spec {L : List Ino} (h : Tr L) : ∀ (f n : Nat) (F : List Int), Jf L n F → Jc L n F → (∀ z ∈ F, Rch L z) → L.length + 1 ≤ f + n →
  ∃ G, bfs L f n F = G ∧ Jf L G.length G ∧ Jc L G.length G ∧ (∀ z ∈ G, Rch L z)
 | 0, n, F, j, c, r, hf => by
  exfalso
  have h1 := j.few
  have h2 := j.le
  omega
 | f + 1, n, F, j, c, r, hf => by
  by_cases hn : n < F.length
  ·
   have hy : F[n]? = some F[n] := List.getElem?_eq_getElem hn
   rw [bfs_on hy]
   refine bfs_spec h f (n + 1) _ (j.step h hy) ?_ ?_ (by omega)
   ·
    intro i hi y hi2 z hz
    by_cases e : i = n
    ·
     subst e
     rw [List.getElem?_append_left hn, hy] at hi2
     obtain rfl := Option.some.inj hi2
     exact List.mem_append_right _ hz
    ·
     have hiF : i < F.length := by omega
     rw [List.getElem?_append_left hiF] at hi2
     exact List.mem_append_left _ (c i (by omega) y hi2 z hz)
   ·
    intro z hz
    rw [List.mem_append] at hz
    rcases hz with h1 | h1
    · exact r z h1
    · exact Rch.kid (r _ (List.getElem_mem hn)) h1
  ·
   rw [bfs_end (by omega)]
   have e : n = F.length := by have := j.le; omega
   subst e
   exact ⟨F, rfl, j, c, r⟩
def dirNums (L : List Ino) : List Int := (L.filter Ino.dir).map Ino.num
theorem mem_dirNums {L : List Ino} (h : adj ltI L = true) {z : Int} : z ∈ dirNums L ↔ dirOf L z = true := by
 unfold dirNums
 rw [List.mem_map]
 constructor
 ·
  rintro ⟨x, hx, rfl⟩
  rw [List.mem_filter] at hx
  obtain ⟨k, hk, rfl⟩ := List.getElem_of_mem hx.1
  unfold dirOf
  rw [at_num h hk]
  simp [hk, hx.2]
 ·
  intro hd
  obtain ⟨k, hk, -, hn, hdd⟩ := dir_at hd
  exact ⟨L[k], List.mem_filter.2 ⟨List.getElem_mem hk, hdd⟩, hn⟩
theorem found_iff {L : List Ino} (h : Tr L) : foundB L = true ↔ ∀ z, dirOf L z = true → Rch L z := by
 obtain ⟨G, hG, j, c, r⟩ := bfs_spec h (L.length + 1) 0 [1] (Jf.start h) (fun i hi => by omega) (fun z hz => by rw [List.mem_singleton] at hz; subst hz; exact Rch.root) (by omega)
 have one : (1 : Int) ∈ G := List.mem_of_getElem? j.hd
 have comp : ∀ z, Rch L z → z ∈ G := fun z hz => by
  induction hz with
  | root => exact one
  | kid hy hk ih =>
   obtain ⟨i, hi, e⟩ := List.getElem_of_mem ih
   exact c i hi _ (by rw [List.getElem?_eq_getElem hi, e]) _ hk
 have hl : dirN L = (dirNums L).length := by unfold dirN dirNums; rw [List.length_map, List.countP_eq_length_filter]
 unfold foundB
 rw [hG, beq_iff_eq, hl]
 constructor
 ·
  intro e z hz
  rcases Classical.em (z ∈ G) with h1 | h1
  · exact r z h1
  ·
   exfalso
   have hn : (z :: G).Nodup := List.nodup_cons.2 ⟨h1, j.nd⟩
   have := nodup_len hn (B := dirNums L) fun x hx => by
    rcases List.mem_cons.1 hx with rfl | h2
    · exact (mem_dirNums h.row).2 hz
    · exact (mem_dirNums h.row).2 (j.dr x h2)
   rw [List.length_cons] at this
   omega
 ·
  intro hr
  have h1 := nodup_len j.nd (B := dirNums L) fun x hx => (mem_dirNums h.row).2 (j.dr x hx)
  have hnd : (dirNums L).Nodup := by
   unfold dirNums
   rw [List.nodup_iff_pairwise_ne, List.pairwise_map]
   have hp : L.Pairwise fun a b => a.num ≠ b.num := by
    rw [List.pairwise_iff_getElem]
    intro i k hi hk hik e
    have := adj_lt h.row i k hi hk hik
    omega
   exact hp.sublist List.filter_sublist
  have h2 := nodup_len hnd (B := G) fun x hx => comp x (hr x ((mem_dirNums h.row).1 hx))
  omega
def look (L : List Ino) (z : Int) : Option Ino := (atR L z).bind fun k => L[k]?
theorem look_mem {L : List Ino} (h : adj ltI L = true) {z : Int} {x : Ino} : look L z = some x ↔ x ∈ L ∧ x.num = z := by
 unfold look
 constructor
 ·
  intro e
  rcases ha : atR L z with _ | k
  · rw [ha] at e; cases e
  ·
   rw [ha] at e
   obtain ⟨hk, hn⟩ := at_get ha
   simp only [Option.bind_some, List.getElem?_eq_getElem hk, Option.some.injEq] at e
   subst e
   exact ⟨List.getElem_mem hk, hn⟩
 ·
  rintro ⟨hx, rfl⟩
  obtain ⟨k, hk, rfl⟩ := List.getElem_of_mem hx
  rw [at_num h hk]
  simp [hk]
theorem look_dir (L : List Ino) (z : Int) : dirOf L z = ((look L z).map Ino.dir).getD false := by
 unfold dirOf look
 rcases ha : atR L z with _ | k
 · rfl
 ·
  obtain ⟨hk, -⟩ := at_get ha
  simp [hk]
theorem look_ents (L : List Ino) (z : Int) : entsOf L z = ((look L z).map Ino.ents).getD [] := by
 unfold entsOf look
 rcases ha : atR L z with _ | k
 · rfl
 ·
  obtain ⟨hk, -⟩ := at_get ha
  simp [hk]
structure Vw (S : Sta) : Prop where
 made : madeB S.made = true
 row : adj ltI S.ino = true
 root : ∃ x, S.ino[0]? = some x ∧ x.num = 1 ∧ x.dir = true
 gv : ∀ x ∈ S.ino, x.num ≠ 1 → 2 ≤ x.num ∧ givenB S.made x.num = true
 ino : ∀ x ∈ S.ino, inoB S.ino x = true
 opn : adj ltD S.opn = true
 des : ∀ d ∈ S.opn, desB S d = true
 held : ∀ x ∈ S.ino, x.num ≠ 1 → helB S x = true
 fnd : ∀ z, dirOf S.ino z = true → Rch S.ino z
theorem may_view {S : Sta} : mayB S = true ↔ Vw S := by
 constructor
 ·
  intro h
  have hw := wel_of h
  obtain ⟨hM, hN, hI, hO, hH, hF⟩ := may_iff.1 h
  obtain ⟨h0, n0, d0, ha, hg⟩ := nums_iff.1 hN
  unfold opensB at hO
  rw [Bool.and_eq_true] at hO
  have tl : ∀ x ∈ S.ino, x.num ≠ 1 → ∃ j, ∃ hj : j + 1 < S.ino.length, x = S.ino[j + 1] := fun x hx hn => by
   obtain ⟨k, hk, rfl⟩ := List.getElem_of_mem hx
   cases k with
   | zero => exact absurd n0 hn
   | succ j => exact ⟨j, hk, rfl⟩
  refine ⟨hM, ha, ⟨S.ino[0], List.getElem?_eq_getElem h0, n0, d0⟩, fun x hx hn => ?_, fun x hx => List.all_eq_true.1 hI x hx, hO.1, fun d hd => List.all_eq_true.1 hO.2 d hd, fun x hx hn => ?_, (found_iff hw.tr).1 hF⟩
  ·
   obtain ⟨j, hj, rfl⟩ := tl x hx hn
   have := adj_lt ha 0 (j + 1) h0 hj (by omega)
   exact ⟨by omega, hg j hj⟩
  ·
   obtain ⟨j, hj, rfl⟩ := tl x hx hn
   exact (held_iff.1 hH) j hj
 ·
  intro v
  obtain ⟨x0, hx0, n0, d0⟩ := v.root
  obtain ⟨h0, e0⟩ := List.getElem?_eq_some_iff.1 hx0
  subst e0
  have ne : ∀ j (hj : j + 1 < S.ino.length), (S.ino[j + 1]).num ≠ 1 := fun j hj e => by
   have := adj_lt v.row 0 (j + 1) h0 hj (by omega)
   omega
  have hN : numsB S.ino S.made = true := nums_iff.2 ⟨h0, n0, d0, v.row, fun j hj => (v.gv _ (List.getElem_mem hj) (ne j hj)).2⟩
  have hI : inosB S.ino = true := List.all_eq_true.2 v.ino
  have hH : heldB S = true := held_iff.2 fun j hj => v.held _ (List.getElem_mem hj) (ne j hj)
  have hO : opensB S = true := by unfold opensB; rw [Bool.and_eq_true]; exact ⟨v.opn, List.all_eq_true.2 v.des⟩
  exact may_iff.2 ⟨v.made, hN, hI, hO, hH, (found_iff (tr_of hN hI hH)).2 v.fnd⟩
theorem cnt_append (A B : List En) (z : Int) : cnt (A ++ B) z = cnt A z + cnt B z := by unfold cnt; rw [List.countP_append]
theorem cnt_ins (E : List En) (e : En) (z : Int) : cnt (insR ltE E e) z = cnt E z + if e.2 = z then 1 else 0 := by
 unfold insR
 have h : cnt E z = cnt (E.take (whereR ltE E e)) z + cnt (E.drop (whereR ltE E e)) z := by rw [← cnt_append, List.take_append_drop]
 have h1 : cnt (e :: E.drop (whereR ltE E e)) z = cnt (E.drop (whereR ltE E e)) z + if e.2 = z then 1 else 0 := by
  unfold cnt
  rw [List.countP_cons]
  by_cases c : e.2 = z
  · simp [c]
  · simp [c]
 rw [cnt_append, h1, h]
 omega
theorem entN_append (A B : List Ino) (z : Int) : entN (A ++ B) z = entN A z + entN B z := by unfold entN; rw [List.map_append, List.sum_append]
theorem entN_ins (L : List Ino) (x : Ino) (z : Int) : entN (insR ltI L x) z = entN L z + cnt x.ents z := by
 unfold insR
 have h : entN L z = entN (L.take (whereR ltI L x)) z + entN (L.drop (whereR ltI L x)) z := by rw [← entN_append, List.take_append_drop]
 have h1 : entN (x :: L.drop (whereR ltI L x)) z = entN (L.drop (whereR ltI L x)) z + cnt x.ents z := by unfold entN; rw [List.map_cons, List.sum_cons]; omega
 rw [entN_append, h1, h]
 omega
theorem entN_set : ∀ (L : List Ino) (k : Nat) (hk : k < L.length) (y : Ino) (z : Int), entN (L.set k y) z + cnt (L[k]).ents z = entN L z + cnt y.ents z
 | x :: l, 0, _, y, z => by simp only [List.set_cons_zero, List.getElem_cons_zero]; unfold entN; rw [List.map_cons, List.map_cons, List.sum_cons, List.sum_cons]; omega
 | x :: l, k + 1, hk, y, z => by
  have := entN_set l k (by simpa using hk) y z
  simp only [List.set_cons_succ, List.getElem_cons_succ]
  unfold entN at this ⊢
  rw [List.map_cons, List.map_cons, List.sum_cons, List.sum_cons]
  omega
theorem mem_ins {α : Type} {f : α → α → Bool} {L : List α} {x y : α} : y ∈ insR f L x ↔ y = x ∨ y ∈ L := by
 unfold insR
 rw [List.mem_append, List.mem_cons]
 have : y ∈ L ↔ y ∈ L.take (whereR f L x) ∨ y ∈ L.drop (whereR f L x) := by rw [← List.mem_append, List.take_append_drop]
 rw [this]
 constructor
 ·
  rintro (h | h | h)
  · exact Or.inr (Or.inl h)
  · exact Or.inl h
  · exact Or.inr (Or.inr h)
 ·
  rintro (h | h | h)
  · exact Or.inr (Or.inl h)
  · exact Or.inl h
  · exact Or.inr (Or.inr h)
theorem adj_ins {α : Type} {f : α → α → Bool} {L : List α} {x : α} (ht : ∀ a b c, f a b = true → f b c = true → f a c = true) (h : adj f L = true) (hx : ∀ y ∈ L, f y x = false → f x y = true) : adj f (insR f L x) = true := by
 have hp : L.Pairwise fun a b => f a b = true := by
  rw [List.pairwise_iff_getElem]
  exact fun i j hi hj hij => adj_all ht h i j hi hj hij
 have hq : (insR f L x).Pairwise fun a b => f a b = true := by
  unfold insR
  have hsp : (L.take (whereR f L x) ++ L.drop (whereR f L x)).Pairwise fun a b => f a b = true := by rw [List.take_append_drop]; exact hp
  rw [List.pairwise_append] at hsp ⊢
  have ahead : ∀ a ∈ L.take (whereR f L x), f a x = true := fun a ha => by
   obtain ⟨i, hi, rfl⟩ := List.getElem_of_mem ha
   rw [List.length_take] at hi
   rw [List.getElem_take]
   have : i < L.findIdx fun y => !(f y x) := by unfold whereR at hi; omega
   have := List.not_of_lt_findIdx this
   simpa using this
  have behind : ∀ b ∈ L.drop (whereR f L x), f x b = true := fun b hb => by
   have hbL := List.mem_of_mem_drop hb
   refine hx b hbL ?_
   rcases hfb : f b x with _ | _
   · rfl
   ·
    exfalso
    have hlen : whereR f L x < L.length := by
     rcases Nat.lt_or_ge (whereR f L x) L.length with h1 | h1
     · exact h1
     · rw [List.drop_of_length_le h1] at hb; cases hb
    have h0 : f (L[whereR f L x]'hlen) x = false := by
     have h9 : (!(f (L[L.findIdx fun y => !(f y x)]'hlen) x)) = true := List.findIdx_getElem (w := hlen) (p := fun y => !(f y x)) (xs := L)
     have h8 : (!(f (L[whereR f L x]'hlen) x)) = true := h9
     simpa using h8
    obtain ⟨i, hi, rfl⟩ := List.getElem_of_mem hb
    rw [List.getElem_drop] at hfb
    by_cases e : i = 0
    ·
     subst e
     simp only [Nat.add_zero] at hfb
     rw [h0] at hfb
     cases hfb
    ·
     rw [List.length_drop] at hi
     have := adj_all ht h (whereR f L x) (whereR f L x + i) hlen (by omega) (by omega)
     rw [ht _ _ _ this hfb] at h0
     cases h0
  refine ⟨hsp.1, List.pairwise_cons.2 ⟨behind, hsp.2.1⟩, fun a ha b hb => ?_⟩
  rcases List.mem_cons.1 hb with rfl | hb
  · exact ahead a ha
  · exact hsp.2.2 a ha b hb
 rw [adj_iff]
 intro j hj
 exact List.pairwise_iff_getElem.1 hq j (j + 1) (by omega) hj (by omega)
theorem at_ix {S : Sta} (v : Vw S) {i : Nat} (hi : i < S.ino.length) : atR S.ino (S.ino[i]).num = some i :=
 at_some hi rfl fun j hj hji => by have := adj_lt v.row j i hj hi hji; omega
theorem vw_ents {S : Sta} (v : Vw S) {x : Ino} (hx : x ∈ S.ino) (h : x.ents ≠ []) : x.dir = true := by
 have := v.ino x hx
 unfold inoB at this
 split at this
 · assumption
 ·
  rw [Bool.and_eq_true] at this
  exact absurd (List.isEmpty_iff.1 this.1) h
theorem reach_of {S : Sta} (v : Vw S) {z : Int} (h : Rch S.ino z) : ∀ k, atR S.ino z = some k → Reach S k := by
 induction h with
 | root => exact fun k hk => Reach.root hk
 | @kid y z hy hz ih =>
  intro k hk
  unfold kids kidsE entsOf at hz
  rcases hj : atR S.ino y with _ | j
  · rw [hj] at hz; simp at hz
  ·
   rw [hj] at hz
   obtain ⟨hjl, -⟩ := at_get hj
   simp only [List.getElem?_eq_getElem hjl, Option.map_some, Option.getD_some] at hz
   obtain ⟨e, he, rfl⟩ := List.mem_map.1 hz
   have he2 := (List.mem_filter.1 he).1
   exact Reach.step (ih j hj) (List.getElem?_eq_getElem hjl) (vw_ents v (List.getElem_mem hjl) (List.ne_nil_of_mem he2)) he2 hk
theorem reach_dir {S : Sta} (v : Vw S) {i : Nat} (hi : i < S.ino.length) (hd : (S.ino[i]).dir = true) : Reach S i := by
 refine reach_of v (v.fnd (S.ino[i]).num ?_) i (at_ix v hi)
 unfold dirOf
 rw [at_ix v hi]
 simp [List.getElem?_eq_getElem hi, hd]
theorem links_ent {S : Sta} (v : Vw S) (z : Int) : linksR S.ino z = entN S.ino z := by
 unfold linksR entN
 congr 1
 refine List.map_congr_left fun x hx => ?_
 split
 · rfl
 ·
  rename_i h
  have : x.ents = [] := by
   rcases he : x.ents with _ | ⟨e, l⟩
   · rfl
   · exact absurd (vw_ents v hx (by rw [he]; simp)) h
  rw [this]
  rfl
theorem ent_some_of {L : List Ino} {z : Int} (h : entN L z ≠ 0) : ∃ x ∈ L, ∃ e ∈ x.ents, e.2 = z := by
 induction L with
 | nil => exact absurd rfl h
 | cons x L ih =>
  unfold entN at h
  rw [List.map_cons, List.sum_cons] at h
  by_cases hc : cnt x.ents z = 0
  ·
   rw [hc, Nat.zero_add] at h
   obtain ⟨y, hy, r⟩ := ih h
   exact ⟨y, List.mem_cons_of_mem _ hy, r⟩
  ·
   unfold cnt at hc
   have hp : 0 < List.countP (fun e : En => e.2 == z) x.ents := by omega
   obtain ⟨e, he, hez⟩ := List.countP_pos_iff.1 hp
   exact ⟨x, List.mem_cons_self, e, he, by simpa using hez⟩
theorem tot_few {S : Sta} (h : ∀ x ∈ S.ino, x.ents.length ≤ 32) (hn : S.ino.length ≤ 257) : tot S ≤ 17592186044000 := by
 have hs : ∀ n, rem S (fun _ => false) n ≤ n * 32 := fun n => by
  induction n with
  | zero => simp [rem]
  | succ n ih =>
   unfold rem at ih ⊢
   rw [List.range_succ, List.map_append, List.sum_append]
   have : el S n ≤ 32 := by
    unfold el
    rcases hx : S.ino[n]? with _ | x
    · simp
    ·
     simp
     exact h x (List.mem_of_getElem? hx)
   simp only [List.map_cons, List.map_nil, List.sum_cons, List.sum_nil, Bool.false_eq_true, if_false] at ih ⊢
   omega
 have := hs S.ino.length
 unfold tot
 omega
theorem may_p {S : Sta} (hm : mayB S = true) : MayP S ∧ tot S ≤ 17592186044000 := by
 have v := may_view.1 hm
 have w := wel_of hm
 refine ⟨⟨w.m1, w.m8, v.root, fun i d hd => ?_, fun i m hi => w.mg m (List.mem_of_getElem? hi), w.few, fun i x hx => ?_⟩, tot_few w.en w.few⟩
 ·
  obtain ⟨h1, h2, h3, h4, k, hk, h5, h6⟩ := w.fds d (List.mem_of_getElem? hd)
  refine ⟨h1, h2, h3, h4, ⟨k, _, h5, List.getElem?_eq_getElem hk, h6⟩, fun o h0 ho => ?_⟩
  obtain ⟨hi, hie⟩ := List.getElem?_eq_some_iff.1 hd
  obtain ⟨hi', hie'⟩ := List.getElem?_eq_some_iff.1 ho
  have := (adj_iff.1 w.da) (i - 1) (by omega)
  have e1 : S.opn[i - 1 + 1] = d := by rw [← hie]; congr 1; omega
  rw [e1, hie'] at this
  unfold ltD at this
  simp only [Bool.or_eq_true, decide_eq_true_eq, Bool.and_eq_true, beq_iff_eq] at this
  exact this
 ·
  obtain ⟨hi, hie⟩ := List.getElem?_eq_some_iff.1 hx
  have hxm : x ∈ S.ino := List.mem_of_getElem? hx
  have hat : atR S.ino x.num = some i := by rw [← hie]; exact at_ix v hi
  have hin := v.ino x hxm
  refine ⟨fun h0 o ho => ?_, w.dt x hxm, fun hd => ?_, fun hd => ?_, ?_, fun h0 hd => ?_, fun hd => ?_⟩
  ·
   obtain ⟨hi', hie'⟩ := List.getElem?_eq_some_iff.1 ho
   have hlt := adj_lt v.row (i - 1) i hi' hi (by omega)
   rw [hie, hie'] at hlt
   refine ⟨hlt, ?_⟩
   have h1 := (w.rg o (List.mem_of_getElem? ho)).1
   have hg := (v.gv x hxm (by omega)).2
   refine ⟨by omega, ?_⟩
   unfold givenB at hg
   split at hg
   · cases hg
   ·
    rename_i m hmm
    exact ⟨m, hmm, of_decide_eq_true hg⟩
  ·
   unfold inoB at hin
   rw [if_pos hd, Bool.and_eq_true] at hin
   exact List.isEmpty_iff.1 hin.1
  ·
   unfold inoB at hin
   rw [if_neg (by rw [hd]; simp), Bool.and_eq_true] at hin
   exact List.isEmpty_iff.1 hin.1
  ·
   rcases hd : x.dir with _ | _
   ·
    have : x.ents = [] := by
     unfold inoB at hin
     rw [if_neg (by rw [hd]; simp), Bool.and_eq_true] at hin
     exact List.isEmpty_iff.1 hin.1
    rw [this]
    intro j e he
    simp at he
   ·
    unfold inoB at hin
    rw [if_pos hd, Bool.and_eq_true] at hin
    have he := hin.2
    unfold entsB at he
    rw [Bool.and_eq_true, Bool.and_eq_true, List.all_eq_true, List.all_eq_true] at he
    obtain ⟨⟨h1, h2⟩, h3⟩ := he
    intro j e hj
    obtain ⟨hjl, hje⟩ := List.getElem?_eq_some_iff.1 hj
    have hb := h1 e (List.mem_of_getElem? hj)
    unfold entB at hb
    rw [Bool.and_eq_true, Bool.and_eq_true] at hb
    refine ⟨by simpa using hb.1.1, fun o h0 ho => ?_, by simpa using hb.1.2, fun h => by rw [h] at hb; simp at hb, fun b hbk => ?_⟩
    ·
     obtain ⟨hi', hie'⟩ := List.getElem?_eq_some_iff.1 ho
     have := (adj_iff.1 h3) (j - 1) (by omega)
     have e1 : x.ents[j - 1 + 1] = e := by rw [← hje]; congr 1; omega
     rw [e1, hie'] at this
     exact this
    ·
     have hbr := bkt_range e.1
     have h5 := h2 b (List.mem_range.2 (by omega))
     rw [decide_eq_true_eq] at h5
     refine Nat.le_trans ?_ h5
     unfold mny inB
     exact List.Sublist.countP_le (List.take_sublist _ _)
  ·
   have hh := v.held x hxm (by
    intro e
    obtain ⟨r, hr, hr1, -⟩ := v.root
    obtain ⟨h00, hre⟩ := List.getElem?_eq_some_iff.1 hr
    have := adj_lt v.row 0 i h00 hi h0
    rw [hie, hre] at this
    omega)
   unfold helB at hh
   rw [if_pos hd] at hh
   exact ⟨by rw [links_ent v]; simpa using hh, reach_dir v hi (by rw [hie]; exact hd)⟩
  ·
   have hne : x.num ≠ 1 := by
    intro e
    obtain ⟨r, hr, hr1, hrd⟩ := v.root
    obtain ⟨h00, hre⟩ := List.getElem?_eq_some_iff.1 hr
    have h2 : atR S.ino x.num = some 0 := by
     rw [e, ← hr1, ← hre]
     exact at_ix v h00
    rw [hat] at h2
    have : i = 0 := Option.some.inj h2
    subst this
    rw [hx] at hr
    have := Option.some.inj hr
    subst this
    rw [hd] at hrd
    cases hrd
   have hh := v.held x hxm hne
   unfold helB at hh
   rw [if_neg (by rw [hd]; simp), Bool.or_eq_true] at hh
   rcases hh with hh | hh
   ·
    left
    have hn0 : entN S.ino x.num ≠ 0 := by simpa using hh
    obtain ⟨y, hy, e, he, hez⟩ := ent_some_of hn0
    obtain ⟨j, hj, rfl⟩ := List.getElem_of_mem hy
    have hyd := vw_ents v hy (List.ne_nil_of_mem he)
    exact Reach.step (reach_dir v hj hyd) (List.getElem?_eq_getElem hj) hyd he (by rw [hez]; exact hat)
   ·
    right
    unfold isOpenR
    obtain ⟨j, hj⟩ := Option.isSome_iff_exists.1 hh
    unfold opP at hj
    obtain ⟨hjl, hjp⟩ := idx_get hj
    exact List.any_eq_true.2 ⟨_, List.getElem_mem hjl, hjp⟩
end Go.Proofs.YtffncojcnbhblaaGreatDoor
