/-
  Joined of my texts Fo Kv Yh Ms Lk Rm.
-/
import Derived.Test.YtffncojcnbhblaaGreatDoorJc21
import Derived.Test.YtffncojcnbhblaaGreatDoorJc26
import Derived.Test.YtffncojcnbhblaaGreatDoorJc39
import Derived.Test.YtffncojcnbhblaaGreatDoorJc43
import Derived.Test.YtffncojcnbhblaaGreatDoorJc41
import Derived.Test.YtffncojcnbhblaaGreatDoorJc28
import Derived.Test.YtffncojcnbhblaaGreatDoorJc42
set_option linter.unusedVariables false
set_option linter.unusedSimpArgs false
set_option maxRecDepth 100000
set_option maxHeartbeats 8000000
namespace Go.Proofs.YtffncojcnbhblaaGreatDoor
open Go.RowKit
inductive Rch (L : List Ino) : Int → Prop
 | root : Rch L 1
 | kid {y z : Int} : Rch L y → z ∈ kids L y → Rch L z
theorem nodup_len {A B : List Int} (hn : A.Nodup) (hs : ∀ x ∈ A, x ∈ B) : A.length ≤ B.length := List.Nodup.length_le_of_subset hn hs
def Jc (L : List Ino) (n : Nat) (F : List Int) : Prop := ∀ i, i < n → ∀ y, F[i]? = some y → ∀ z ∈ kids L y, z ∈ F
theorem bfs_spec {L : List Ino} (h : Tr L) : ∀ (f n : Nat) (F : List Int), Jf L n F → Jc L n F → (∀ z ∈ F, Rch L z) → L.length + 1 ≤ f + n →
  ∃ G, bfs L f n F = G ∧ Jf L G.length G ∧ Jc L G.length G ∧ (∀ z ∈ G, Rch L z)
 | 0, n, F, j, c, r, hf => by
  exfalso
  have h1 := j.few
  have h2 := j.le
  omega
 | f + 1, n, F, j, c, r, hf => by
  by_cases hn : n < F.length
  ·
   have hy : F[n]? = some F[n] := List.getElem?_eq_getElem hn
   rw [bfs_on hy]
   refine bfs_spec h f (n + 1) _ (j.step h hy) ?_ ?_ (by omega)
   ·
    intro i hi y hi2 z hz
    by_cases e : i = n
    ·
     subst e
     rw [List.getElem?_append_left hn, hy] at hi2
     obtain rfl := Option.some.inj hi2
     exact List.mem_append_right _ hz
    ·
     have hiF : i < F.length := by omega
     rw [List.getElem?_append_left hiF] at hi2
     exact List.mem_append_left _ (c i (by omega) y hi2 z hz)
   ·
    intro z hz
    rw [List.mem_append] at hz
    rcases hz with h1 | h1
    · exact r z h1
    · exact Rch.kid (r _ (List.getElem_mem hn)) h1
  ·
   rw [bfs_end (by omega)]
   have e : n = F.length := by have := j.le; omega
   subst e
   exact ⟨F, rfl, j, c, r⟩
def dirNums (L : List Ino) : List Int := (L.filter Ino.dir).map Ino.num
theorem mem_dirNums {L : List Ino} (h : adj ltI L = true) {z : Int} : z ∈ dirNums L ↔ dirOf L z = true := by
 unfold dirNums
 rw [List.mem_map]
 constructor
 ·
  rintro ⟨x, hx, rfl⟩
  rw [List.mem_filter] at hx
  obtain ⟨k, hk, rfl⟩ := List.getElem_of_mem hx.1
  unfold dirOf
  rw [at_num h hk]
  simp [hk, hx.2]
 ·
  intro hd
  obtain ⟨k, hk, -, hn, hdd⟩ := dir_at hd
  exact ⟨L[k], List.mem_filter.2 ⟨List.getElem_mem hk, hdd⟩, hn⟩
theorem found_iff {L : List Ino} (h : Tr L) : foundB L = true ↔ ∀ z, dirOf L z = true → Rch L z := by
 obtain ⟨G, hG, j, c, r⟩ := bfs_spec h (L.length + 1) 0 [1] (Jf.start h) (fun i hi => by omega) (fun z hz => by rw [List.mem_singleton] at hz; subst hz; exact Rch.root) (by omega)
 have one : (1 : Int) ∈ G := List.mem_of_getElem? j.hd
 have comp : ∀ z, Rch L z → z ∈ G := fun z hz => by
  induction hz with
  | root => exact one
  | kid hy hk ih =>
   obtain ⟨i, hi, e⟩ := List.getElem_of_mem ih
   exact c i hi _ (by rw [List.getElem?_eq_getElem hi, e]) _ hk
 have hl : dirN L = (dirNums L).length := by unfold dirN dirNums; rw [List.length_map, List.countP_eq_length_filter]
 unfold foundB
 rw [hG, beq_iff_eq, hl]
 constructor
 ·
  intro e z hz
  rcases Classical.em (z ∈ G) with h1 | h1
  · exact r z h1
  ·
   exfalso
   have hn : (z :: G).Nodup := List.nodup_cons.2 ⟨h1, j.nd⟩
   have := nodup_len hn (B := dirNums L) fun x hx => by
    rcases List.mem_cons.1 hx with rfl | h2
    · exact (mem_dirNums h.row).2 hz
    · exact (mem_dirNums h.row).2 (j.dr x h2)
   rw [List.length_cons] at this
   omega
 ·
  intro hr
  have h1 := nodup_len j.nd (B := dirNums L) fun x hx => (mem_dirNums h.row).2 (j.dr x hx)
  have hnd : (dirNums L).Nodup := by
   unfold dirNums
   rw [List.nodup_iff_pairwise_ne, List.pairwise_map]
   have hp : L.Pairwise fun a b => a.num ≠ b.num := by
    rw [List.pairwise_iff_getElem]
    intro i k hi hk hik e
    have := adj_lt h.row i k hi hk hik
    omega
   exact hp.sublist List.filter_sublist
  have h2 := nodup_len hnd (B := G) fun x hx => comp x (hr x ((mem_dirNums h.row).1 hx))
  omega
def look (L : List Ino) (z : Int) : Option Ino := (atR L z).bind fun k => L[k]?
theorem look_dir (L : List Ino) (z : Int) : dirOf L z = ((look L z).map Ino.dir).getD false := by
 unfold dirOf look
 rcases ha : atR L z with _ | k
 · rfl
 ·
  obtain ⟨hk, -⟩ := at_get ha
  simp [hk]
theorem look_ents (L : List Ino) (z : Int) : entsOf L z = ((look L z).map Ino.ents).getD [] := by
 unfold entsOf look
 rcases ha : atR L z with _ | k
 · rfl
 ·
  obtain ⟨hk, -⟩ := at_get ha
  simp [hk]
structure Vw (S : Sta) : Prop where
 made : madeB S.made = true
 row : adj ltI S.ino = true
 root : ∃ x, S.ino[0]? = some x ∧ x.num = 1 ∧ x.dir = true
 gv : ∀ x ∈ S.ino, x.num ≠ 1 → 2 ≤ x.num ∧ givenB S.made x.num = true
 ino : ∀ x ∈ S.ino, inoB S.ino x = true
 opn : adj ltD S.opn = true
 des : ∀ d ∈ S.opn, desB S d = true
 held : ∀ x ∈ S.ino, x.num ≠ 1 → helB S x = true
 fnd : ∀ z, dirOf S.ino z = true → Rch S.ino z
theorem may_view {S : Sta} : mayB S = true ↔ Vw S := by
 constructor
 ·
  intro h
  have hw := wel_of h
  obtain ⟨hM, hN, hI, hO, hH, hF⟩ := may_iff.1 h
  obtain ⟨h0, n0, d0, ha, hg⟩ := nums_iff.1 hN
  unfold opensB at hO
  rw [Bool.and_eq_true] at hO
  have tl : ∀ x ∈ S.ino, x.num ≠ 1 → ∃ j, ∃ hj : j + 1 < S.ino.length, x = S.ino[j + 1] := fun x hx hn => by
   obtain ⟨k, hk, rfl⟩ := List.getElem_of_mem hx
   cases k with
   | zero => exact absurd n0 hn
   | succ j => exact ⟨j, hk, rfl⟩
  refine ⟨hM, ha, ⟨S.ino[0], List.getElem?_eq_getElem h0, n0, d0⟩, fun x hx hn => ?_, fun x hx => List.all_eq_true.1 hI x hx, hO.1, fun d hd => List.all_eq_true.1 hO.2 d hd, fun x hx hn => ?_, (found_iff hw.tr).1 hF⟩
  ·
   obtain ⟨j, hj, rfl⟩ := tl x hx hn
   have := adj_lt ha 0 (j + 1) h0 hj (by omega)
   exact ⟨by omega, hg j hj⟩
  ·
   obtain ⟨j, hj, rfl⟩ := tl x hx hn
   exact (held_iff.1 hH) j hj
 ·
  intro v
  obtain ⟨x0, hx0, n0, d0⟩ := v.root
  obtain ⟨h0, e0⟩ := List.getElem?_eq_some_iff.1 hx0
  subst e0
  have ne : ∀ j (hj : j + 1 < S.ino.length), (S.ino[j + 1]).num ≠ 1 := fun j hj e => by
   have := adj_lt v.row 0 (j + 1) h0 hj (by omega)
   omega
  have hN : numsB S.ino S.made = true := nums_iff.2 ⟨h0, n0, d0, v.row, fun j hj => (v.gv _ (List.getElem_mem hj) (ne j hj)).2⟩
  have hI : inosB S.ino = true := List.all_eq_true.2 v.ino
  have hH : heldB S = true := held_iff.2 fun j hj => v.held _ (List.getElem_mem hj) (ne j hj)
  have hO : opensB S = true := by unfold opensB; rw [Bool.and_eq_true]; exact ⟨v.opn, List.all_eq_true.2 v.des⟩
  exact may_iff.2 ⟨v.made, hN, hI, hO, hH, (found_iff (tr_of hN hI hH)).2 v.fnd⟩
theorem at_ix {S : Sta} (v : Vw S) {i : Nat} (hi : i < S.ino.length) : atR S.ino (S.ino[i]).num = some i :=
 at_some hi rfl fun j hj hji => by have := adj_lt v.row j i hj hi hji; omega
theorem vw_ents {S : Sta} (v : Vw S) {x : Ino} (hx : x ∈ S.ino) (h : x.ents ≠ []) : x.dir = true := by
 have := v.ino x hx
 unfold inoB at this
 split at this
 · assumption
 ·
  rw [Bool.and_eq_true] at this
  exact absurd (List.isEmpty_iff.1 this.1) h
theorem reach_of {S : Sta} (v : Vw S) {z : Int} (h : Rch S.ino z) : ∀ k, atR S.ino z = some k → Reach S k := by
 induction h with
 | root => exact fun k hk => Reach.root hk
 | @kid y z hy hz ih =>
  intro k hk
  unfold kids kidsE entsOf at hz
  rcases hj : atR S.ino y with _ | j
  · rw [hj] at hz; simp at hz
  ·
   rw [hj] at hz
   obtain ⟨hjl, -⟩ := at_get hj
   simp only [List.getElem?_eq_getElem hjl, Option.map_some, Option.getD_some] at hz
   obtain ⟨e, he, rfl⟩ := List.mem_map.1 hz
   have he2 := (List.mem_filter.1 he).1
   exact Reach.step (ih j hj) (List.getElem?_eq_getElem hjl) (vw_ents v (List.getElem_mem hjl) (List.ne_nil_of_mem he2)) he2 hk
theorem reach_dir {S : Sta} (v : Vw S) {i : Nat} (hi : i < S.ino.length) (hd : (S.ino[i]).dir = true) : Reach S i := by
 refine reach_of v (v.fnd (S.ino[i]).num ?_) i (at_ix v hi)
 unfold dirOf
 rw [at_ix v hi]
 simp [List.getElem?_eq_getElem hi, hd]
theorem links_ent {S : Sta} (v : Vw S) (z : Int) : linksR S.ino z = entN S.ino z := by
 unfold linksR entN
 congr 1
 refine List.map_congr_left fun x hx => ?_
 split
 · rfl
 ·
  rename_i h
  have : x.ents = [] := by
   rcases he : x.ents with _ | ⟨e, l⟩
   · rfl
   · exact absurd (vw_ents v hx (by rw [he]; simp)) h
  rw [this]
  rfl
theorem ent_some_of {L : List Ino} {z : Int} (h : entN L z ≠ 0) : ∃ x ∈ L, ∃ e ∈ x.ents, e.2 = z := by
 induction L with
 | nil => exact absurd rfl h
 | cons x L ih =>
  unfold entN at h
  rw [List.map_cons, List.sum_cons] at h
  by_cases hc : cnt x.ents z = 0
  ·
   rw [hc, Nat.zero_add] at h
   obtain ⟨y, hy, r⟩ := ih h
   exact ⟨y, List.mem_cons_of_mem _ hy, r⟩
  ·
   unfold cnt at hc
   have hp : 0 < List.countP (fun e : En => e.2 == z) x.ents := by omega
   obtain ⟨e, he, hez⟩ := List.countP_pos_iff.1 hp
   exact ⟨x, List.mem_cons_self, e, he, by simpa using hez⟩
theorem tot_few {S : Sta} (h : ∀ x ∈ S.ino, x.ents.length ≤ 32) (hn : S.ino.length ≤ 257) : tot S ≤ 17592186044000 := by
 have hs : ∀ n, rem S (fun _ => false) n ≤ n * 32 := fun n => by
  induction n with
  | zero => simp [rem]
  | succ n ih =>
   unfold rem at ih ⊢
   rw [List.range_succ, List.map_append, List.sum_append]
   have : el S n ≤ 32 := by
    unfold el
    rcases hx : S.ino[n]? with _ | x
    · simp
    ·
     simp
     exact h x (List.mem_of_getElem? hx)
   simp only [List.map_cons, List.map_nil, List.sum_cons, List.sum_nil, Bool.false_eq_true, if_false] at ih ⊢
   omega
 have := hs S.ino.length
 unfold tot
 omega
theorem may_p {S : Sta} (hm : mayB S = true) : MayP S ∧ tot S ≤ 17592186044000 := by
 have v := may_view.1 hm
 have w := wel_of hm
 refine ⟨⟨w.m1, w.m8, v.root, fun i d hd => ?_, fun i m hi => w.mg m (List.mem_of_getElem? hi), w.few, fun i x hx => ?_⟩, tot_few w.en w.few⟩
 ·
  obtain ⟨h1, h2, h3, h4, k, hk, h5, h6⟩ := w.fds d (List.mem_of_getElem? hd)
  refine ⟨h1, h2, h3, h4, ⟨k, _, h5, List.getElem?_eq_getElem hk, h6⟩, fun o h0 ho => ?_⟩
  obtain ⟨hi, hie⟩ := List.getElem?_eq_some_iff.1 hd
  obtain ⟨hi', hie'⟩ := List.getElem?_eq_some_iff.1 ho
  have := (adj_iff.1 w.da) (i - 1) (by omega)
  have e1 : S.opn[i - 1 + 1] = d := by rw [← hie]; congr 1; omega
  rw [e1, hie'] at this
  unfold ltD at this
  simp only [Bool.or_eq_true, decide_eq_true_eq, Bool.and_eq_true, beq_iff_eq] at this
  exact this
 ·
  obtain ⟨hi, hie⟩ := List.getElem?_eq_some_iff.1 hx
  have hxm : x ∈ S.ino := List.mem_of_getElem? hx
  have hat : atR S.ino x.num = some i := by rw [← hie]; exact at_ix v hi
  have hin := v.ino x hxm
  refine ⟨fun h0 o ho => ?_, w.dt x hxm, fun hd => ?_, fun hd => ?_, ?_, fun h0 hd => ?_, fun hd => ?_⟩
  ·
   obtain ⟨hi', hie'⟩ := List.getElem?_eq_some_iff.1 ho
   have hlt := adj_lt v.row (i - 1) i hi' hi (by omega)
   rw [hie, hie'] at hlt
   refine ⟨hlt, ?_⟩
   have h1 := (w.rg o (List.mem_of_getElem? ho)).1
   have hg := (v.gv x hxm (by omega)).2
   refine ⟨by omega, ?_⟩
   unfold givenB at hg
   split at hg
   · cases hg
   ·
    rename_i m hmm
    exact ⟨m, hmm, of_decide_eq_true hg⟩
  ·
   unfold inoB at hin
   rw [if_pos hd, Bool.and_eq_true] at hin
   exact List.isEmpty_iff.1 hin.1
  ·
   unfold inoB at hin
   rw [if_neg (by rw [hd]; simp), Bool.and_eq_true] at hin
   exact List.isEmpty_iff.1 hin.1
  ·
   rcases hd : x.dir with _ | _
   ·
    have : x.ents = [] := by
     unfold inoB at hin
     rw [if_neg (by rw [hd]; simp), Bool.and_eq_true] at hin
     exact List.isEmpty_iff.1 hin.1
    rw [this]
    intro j e he
    simp at he
   ·
    unfold inoB at hin
    rw [if_pos hd, Bool.and_eq_true] at hin
    have he := hin.2
    unfold entsB at he
    rw [Bool.and_eq_true, Bool.and_eq_true, List.all_eq_true, List.all_eq_true] at he
    obtain ⟨⟨h1, h2⟩, h3⟩ := he
    intro j e hj
    obtain ⟨hjl, hje⟩ := List.getElem?_eq_some_iff.1 hj
    have hb := h1 e (List.mem_of_getElem? hj)
    unfold entB at hb
    rw [Bool.and_eq_true, Bool.and_eq_true] at hb
    refine ⟨by simpa using hb.1.1, fun o h0 ho => ?_, by simpa using hb.1.2, fun h => by rw [h] at hb; simp at hb, fun b hbk => ?_⟩
    ·
     obtain ⟨hi', hie'⟩ := List.getElem?_eq_some_iff.1 ho
     have := (adj_iff.1 h3) (j - 1) (by omega)
     have e1 : x.ents[j - 1 + 1] = e := by rw [← hje]; congr 1; omega
     rw [e1, hie'] at this
     exact this
    ·
     have hbr := bkt_range e.1
     have h5 := h2 b (List.mem_range.2 (by omega))
     rw [decide_eq_true_eq] at h5
     refine Nat.le_trans ?_ h5
     unfold mny inB
     exact List.Sublist.countP_le (List.take_sublist _ _)
  ·
   have hh := v.held x hxm (by
    intro e
    obtain ⟨r, hr, hr1, -⟩ := v.root
    obtain ⟨h00, hre⟩ := List.getElem?_eq_some_iff.1 hr
    have := adj_lt v.row 0 i h00 hi h0
    rw [hie, hre] at this
    omega)
   unfold helB at hh
   rw [if_pos hd] at hh
   exact ⟨by rw [links_ent v]; simpa using hh, reach_dir v hi (by rw [hie]; exact hd)⟩
  ·
   have hne : x.num ≠ 1 := by
    intro e
    obtain ⟨r, hr, hr1, hrd⟩ := v.root
    obtain ⟨h00, hre⟩ := List.getElem?_eq_some_iff.1 hr
    have h2 : atR S.ino x.num = some 0 := by
     rw [e, ← hr1, ← hre]
     exact at_ix v h00
    rw [hat] at h2
    have : i = 0 := Option.some.inj h2
    subst this
    rw [hx] at hr
    have := Option.some.inj hr
    subst this
    rw [hd] at hrd
    cases hrd
   have hh := v.held x hxm hne
   unfold helB at hh
   rw [if_neg (by rw [hd]; simp), Bool.or_eq_true] at hh
   rcases hh with hh | hh
   ·
    left
    have hn0 : entN S.ino x.num ≠ 0 := by simpa using hh
    obtain ⟨y, hy, e, he, hez⟩ := ent_some_of hn0
    obtain ⟨j, hj, rfl⟩ := List.getElem_of_mem hy
    have hyd := vw_ents v hy (List.ne_nil_of_mem he)
    exact Reach.step (reach_dir v hj hyd) (List.getElem?_eq_getElem hj) hyd he (by rw [hez]; exact hat)
   ·
    right
    unfold isOpenR
    obtain ⟨j, hj⟩ := Option.isSome_iff_exists.1 hh
    unfold opP at hj
    obtain ⟨hjl, hjp⟩ := idx_get hj
    exact List.any_eq_true.2 ⟨_, List.getElem_mem hjl, hjp⟩
def bktN (t : ByteArray) : Nat := (bkt t).toNat
theorem row_some {w : World} {H : Nat} {T : TypeId} {k : Nat} {v : Value} {n : Nat} {xs : List Value} (h : w.ownsRow H T k v n xs) (hn : 0 < n) : ∃ g c, v = .slice (some ⟨g, 0, none⟩) n c := by
 rcases h.2 with ⟨rfl, rfl⟩ | ⟨g, cap, cur, rfl, -⟩
 · omega
 · exact ⟨g, cap, rfl⟩
theorem inn_make0 {S S' : Sta} (hb : Bd S) (hc : Clo S.ino) (hz : ∀ x ∈ S.ino, ∀ e ∈ x.ents, e.2 ≠ 0) (c : Cal) (hck : c.kind = 0) {i : Nat} (hci : c.core = (i : Int)) (hil : i < S.made.length) {gm : Int} (hgm : S.made[i] = gm) (hg0 : 0 ≤ gm) (hg1 : gm < 32) (hi8 : i < 8) (hab : ∀ x ∈ S.ino, x.num < 2 + (i : Int) + 8 * gm)
  {d : Int} {t : ByteArray} (hsp : spotR S.ino c.path = .ok (d, t)) {k : Nat} (hak : atR S.ino d = some k) (hk : k < S.ino.length) {E : List En} (hE : (S.ino[k]).ents = E) (ht : t.size ≤ 12) (hsz : ∀ e ∈ E, e.1.size ≤ 12 ∧ e.1.toList ≠ []) (hno : ∀ e ∈ E, e.1 ≠ t) (hen : entryR S.ino d t = 0) {bt : Nat} (hbt : bkt t = (bt : Int)) (hroom : ¬ 4 ≤ inB E bt)
  (hS : ⟨(setE ⟨S.ino, S.opn, S.made.set i (gm + 1)⟩ k hk (insR ltE E (t, (2 + (i : Int) + 8 * gm)))).ino ++ [⟨(2 + (i : Int) + 8 * gm), c.kind == 1, [], ⟨#[]⟩⟩], S.opn, S.made.set i (gm + 1)⟩ = S') :
  Inn 61 [.agg #[.int .i64 0, .int .i64 (i : Int), .int .i64 c.fd, .int .i64 c.off, .int .i64 c.num, .string c.path, .string c.path2, .string c.data]] (.agg #[.int .i64 0, .int .i64 0, .int .i64 0, .bool false, .string ⟨#[]⟩, .slice none 0 0]) S S' := by
 intro w0 w X v1 v2 v3 ev h
 obtain ⟨g, c1, rfl⟩ := row_some h.os.ino (by omega)
 obtain ⟨a2, c2, rfl, -⟩ := row_form h.os.opn
 obtain ⟨g3, c3, rfl⟩ := row_some h.os.mad (by omega)
 have h1 := r_make1 h hb hc hz c hci hil hgm hg0 hg1 hi8 hab hsp hak hk hE ht hsz hno hen hbt hroom
 rw [hck, hci] at h1
 refine h1.mono ?_
 rintro e w' ⟨rfl, a1', c1', ev', h', k'⟩
 rw [hck] at hS
 refine ⟨rfl, _, _, _, _, [g, g3, X], hS ▸ h', k', fun x hx => ?_⟩
 simp only [List.mem_cons, List.not_mem_nil, or_false] at hx
 rcases hx with rfl | rfl | rfl
 · exact Or.inr fun ho => (ho _ (by simp)).1 rfl
 · exact Or.inr fun ho => (ho _ (by simp)).2.2.1 rfl
 · exact Or.inl rfl
theorem inn_make1 {S S' : Sta} (hb : Bd S) (hc : Clo S.ino) (hz : ∀ x ∈ S.ino, ∀ e ∈ x.ents, e.2 ≠ 0) (c : Cal) (hck : c.kind = 1) {i : Nat} (hci : c.core = (i : Int)) (hil : i < S.made.length) {gm : Int} (hgm : S.made[i] = gm) (hg0 : 0 ≤ gm) (hg1 : gm < 32) (hi8 : i < 8) (hab : ∀ x ∈ S.ino, x.num < 2 + (i : Int) + 8 * gm)
  {d : Int} {t : ByteArray} (hsp : spotR S.ino c.path = .ok (d, t)) {k : Nat} (hak : atR S.ino d = some k) (hk : k < S.ino.length) {E : List En} (hE : (S.ino[k]).ents = E) (ht : t.size ≤ 12) (hsz : ∀ e ∈ E, e.1.size ≤ 12 ∧ e.1.toList ≠ []) (hno : ∀ e ∈ E, e.1 ≠ t) (hen : entryR S.ino d t = 0) {bt : Nat} (hbt : bkt t = (bt : Int)) (hroom : ¬ 4 ≤ inB E bt)
  (hS : ⟨(setE ⟨S.ino, S.opn, S.made.set i (gm + 1)⟩ k hk (insR ltE E (t, (2 + (i : Int) + 8 * gm)))).ino ++ [⟨(2 + (i : Int) + 8 * gm), c.kind == 1, [], ⟨#[]⟩⟩], S.opn, S.made.set i (gm + 1)⟩ = S') :
  Inn 61 [.agg #[.int .i64 1, .int .i64 (i : Int), .int .i64 c.fd, .int .i64 c.off, .int .i64 c.num, .string c.path, .string c.path2, .string c.data]] (.agg #[.int .i64 0, .int .i64 0, .int .i64 0, .bool false, .string ⟨#[]⟩, .slice none 0 0]) S S' := by
 intro w0 w X v1 v2 v3 ev h
 obtain ⟨g, c1, rfl⟩ := row_some h.os.ino (by omega)
 obtain ⟨a2, c2, rfl, -⟩ := row_form h.os.opn
 obtain ⟨g3, c3, rfl⟩ := row_some h.os.mad (by omega)
 have h1 := r_make1 h hb hc hz c hci hil hgm hg0 hg1 hi8 hab hsp hak hk hE ht hsz hno hen hbt hroom
 rw [hck, hci] at h1
 refine h1.mono ?_
 rintro e w' ⟨rfl, a1', c1', ev', h', k'⟩
 rw [hck] at hS
 refine ⟨rfl, _, _, _, _, [g, g3, X], hS ▸ h', k', fun x hx => ?_⟩
 simp only [List.mem_cons, List.not_mem_nil, or_false] at hx
 rcases hx with rfl | rfl | rfl
 · exact Or.inr fun ho => (ho _ (by simp)).1 rfl
 · exact Or.inr fun ho => (ho _ (by simp)).2.2.1 rfl
 · exact Or.inl rfl
theorem inn_link {S S' : Sta} (hb : Bd S) (hne : 0 < S.ino.length) (hc : Clo S.ino) (hz : ∀ x ∈ S.ino, ∀ e ∈ x.ents, e.2 ≠ 0) (c : Cal) (hck : c.kind = 8) {num : Int} {f : Nat} (hf : findR S.ino c.path = (num, 0)) (hat : atR S.ino num = some f) (hfl : f < S.ino.length) (hd : (S.ino[f]).dir = false)
  {d : Int} {t : ByteArray} (hsp : spotR S.ino c.path2 = .ok (d, t)) {k : Nat} (hak : atR S.ino d = some k) (hk : k < S.ino.length) {E : List En} (hE : (S.ino[k]).ents = E) (ht : t.size ≤ 12) (hsz : ∀ e ∈ E, e.1.size ≤ 12 ∧ e.1.toList ≠ []) (hno : ∀ e ∈ E, e.1 ≠ t) (hen : entryR S.ino d t = 0) {bt : Nat} (hbt : bkt t = (bt : Int)) (hroom : ¬ 4 ≤ inB E bt)
  (hS : setE S k hk (insR ltE E (t, num)) = S') :
  Inn 99 [.agg #[.int .i64 8, .int .i64 c.core, .int .i64 c.fd, .int .i64 c.off, .int .i64 c.num, .string c.path, .string c.path2, .string c.data]] (.agg #[.int .i64 0, .int .i64 0, .int .i64 0, .bool false, .string ⟨#[]⟩, .slice none 0 0]) S S' := by
 intro w0 w X v1 v2 v3 ev h
 obtain ⟨g, c1, rfl⟩ := row_some h.os.ino hne
 obtain ⟨a2, c2, rfl, -⟩ := row_form h.os.opn
 obtain ⟨a3, c3, rfl, -⟩ := row_form h.os.mad
 have h1 := r_link h hb hc hz c hf hat hfl hd hsp hak hk hE ht hsz hno hen hbt hroom
 rw [hck] at h1
 refine h1.mono ?_
 rintro e w' ⟨rfl, ev', h', k'⟩
 refine ⟨rfl, _, _, _, _, [g], hS ▸ h', k', fun x hx => ?_⟩
 simp only [List.mem_cons, List.not_mem_nil, or_false] at hx
 subst hx
 exact Or.inr fun ho => (ho _ (by simp)).1 rfl
theorem inn_open {L : List Ino} {M : List Int} {S' : Sta} (hb : Bd ⟨L, [], M⟩) (hne : 0 < L.length) (hc : Clo L) (hz : ∀ x ∈ L, ∀ e ∈ x.ents, e.2 ≠ 0) (c : Cal) (hck : c.kind = 2) {i : Nat} (hci : c.core = (i : Int)) {num : Int} {k : Nat} (hf : findR L c.path = (num, 0)) (hat : atR L num = some k) (hk : k < L.length) (hd : (L[k]).dir = false) (hS : ⟨L, [((i : Int), 0, num)], M⟩ = S') :
  Inn 62 [.agg #[.int .i64 2, .int .i64 (i : Int), .int .i64 c.fd, .int .i64 c.off, .int .i64 c.num, .string c.path, .string c.path2, .string c.data], .int .i64 (-1)] (.tuple #[.agg #[.int .i64 0, .int .i64 0, .int .i64 0, .bool false, .string ⟨#[]⟩, .slice none 0 0], .bool true]) ⟨L, [], M⟩ S' := by
 intro w0 w X v1 v2 v3 ev h
 obtain ⟨g, c1, rfl⟩ := row_some h.os.ino hne
 obtain ⟨a2, c2, rfl, -⟩ := row_form h.os.opn
 obtain ⟨a3, c3, rfl, -⟩ := row_form h.os.mad
 have h1 := r_opened h hb hc hz c hf hat hk hd
 rw [hck, hci] at h1
 refine h1.mono ?_
 rintro e w' ⟨rfl, a2', c2', h', k'⟩
 refine ⟨rfl, _, _, _, _, [X], hS ▸ h', k', fun x hx => ?_⟩
 simp only [List.mem_cons, List.not_mem_nil, or_false] at hx
 exact Or.inl hx
theorem inn_write {S S' : Sta} (hb : Bd S) (c : Cal) (hck : c.kind = 5) {i : Nat} (hci : c.core = (i : Int)) {num : Int} (hfd : fdR S.opn c.core c.fd = num) (hnz : num ≠ 0) {k : Nat} (hat : atR S.ino num = some k) (hk : k < S.ino.length) {D : ByteArray} (hD : (S.ino[k]).data = D) {a : Nat} (ho : c.off = (a : Int)) (hz6 : 0 < c.data.size) (hne : c.data.toList.isEmpty = false) (hq6 : a + c.data.size ≤ 256) (hS : setD S k hk (strOfNums (writeQ D c.data a)) = S') :
  Inn 63 [.agg #[.int .i64 5, .int .i64 (i : Int), .int .i64 c.fd, .int .i64 c.off, .int .i64 c.num, .string c.path, .string c.path2, .string c.data]] (.agg #[.int .i64 0, .int .i64 0, .int .i64 (c.data.size : Int), .bool false, .string ⟨#[]⟩, .slice none 0 0]) S S' := by
 intro w0 w X v1 v2 v3 ev h
 obtain ⟨g, c1, rfl⟩ := row_some h.os.ino (by omega)
 obtain ⟨a2, c2, rfl, -⟩ := row_form h.os.opn
 obtain ⟨a3, c3, rfl, -⟩ := row_form h.os.mad
 have h1 := r_write h hb c hck hfd hnz hat hk hD ho hz6 hne hq6
 rw [hck, hci] at h1
 refine h1.mono ?_
 rintro e w' ⟨rfl, h', k'⟩
 refine ⟨rfl, _, _, _, _, [g], hS ▸ h', k', fun x hx => ?_⟩
 simp only [List.mem_cons, List.not_mem_nil, or_false] at hx
 subst hx
 exact Or.inr fun ho => (ho _ (by simp)).1 rfl
def mS1 : Nat → Sta
 | 0 => ⟨[⟨1, true, [], ⟨#[]⟩⟩], [], [0]⟩
 | 1 => ⟨[⟨1, true, [(⟨#[100]⟩, 2)], ⟨#[]⟩⟩, ⟨2, true, [], ⟨#[]⟩⟩], [], [1]⟩
 | 2 => ⟨[⟨1, true, [(⟨#[100]⟩, 2), (⟨#[101]⟩, 10)], ⟨#[]⟩⟩, ⟨2, true, [], ⟨#[]⟩⟩, ⟨10, true, [], ⟨#[]⟩⟩], [], [2]⟩
 | 3 => ⟨[⟨1, true, [(⟨#[100]⟩, 2), (⟨#[101]⟩, 10), (⟨#[102]⟩, 18)], ⟨#[]⟩⟩, ⟨2, true, [], ⟨#[]⟩⟩, ⟨10, true, [], ⟨#[]⟩⟩, ⟨18, false, [], ⟨#[]⟩⟩], [], [3]⟩
 | 4 => ⟨[⟨1, true, [(⟨#[100]⟩, 2), (⟨#[101]⟩, 10), (⟨#[102]⟩, 18), (⟨#[103]⟩, 18)], ⟨#[]⟩⟩, ⟨2, true, [], ⟨#[]⟩⟩, ⟨10, true, [], ⟨#[]⟩⟩, ⟨18, false, [], ⟨#[]⟩⟩], [], [3]⟩
 | 5 => ⟨[⟨1, true, [(⟨#[100]⟩, 2), (⟨#[101]⟩, 10), (⟨#[102]⟩, 18), (⟨#[103]⟩, 18)], ⟨#[]⟩⟩, ⟨2, true, [(⟨#[104]⟩, 26)], ⟨#[]⟩⟩, ⟨10, true, [], ⟨#[]⟩⟩, ⟨18, false, [], ⟨#[]⟩⟩, ⟨26, false, [], ⟨#[]⟩⟩], [], [4]⟩
 | 6 => ⟨[⟨1, true, [(⟨#[100]⟩, 2), (⟨#[101]⟩, 10), (⟨#[102]⟩, 18), (⟨#[103]⟩, 18)], ⟨#[]⟩⟩, ⟨2, true, [(⟨#[104]⟩, 26)], ⟨#[]⟩⟩, ⟨10, true, [], ⟨#[]⟩⟩, ⟨18, false, [], ⟨#[]⟩⟩, ⟨26, false, [], ⟨#[]⟩⟩], [(0, 0, 18)], [4]⟩
 | _ => ⟨[⟨1, true, [(⟨#[100]⟩, 2), (⟨#[101]⟩, 10), (⟨#[102]⟩, 18), (⟨#[103]⟩, 18)], ⟨#[]⟩⟩, ⟨2, true, [(⟨#[104]⟩, 26)], ⟨#[]⟩⟩, ⟨10, true, [], ⟨#[]⟩⟩, ⟨18, false, [], ⟨#[48, 49, 50, 51, 52, 53, 54, 55, 56, 57]⟩⟩, ⟨26, false, [], ⟨#[]⟩⟩], [(0, 0, 18)], [4]⟩
theorem mb1_0 : mayB (mS1 0) = true := by kernel_rfl
theorem md1_0 : Bd (mS1 0) := bd_of (by kernel_rfl)
theorem mb1_1 : mayB (mS1 1) = true := by kernel_rfl
theorem md1_1 : Bd (mS1 1) := bd_of (by kernel_rfl)
theorem mb1_2 : mayB (mS1 2) = true := by kernel_rfl
theorem md1_2 : Bd (mS1 2) := bd_of (by kernel_rfl)
theorem mb1_3 : mayB (mS1 3) = true := by kernel_rfl
theorem md1_3 : Bd (mS1 3) := bd_of (by kernel_rfl)
theorem mb1_4 : mayB (mS1 4) = true := by kernel_rfl
theorem md1_4 : Bd (mS1 4) := bd_of (by kernel_rfl)
theorem mb1_5 : mayB (mS1 5) = true := by kernel_rfl
theorem md1_5 : Bd (mS1 5) := bd_of (by kernel_rfl)
theorem mb1_6 : mayB (mS1 6) = true := by kernel_rfl
theorem md1_6 : Bd (mS1 6) := bd_of (by kernel_rfl)
theorem mb1_7 : mayB (mS1 7) = true := by kernel_rfl
theorem md1_7 : Bd (mS1 7) := bd_of (by kernel_rfl)
theorem mk1_0 : DoM (calM 0) (mS1 0) (mS1 1) :=
 ⟨0, fun w p h => r_Do (calM 0) 0 fun W kW => r_do1 (h.kept kW) md1_0 (may_p mb1_0).2 (may_p mb1_0).1 (calM 0) rfl (i := 0) rfl (by decide) 0
  (inn_make1 md1_0 (wel_of mb1_0).clo (by decide +kernel) (calM 0) rfl (i := 0) rfl (by decide) (gm := 0) rfl (by decide) (by decide) (by decide) (by decide +kernel) (d := 1) (t := ⟨#[100]⟩) (by kernel_rfl) (k := 0) (by kernel_rfl) (by decide) rfl (by decide) (by decide +kernel) (by decide +kernel) (by kernel_rfl) (bt := bktN ⟨#[100]⟩) (by kernel_rfl) (by decide +kernel) (by kernel_rfl))⟩
theorem mk1_1 : DoM (calM 1) (mS1 1) (mS1 2) :=
 ⟨0, fun w p h => r_Do (calM 1) 0 fun W kW => r_do1 (h.kept kW) md1_1 (may_p mb1_1).2 (may_p mb1_1).1 (calM 1) rfl (i := 0) rfl (by decide) 0
  (inn_make1 md1_1 (wel_of mb1_1).clo (by decide +kernel) (calM 1) rfl (i := 0) rfl (by decide) (gm := 1) rfl (by decide) (by decide) (by decide) (by decide +kernel) (d := 1) (t := ⟨#[101]⟩) (by kernel_rfl) (k := 0) (by kernel_rfl) (by decide) rfl (by decide) (by decide +kernel) (by decide +kernel) (by kernel_rfl) (bt := bktN ⟨#[101]⟩) (by kernel_rfl) (by decide +kernel) (by kernel_rfl))⟩
theorem mk1_2 : DoM (calM 2) (mS1 2) (mS1 3) :=
 ⟨0, fun w p h => r_Do (calM 2) 0 fun W kW => r_do0 (h.kept kW) md1_2 (may_p mb1_2).2 (may_p mb1_2).1 (calM 2) rfl (i := 0) rfl (by decide) 0
  (inn_make0 md1_2 (wel_of mb1_2).clo (by decide +kernel) (calM 2) rfl (i := 0) rfl (by decide) (gm := 2) rfl (by decide) (by decide) (by decide) (by decide +kernel) (d := 1) (t := ⟨#[102]⟩) (by kernel_rfl) (k := 0) (by kernel_rfl) (by decide) rfl (by decide) (by decide +kernel) (by decide +kernel) (by kernel_rfl) (bt := bktN ⟨#[102]⟩) (by kernel_rfl) (by decide +kernel) (by kernel_rfl))⟩
theorem mk1_4 : DoM (calM 4) (mS1 4) (mS1 5) :=
 ⟨0, fun w p h => r_Do (calM 4) 0 fun W kW => r_do0 (h.kept kW) md1_4 (may_p mb1_4).2 (may_p mb1_4).1 (calM 4) rfl (i := 0) rfl (by decide) 0
  (inn_make0 md1_4 (wel_of mb1_4).clo (by decide +kernel) (calM 4) rfl (i := 0) rfl (by decide) (gm := 3) rfl (by decide) (by decide) (by decide) (by decide +kernel) (d := 2) (t := ⟨#[104]⟩) (by kernel_rfl) (k := 1) (by kernel_rfl) (by decide) rfl (by decide) (by decide +kernel) (by decide +kernel) (by kernel_rfl) (bt := bktN ⟨#[104]⟩) (by kernel_rfl) (by decide +kernel) (by kernel_rfl))⟩
theorem mk1_3 : DoM (calM 3) (mS1 3) (mS1 4) :=
 ⟨0, fun w p h => r_Do (calM 3) 0 fun W kW => r_do8 (h.kept kW) md1_3 (may_p mb1_3).2 (may_p mb1_3).1 (calM 3) rfl (i := 0) rfl (by decide) 0
  (inn_names (calM 3) (inn_link md1_3 (by decide) (wel_of mb1_3).clo (by decide +kernel) (calM 3) rfl (num := 18) (f := 3) (by kernel_rfl) (by kernel_rfl) (by decide) rfl (d := 1) (t := ⟨#[103]⟩) (by kernel_rfl) (k := 0) (by kernel_rfl) (by decide) rfl (by decide) (by decide +kernel) (by decide +kernel) (by kernel_rfl) (bt := bktN ⟨#[103]⟩) (by kernel_rfl) (by decide +kernel) (by kernel_rfl)))⟩
theorem mk1_5 : DoM (calM 5) (mS1 5) (mS1 6) :=
 ⟨0, fun w p h => r_Do (calM 5) 0 fun W kW => r_do2 (h.kept kW) md1_5 (may_p mb1_5).2 (may_p mb1_5).1 (calM 5) rfl (i := 0) rfl (by decide) 0
  (inn_open md1_5 (by decide) (wel_of mb1_5).clo (by decide +kernel) (calM 5) rfl (i := 0) rfl (num := 18) (k := 3) (by kernel_rfl) (by kernel_rfl) (by decide) rfl (by kernel_rfl))⟩
theorem mk1_6 : DoM (calM 6) (mS1 6) (mS1 7) :=
 ⟨10, fun w p h => r_Do (calM 6) 10 fun W kW => r_do5 (h.kept kW) md1_6 (may_p mb1_6).2 (may_p mb1_6).1 (calM 6) rfl (i := 0) rfl (by decide) 10
  (inn_write md1_6 (calM 6) rfl (i := 0) rfl (num := 18) (by kernel_rfl) (by decide) (k := 3) (by kernel_rfl) (by decide) rfl (a := 0) rfl (by decide) (by decide +kernel) (by decide) (by kernel_rfl))⟩
theorem l_made1 {w : World} : Calls Tryz.prog 8 #[.int .i64 1] w fun e w' => ∃ v1 v2 v3 ev, e = .returned (.agg #[v1, v2, v3]) ∧ Os w' w.heap.size v1 v2 v3 ev (mS1 7) ∧ Kept [] w w' := by
 refine r_made 1 mS1 (fun W => (r_New (n := 1) (by decide) (by decide)).mono ?_) ?_ ?_
 ·
  rintro e w' ⟨u1, u2, u3, eu, rfl, ho, k, -⟩
  exact ⟨u1, u2, u3, eu, rfl, ho, k⟩
 ·
  intro j hj
  have hc : j = 0 ∨ j = 1 ∨ j = 2 ∨ j = 3 ∨ j = 4 ∨ j = 5 ∨ j = 6 := by omega
  rcases hc with rfl | rfl | rfl | rfl | rfl | rfl | rfl
  · exact md1_0
  · exact md1_1
  · exact md1_2
  · exact md1_3
  · exact md1_4
  · exact md1_5
  · exact md1_6
 ·
  intro j hj
  have hc : j = 0 ∨ j = 1 ∨ j = 2 ∨ j = 3 ∨ j = 4 ∨ j = 5 ∨ j = 6 := by omega
  rcases hc with rfl | rfl | rfl | rfl | rfl | rfl | rfl
  · exact mk1_0
  · exact mk1_1
  · exact mk1_2
  · exact mk1_3
  · exact mk1_4
  · exact mk1_5
  · exact mk1_6
theorem formsL {w : World} {H : Nat} {v1 v2 v3 : Value} {ev : List Value} {S : Sta} (h : Os w H v1 v2 v3 ev S) (a b c : Nat) (ha : S.ino.length = a) (hb : S.opn.length = b) (hc : S.made.length = c) : ∃ p m q n r t, v1 = .slice p a m ∧ v2 = .slice q b n ∧ v3 = .slice r c t := by
 subst ha hb hc
 obtain ⟨p, m, hu, -⟩ := row_form h.ino
 obtain ⟨q, n, hv, -⟩ := row_form h.opn
 obtain ⟨r, t, hw, -⟩ := row_form h.mad
 exact ⟨p, m, q, n, r, t, hu, hv, hw⟩
end Go.Proofs.YtffncojcnbhblaaGreatDoor
