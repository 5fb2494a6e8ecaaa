/-
  Joined of my texts Deep Fo Kv Kw Kx.
-/
import Derived.Test.YtmeafancgmkfkaaGreatDoorJf44
import Derived.Test.YtmeafancgmkfkaaGreatDoorJf3
import Derived.Test.YtmeafancgmkfkaaGreatDoorJf26
import Derived.Test.YtmeafancgmkfkaaGreatDoorJf37
import Derived.Test.YtmeafancgmkfkaaGreatDoorJf42
namespace Go.Proofs.YtmeafancgmkfkaaGreatDoor
open Go.RowKit
set_option linter.unusedVariables false
set_option linter.unusedSimpArgs false
theorem off_new {w : World} {H : Nat} {v1 v2 v3 : Value} {ev : List Value} {S : Sta} (h : Os w H v1 v2 v3 ev S) {X : Nat} (hX : w.heap.size ≤ X) : Off [X] v1 v2 v3 ev := by
 refine off_of ⟨fun e => ?_, fun e => ?_, fun e => ?_, fun v hv e => ?_⟩
 · have := (h.ino.lt X e).2; omega
 · have := (h.opn.lt X e).2; omega
 · have := (h.mad.lt X e).2; omega
 · obtain ⟨j, hj, rfl⟩ := List.getElem_of_mem hv
   have := ((h.ent j (by rw [← h.evl]; exact hj) hj).lt X e).2
   omega
theorem cells3D {w : World} {X : Nat} {v1 v2 v3 : Value} {T : TypeId} (h : w.heap[X]? = some (.cells #[v1, v2, v3] T (0, 0))) : w.cell? ⟨X, 0, none⟩ = some v1 ∧ w.cell? ⟨X, 1, none⟩ = some v2 ∧ w.cell? ⟨X, 2, none⟩ = some v3 := ⟨cellB h, cellB h, cellB h⟩
theorem forms3 {w : World} {H : Nat} {v1 v2 v3 : Value} {ev : List Value} {S : Sta} (h : Os w H v1 v2 v3 ev S) (a b c : Nat) (ha : S.ino.length = a) (hb : S.opn.length = b) (hc : S.made.length = c) : ∃ p m q n r t, v1 = .slice p a m ∧ v2 = .slice q b n ∧ v3 = .slice r c t := by
 subst ha hb hc
 obtain ⟨p, m, hu, -⟩ := row_form h.ino
 obtain ⟨q, n, hv, -⟩ := row_form h.opn
 obtain ⟨r, t, hw, -⟩ := row_form h.mad
 have e1 := h.evl
 exact ⟨p, m, q, n, r, t, by simpa [e1] using hu, by simpa [e1] using hv, by simpa [e1] using hw⟩
theorem off_lt {w : World} {H : Nat} {v1 v2 v3 : Value} {ev : List Value} {S : Sta} (h : Os w H v1 v2 v3 ev S) {X : Nat} (hX : X < H) : Off [X] v1 v2 v3 ev := by
 refine off_of ⟨fun e => ?_, fun e => ?_, fun e => ?_, fun v hv e => ?_⟩
 · have := (h.ino.lt X e).1; omega
 · have := (h.opn.lt X e).1; omega
 · have := (h.mad.lt X e).1; omega
 · obtain ⟨j, hj, rfl⟩ := List.getElem_of_mem hv
   have := ((h.ent j (by rw [← h.evl]; exact hj) hj).lt X e).1
   omega
structure Hb (w0 w : World) (X : Nat) (v1 v2 v3 : Value) (ev : List Value) (S : Sta) : Prop where
 box : w.heap[X]? = some (.cells #[v1, v2, v3] 26 (0, 0))
 os : Os w w0.heap.size v1 v2 v3 ev S
 off : Off [X] v1 v2 v3 ev
 lo : w0.heap.size ≤ X
 k : Kept [] w0 w
theorem Hb.kept {w0 w w' : World} {X : Nat} {v1 v2 v3 : Value} {ev : List Value} {S : Sta} (h : Hb w0 w X v1 v2 v3 ev S) (k : Kept [] w w') : Hb w0 w' X v1 v2 v3 ev S :=
 ⟨(k.block _ (lt_of_heap h.box) (by simp)).trans h.box, h.os.kept k, h.off, h.lo, h.k.trans k (by simp)⟩
theorem Hb.put {w0 w : World} {X : Nat} {v1 v2 v3 u1 u2 u3 : Value} {ev eu : List Value} {S S' : Sta} (h : Hb w0 w X v1 v2 v3 ev S) (ho : Os w w0.heap.size u1 u2 u3 eu S') (hx : Off [X] u1 u2 u3 eu) : Hb w0 (laidS w X u1 u2 u3) X u1 u2 u3 eu S' :=
 ⟨block_sta h.box _ _ _, ho.keep (F := [X]) ((((Kept.refl [X] w).setCell (Or.inl (by simp)) _).setCell (Or.inl (by simp)) _).setCell (Or.inl (by simp)) _) hx, hx, h.lo, kept_sta h.k h.lo _ _ _⟩
theorem Hb.new {w0 w : World} {v1 v2 v3 : Value} {ev : List Value} {S : Sta} (k : Kept [] w0 w) (ho : Os w w0.heap.size v1 v2 v3 ev S) {W : World} {X : Nat} (hW : w.alloc (.cells #[v1, v2, v3] 26 (0, 0)) = W ∧ w.heap.size = X) : Hb w0 W X v1 v2 v3 ev S := by
 obtain ⟨rfl, rfl⟩ := hW
 have kk : Kept [] w (w.alloc (.cells #[v1, v2, v3] 26 (0, 0))) := (Kept.refl [] w).alloc _
 exact ⟨Go.heap_alloc_new _ _, ho.kept kk, off_new ho (Nat.le_refl _), k.size, k.trans kk (by simp)⟩
theorem Hb.beside {w0 w : World} {X : Nat} {v1 v2 v3 : Value} {ev : List Value} {S : Sta} (h : Hb w0 w X v1 v2 v3 ev S) {Z : Nat} (hZ : w0.heap.size ≤ Z) (hX : X ≠ Z) (ho : Off [Z] v1 v2 v3 ev) (i : Nat) (v : Value) : Hb w0 (w.setCell ⟨Z, i, none⟩ v) X v1 v2 v3 ev S :=
 ⟨by rw [block_other hX]; exact h.box, h.os.keep kept_set ho, h.off, h.lo, h.k.setCell (Or.inr hZ) v⟩
end Go.Proofs.YtmeafancgmkfkaaGreatDoor

namespace Go.Proofs.YtmeafancgmkfkaaGreatDoor
open Go.RowKit
set_option linter.unusedVariables false
inductive Rch (L : List Ino) : Int → Prop
 | root : Rch L 1
 | kid {y z : Int} : Rch L y → z ∈ kids L y → Rch L z
theorem nodup_len {A B : List Int} (hn : A.Nodup) (hs : ∀ x ∈ A, x ∈ B) : A.length ≤ B.length := List.Nodup.length_le_of_subset hn hs
def Jc (L : List Ino) (n : Nat) (F : List Int) : Prop := ∀ i, i < n → ∀ y, F[i]? = some y → ∀ z ∈ kids L y, z ∈ F
theorem bfs_spec {L : List Ino} (h : Tr L) : ∀ (f n : Nat) (F : List Int), Jf L n F → Jc L n F → (∀ z ∈ F, Rch L z) → L.length + 1 ≤ f + n →
   ∃ G, bfs L f n F = G ∧ Jf L G.length G ∧ Jc L G.length G ∧ (∀ z ∈ G, Rch L z)
 | 0, n, F, j, c, r, hf => by
   exfalso
   have h1 := j.few
   have h2 := j.le
   omega
 | f + 1, n, F, j, c, r, hf => by
   by_cases hn : n < F.length
   · have hy : F[n]? = some F[n] := List.getElem?_eq_getElem hn
     rw [bfs_on hy]
     refine bfs_spec h f (n + 1) _ (j.step h hy) ?_ ?_ (by omega)
     · intro i hi y hi2 z hz
       by_cases e : i = n
       · subst e
         rw [List.getElem?_append_left hn, hy] at hi2
         obtain rfl := Option.some.inj hi2
         exact List.mem_append_right _ hz
       · have hiF : i < F.length := by omega
         rw [List.getElem?_append_left hiF] at hi2
         exact List.mem_append_left _ (c i (by omega) y hi2 z hz)
     · intro z hz
       rw [List.mem_append] at hz
       rcases hz with h1 | h1
       · exact r z h1
       · exact Rch.kid (r _ (List.getElem_mem hn)) h1
   · rw [bfs_end (by omega)]
     have e : n = F.length := by have := j.le; omega
     subst e
     exact ⟨F, rfl, j, c, r⟩
def dirNums (L : List Ino) : List Int := (L.filter Ino.dir).map Ino.num
theorem mem_dirNums {L : List Ino} (h : adj ltI L = true) {z : Int} : z ∈ dirNums L ↔ dirOf L z = true := by
 unfold dirNums
 rw [List.mem_map]
 constructor
 · rintro ⟨x, hx, rfl⟩
   rw [List.mem_filter] at hx
   obtain ⟨k, hk, rfl⟩ := List.getElem_of_mem hx.1
   unfold dirOf
   rw [at_num h hk]
   simp [hk, hx.2]
 · intro hd
   obtain ⟨k, hk, -, hn, hdd⟩ := dir_at hd
   exact ⟨L[k], List.mem_filter.2 ⟨List.getElem_mem hk, hdd⟩, hn⟩
theorem found_iff {L : List Ino} (h : Tr L) : foundB L = true ↔ ∀ z, dirOf L z = true → Rch L z := by
 obtain ⟨G, hG, j, c, r⟩ := bfs_spec h (L.length + 1) 0 [1] (Jf.start h) (fun i hi => by omega) (fun z hz => by rw [List.mem_singleton] at hz; subst hz; exact Rch.root) (by omega)
 have one : (1 : Int) ∈ G := List.mem_of_getElem? j.hd
 have comp : ∀ z, Rch L z → z ∈ G := fun z hz => by
   induction hz with
   | root => exact one
   | kid hy hk ih =>
     obtain ⟨i, hi, e⟩ := List.getElem_of_mem ih
     exact c i hi _ (by rw [List.getElem?_eq_getElem hi, e]) _ hk
 have hl : dirN L = (dirNums L).length := by unfold dirN dirNums; rw [List.length_map, List.countP_eq_length_filter]
 unfold foundB
 rw [hG, beq_iff_eq, hl]
 constructor
 · intro e z hz
   rcases Classical.em (z ∈ G) with h1 | h1
   · exact r z h1
   · exfalso
     have hn : (z :: G).Nodup := List.nodup_cons.2 ⟨h1, j.nd⟩
     have := nodup_len hn (B := dirNums L) fun x hx => by
       rcases List.mem_cons.1 hx with rfl | h2
       · exact (mem_dirNums h.row).2 hz
       · exact (mem_dirNums h.row).2 (j.dr x h2)
     rw [List.length_cons] at this
     omega
 · intro hr
   have h1 := nodup_len j.nd (B := dirNums L) fun x hx => (mem_dirNums h.row).2 (j.dr x hx)
   have hnd : (dirNums L).Nodup := by
     unfold dirNums
     rw [List.nodup_iff_pairwise_ne, List.pairwise_map]
     have hp : L.Pairwise fun a b => a.num ≠ b.num := by
       rw [List.pairwise_iff_getElem]
       intro i k hi hk hik e
       have := adj_lt h.row i k hi hk hik
       omega
     exact hp.sublist List.filter_sublist
   have h2 := nodup_len hnd (B := G) fun x hx => comp x (hr x ((mem_dirNums h.row).1 hx))
   omega
end Go.Proofs.YtmeafancgmkfkaaGreatDoor

namespace Go.Proofs.YtmeafancgmkfkaaGreatDoor
open Go.RowKit
set_option linter.unusedVariables false
def look (L : List Ino) (z : Int) : Option Ino := (atR L z).bind fun k => L[k]?
theorem look_mem {L : List Ino} (h : adj ltI L = true) {z : Int} {x : Ino} : look L z = some x ↔ x ∈ L ∧ x.num = z := by
 unfold look
 constructor
 · intro e
   rcases ha : atR L z with _ | k
   · rw [ha] at e; cases e
   · rw [ha] at e
     obtain ⟨hk, hn⟩ := at_get ha
     simp only [Option.bind_some, List.getElem?_eq_getElem hk, Option.some.injEq] at e
     subst e
     exact ⟨List.getElem_mem hk, hn⟩
 · rintro ⟨hx, rfl⟩
   obtain ⟨k, hk, rfl⟩ := List.getElem_of_mem hx
   rw [at_num h hk]
   simp [hk]
theorem look_dir (L : List Ino) (z : Int) : dirOf L z = ((look L z).map Ino.dir).getD false := by
 unfold dirOf look
 rcases ha : atR L z with _ | k
 · rfl
 · obtain ⟨hk, -⟩ := at_get ha
   simp [hk]
theorem look_ents (L : List Ino) (z : Int) : entsOf L z = ((look L z).map Ino.ents).getD [] := by
 unfold entsOf look
 rcases ha : atR L z with _ | k
 · rfl
 · obtain ⟨hk, -⟩ := at_get ha
   simp [hk]
structure Vw (S : Sta) : Prop where
 made : madeB S.made = true
 row : adj ltI S.ino = true
 root : ∃ x, S.ino[0]? = some x ∧ x.num = 1 ∧ x.dir = true
 gv : ∀ x ∈ S.ino, x.num ≠ 1 → 2 ≤ x.num ∧ givenB S.made x.num = true
 ino : ∀ x ∈ S.ino, inoB S.ino x = true
 opn : adj ltD S.opn = true
 des : ∀ d ∈ S.opn, desB S d = true
 held : ∀ x ∈ S.ino, x.num ≠ 1 → helB S x = true
 fnd : ∀ z, dirOf S.ino z = true → Rch S.ino z
theorem may_view {S : Sta} : mayB S = true ↔ Vw S := by
 constructor
 · intro h
   have hw := wel_of h
   obtain ⟨hM, hN, hI, hO, hH, hF⟩ := may_iff.1 h
   obtain ⟨h0, n0, d0, ha, hg⟩ := nums_iff.1 hN
   unfold opensB at hO
   rw [Bool.and_eq_true] at hO
   have tl : ∀ x ∈ S.ino, x.num ≠ 1 → ∃ j, ∃ hj : j + 1 < S.ino.length, x = S.ino[j + 1] := fun x hx hn => by
     obtain ⟨k, hk, rfl⟩ := List.getElem_of_mem hx
     cases k with
     | zero => exact absurd n0 hn
     | succ j => exact ⟨j, hk, rfl⟩
   refine ⟨hM, ha, ⟨S.ino[0], List.getElem?_eq_getElem h0, n0, d0⟩, fun x hx hn => ?_, fun x hx => List.all_eq_true.1 hI x hx, hO.1, fun d hd => List.all_eq_true.1 hO.2 d hd, fun x hx hn => ?_, (found_iff hw.tr).1 hF⟩
   · obtain ⟨j, hj, rfl⟩ := tl x hx hn
     have := adj_lt ha 0 (j + 1) h0 hj (by omega)
     exact ⟨by omega, hg j hj⟩
   · obtain ⟨j, hj, rfl⟩ := tl x hx hn
     exact (held_iff.1 hH) j hj
 · intro v
   obtain ⟨x0, hx0, n0, d0⟩ := v.root
   obtain ⟨h0, e0⟩ := List.getElem?_eq_some_iff.1 hx0
   subst e0
   have ne : ∀ j (hj : j + 1 < S.ino.length), (S.ino[j + 1]).num ≠ 1 := fun j hj e => by
     have := adj_lt v.row 0 (j + 1) h0 hj (by omega)
     omega
   have hN : numsB S.ino S.made = true := nums_iff.2 ⟨h0, n0, d0, v.row, fun j hj => (v.gv _ (List.getElem_mem hj) (ne j hj)).2⟩
   have hI : inosB S.ino = true := List.all_eq_true.2 v.ino
   have hH : heldB S = true := held_iff.2 fun j hj => v.held _ (List.getElem_mem hj) (ne j hj)
   have hO : opensB S = true := by unfold opensB; rw [Bool.and_eq_true]; exact ⟨v.opn, List.all_eq_true.2 v.des⟩
   exact may_iff.2 ⟨v.made, hN, hI, hO, hH, (found_iff (tr_of hN hI hH)).2 v.fnd⟩
theorem cnt_append (A B : List En) (z : Int) : cnt (A ++ B) z = cnt A z + cnt B z := by unfold cnt; rw [List.countP_append]
theorem cnt_ins (E : List En) (e : En) (z : Int) : cnt (insR ltE E e) z = cnt E z + if e.2 = z then 1 else 0 := by
 unfold insR
 have h : cnt E z = cnt (E.take (whereR ltE E e)) z + cnt (E.drop (whereR ltE E e)) z := by rw [← cnt_append, List.take_append_drop]
 have h1 : cnt (e :: E.drop (whereR ltE E e)) z = cnt (E.drop (whereR ltE E e)) z + if e.2 = z then 1 else 0 := by
   unfold cnt
   rw [List.countP_cons]
   by_cases c : e.2 = z
   · simp [c]
   · simp [c]
 rw [cnt_append, h1, h]
 omega
theorem entN_append (A B : List Ino) (z : Int) : entN (A ++ B) z = entN A z + entN B z := by unfold entN; rw [List.map_append, List.sum_append]
theorem entN_ins (L : List Ino) (x : Ino) (z : Int) : entN (insR ltI L x) z = entN L z + cnt x.ents z := by
 unfold insR
 have h : entN L z = entN (L.take (whereR ltI L x)) z + entN (L.drop (whereR ltI L x)) z := by rw [← entN_append, List.take_append_drop]
 have h1 : entN (x :: L.drop (whereR ltI L x)) z = entN (L.drop (whereR ltI L x)) z + cnt x.ents z := by unfold entN; rw [List.map_cons, List.sum_cons]; omega
 rw [entN_append, h1, h]
 omega
theorem entN_set : ∀ (L : List Ino) (k : Nat) (hk : k < L.length) (y : Ino) (z : Int), entN (L.set k y) z + cnt (L[k]).ents z = entN L z + cnt y.ents z
 | x :: l, 0, _, y, z => by simp only [List.set_cons_zero, List.getElem_cons_zero]; unfold entN; rw [List.map_cons, List.map_cons, List.sum_cons, List.sum_cons]; omega
 | x :: l, k + 1, hk, y, z => by
   have := entN_set l k (by simpa using hk) y z
   simp only [List.set_cons_succ, List.getElem_cons_succ]
   unfold entN at this ⊢
   rw [List.map_cons, List.map_cons, List.sum_cons, List.sum_cons]
   omega
theorem mem_ins {α : Type} {f : α → α → Bool} {L : List α} {x y : α} : y ∈ insR f L x ↔ y = x ∨ y ∈ L := by
 unfold insR
 rw [List.mem_append, List.mem_cons]
 have : y ∈ L ↔ y ∈ L.take (whereR f L x) ∨ y ∈ L.drop (whereR f L x) := by rw [← List.mem_append, List.take_append_drop]
 rw [this]
 constructor
 · rintro (h | h | h)
   · exact Or.inr (Or.inl h)
   · exact Or.inl h
   · exact Or.inr (Or.inr h)
 · rintro (h | h | h)
   · exact Or.inr (Or.inl h)
   · exact Or.inl h
   · exact Or.inr (Or.inr h)
theorem adj_ins {α : Type} {f : α → α → Bool} {L : List α} {x : α} (ht : ∀ a b c, f a b = true → f b c = true → f a c = true) (h : adj f L = true) (hx : ∀ y ∈ L, f y x = false → f x y = true) : adj f (insR f L x) = true := by
 have hp : L.Pairwise fun a b => f a b = true := by
   rw [List.pairwise_iff_getElem]
   exact fun i j hi hj hij => adj_all ht h i j hi hj hij
 have hq : (insR f L x).Pairwise fun a b => f a b = true := by
   unfold insR
   have hsp : (L.take (whereR f L x) ++ L.drop (whereR f L x)).Pairwise fun a b => f a b = true := by rw [List.take_append_drop]; exact hp
   rw [List.pairwise_append] at hsp ⊢
   have ahead : ∀ a ∈ L.take (whereR f L x), f a x = true := fun a ha => by
     obtain ⟨i, hi, rfl⟩ := List.getElem_of_mem ha
     rw [List.length_take] at hi
     rw [List.getElem_take]
     have : i < L.findIdx fun y => !(f y x) := by unfold whereR at hi; omega
     have := List.not_of_lt_findIdx this
     simpa using this
   have behind : ∀ b ∈ L.drop (whereR f L x), f x b = true := fun b hb => by
     have hbL := List.mem_of_mem_drop hb
     refine hx b hbL ?_
     rcases hfb : f b x with _ | _
     · rfl
     · exfalso
       have hlen : whereR f L x < L.length := by
         rcases Nat.lt_or_ge (whereR f L x) L.length with h1 | h1
         · exact h1
         · rw [List.drop_of_length_le h1] at hb; cases hb
       have h0 : f (L[whereR f L x]'hlen) x = false := by
         have h9 : (!(f (L[L.findIdx fun y => !(f y x)]'hlen) x)) = true := List.findIdx_getElem (w := hlen) (p := fun y => !(f y x)) (xs := L)
         have h8 : (!(f (L[whereR f L x]'hlen) x)) = true := h9
         simpa using h8
       obtain ⟨i, hi, rfl⟩ := List.getElem_of_mem hb
       rw [List.getElem_drop] at hfb
       by_cases e : i = 0
       · subst e
         simp only [Nat.add_zero] at hfb
         rw [h0] at hfb
         cases hfb
       · rw [List.length_drop] at hi
         have := adj_all ht h (whereR f L x) (whereR f L x + i) hlen (by omega) (by omega)
         rw [ht _ _ _ this hfb] at h0
         cases h0
   refine ⟨hsp.1, List.pairwise_cons.2 ⟨behind, hsp.2.1⟩, fun a ha b hb => ?_⟩
   rcases List.mem_cons.1 hb with rfl | hb
   · exact ahead a ha
   · exact hsp.2.2 a ha b hb
 rw [adj_iff]
 intro j hj
 exact List.pairwise_iff_getElem.1 hq j (j + 1) (by omega) hj (by omega)
end Go.Proofs.YtmeafancgmkfkaaGreatDoor

namespace Go.Proofs.YtmeafancgmkfkaaGreatDoor
open Go.RowKit
set_option linter.unusedVariables false
def bare (x : Ino) : Int × Bool × List En := (x.num, x.dir, x.ents)
def Alike (L L' : List Ino) : Prop := L.map bare = L'.map bare
theorem Alike.len {L L' : List Ino} (h : Alike L L') : L.length = L'.length := by
 have := congrArg List.length h
 simpa using this
theorem Alike.get {L L' : List Ino} (h : Alike L L') {k : Nat} (hk : k < L.length) (hk' : k < L'.length) : (L[k]).num = (L'[k]).num ∧ (L[k]).dir = (L'[k]).dir ∧ (L[k]).ents = (L'[k]).ents := by
 have e := congrArg (fun l => l[k]?) h
 simp only [List.getElem?_map, List.getElem?_eq_getElem hk, List.getElem?_eq_getElem hk', Option.map_some, Option.some.injEq] at e
 exact ⟨congrArg (fun t => t.1) e, congrArg (fun t => t.2.1) e, congrArg (fun t => t.2.2) e⟩
theorem at_bare (L : List Ino) (z : Int) : atR L z = (L.map bare).findIdx? fun t => t.1 == z := by
 unfold atR
 rw [List.findIdx?_map]
 rfl
theorem Alike.at {L L' : List Ino} (h : Alike L L') (z : Int) : atR L z = atR L' z := by rw [at_bare, at_bare, h]
theorem Alike.dirOf {L L' : List Ino} (h : Alike L L') (z : Int) : dirOf L z = dirOf L' z := by
 rw [look_dir, look_dir]
 unfold look
 rw [h.at z]
 rcases ha : atR L' z with _ | k
 · rfl
 · obtain ⟨hk', -⟩ := at_get ha
   have hk : k < L.length := by rw [h.len]; exact hk'
   simp [hk, hk', (h.get hk hk').2.1]
theorem Alike.entsOf {L L' : List Ino} (h : Alike L L') (z : Int) : entsOf L z = entsOf L' z := by
 rw [look_ents, look_ents]
 unfold look
 rw [h.at z]
 rcases ha : atR L' z with _ | k
 · rfl
 · obtain ⟨hk', -⟩ := at_get ha
   have hk : k < L.length := by rw [h.len]; exact hk'
   simp [hk, hk', (h.get hk hk').2.2]
theorem Alike.kids {L L' : List Ino} (h : Alike L L') (z : Int) : kids L z = kids L' z := by
 unfold Go.Proofs.YtmeafancgmkfkaaGreatDoor.kids kidsE
 rw [h.entsOf z]
 congr 1
 refine List.filter_congr fun e _ => ?_
 exact h.dirOf e.2
theorem Alike.rch {L L' : List Ino} (h : Alike L L') {z : Int} (r : Rch L z) : Rch L' z := by
 induction r with
 | root => exact Rch.root
 | kid _ hz ih => exact Rch.kid ih (by rw [← h.kids]; exact hz)
theorem Alike.entN {L L' : List Ino} (h : Alike L L') (z : Int) : entN L z = entN L' z := by
 have e : ∀ M : List Ino, Go.Proofs.YtmeafancgmkfkaaGreatDoor.entN M z = ((M.map bare).map fun t => cnt t.2.2 z).sum := fun M => by
   unfold Go.Proofs.YtmeafancgmkfkaaGreatDoor.entN
   rw [List.map_map]
   rfl
 rw [e, e, h]
theorem Alike.adj {L L' : List Ino} (h : Alike L L') (ha : adj ltI L = true) : adj ltI L' = true := by
 rw [adj_iff] at ha ⊢
 intro j hj
 have hl := h.len
 have h1 := ha j (by omega)
 have g0 := h.get (k := j) (by omega) (by omega)
 have g1 := h.get (k := j + 1) (by omega) hj
 unfold ltI at h1 ⊢
 rw [← g0.1, ← g1.1]
 exact h1
theorem Alike.mem {L L' : List Ino} (h : Alike L L') {x' : Ino} (hx : x' ∈ L') : ∃ x ∈ L, x.num = x'.num ∧ x.dir = x'.dir ∧ x.ents = x'.ents := by
 obtain ⟨k, hk', rfl⟩ := List.getElem_of_mem hx
 have hk : k < L.length := by rw [h.len]; exact hk'
 exact ⟨L[k], List.getElem_mem hk, h.get hk hk'⟩
theorem Alike.entsB {L L' : List Ino} (h : Alike L L') (E : List En) : entsB L E = entsB L' E := by
 have : entB L = entB L' := funext fun e => by unfold entB; rw [h.at]
 unfold Go.Proofs.YtmeafancgmkfkaaGreatDoor.entsB
 rw [this]
theorem Vw.alike {S : Sta} (v : Vw S) {L' : List Ino} (h : Alike S.ino L') (hd : ∀ x ∈ L', if x.dir then x.data.toList.isEmpty = true else x.data.size ≤ 256) : Vw ⟨L', S.opn, S.made⟩ := by
 refine ⟨v.made, h.adj v.row, ?_, fun x hx hn => ?_, fun x hx => ?_, v.opn, fun d hq => ?_, fun x hx hn => ?_, fun z hz => ?_⟩
 · obtain ⟨x, hx, n1, d1⟩ := v.root
   obtain ⟨h0, rfl⟩ := List.getElem?_eq_some_iff.1 hx
   have h0' : 0 < L'.length := by rw [← h.len]; exact h0
   obtain ⟨e1, e2, -⟩ := h.get h0 h0'
   exact ⟨L'[0], List.getElem?_eq_getElem h0', by rw [← e1]; exact n1, by rw [← e2]; exact d1⟩
 · obtain ⟨y, hy, e1, -, -⟩ := h.mem hx
   have := v.gv y hy (by rw [e1]; exact hn)
   rw [e1] at this
   exact this
 · obtain ⟨y, hy, e1, e2, e3⟩ := h.mem hx
   have g := v.ino y hy
   have q := hd x hx
   unfold inoB at g ⊢
   rw [e2, e3] at g
   cases hxd : x.dir with
   | true =>
     rw [hxd] at g q
     simp only [if_true, Bool.and_eq_true] at g q ⊢
     exact ⟨q, by rw [← h.entsB]; exact g.2⟩
   | false =>
     rw [hxd] at g q
     simp only [Bool.false_eq_true, if_false, Bool.and_eq_true, decide_eq_true_eq] at g q ⊢
     exact ⟨g.1, q⟩
 · have g := v.des d hq
   unfold desB at g ⊢
   dsimp only
   rw [← h.at]
   rw [Bool.and_eq_true] at g ⊢
   refine ⟨g.1, ?_⟩
   have g2 := g.2
   rcases ha : atR S.ino d.2.2 with _ | k
   · rw [ha] at g2; exact g2
   · rw [ha] at g2
     obtain ⟨hk, -⟩ := at_get ha
     have hk' : k < L'.length := by rw [← h.len]; exact hk
     have e2 := (h.get hk hk').2.1
     simp only [List.getElem?_eq_getElem hk, List.getElem?_eq_getElem hk'] at g2 ⊢
     simpa [e2] using g2
 · obtain ⟨y, hy, e1, e2, -⟩ := h.mem hx
   have g := v.held y hy (by rw [e1]; exact hn)
   unfold helB at g ⊢
   rw [e1, e2] at g
   dsimp only
   rw [← h.entN]
   exact g
 · have hz' : Go.Proofs.YtmeafancgmkfkaaGreatDoor.dirOf S.ino z = true := by rw [h.dirOf]; exact hz
   exact h.rch (v.fnd z hz')
theorem alike_set (L : List Ino) {k : Nat} (hk : k < L.length) (y : Ino) (hy : bare y = bare L[k]) : Alike L (L.set k y) := by
 unfold Alike
 rw [List.map_set, hy]
 have : bare L[k] = (L.map bare)[k]'(by simpa using hk) := by simp
 rw [this, List.set_getElem_self]
theorem Vw.data {S : Sta} (v : Vw S) {k : Nat} (hk : k < S.ino.length) (hf : (S.ino[k]).dir = false) {d : ByteArray} (hd : d.size ≤ 256) : Vw (setD S k hk d) := by
 refine v.alike (alike_set S.ino hk (withD (S.ino[k]) d) rfl) fun x hx => ?_
 rcases List.mem_or_eq_of_mem_set hx with h1 | rfl
 · have g := v.ino x h1
   unfold inoB at g
   cases hxd : x.dir with
   | true => rw [hxd] at g; simp only [if_true, Bool.and_eq_true] at g ⊢; exact g.1
   | false => rw [hxd] at g; simp only [Bool.false_eq_true, if_false, Bool.and_eq_true, decide_eq_true_eq] at g ⊢; exact g.2
 · have : (withD (S.ino[k]) d).dir = false := hf
   rw [this]
   simp only [Bool.false_eq_true, if_false]
   exact hd
end Go.Proofs.YtmeafancgmkfkaaGreatDoor

namespace Go.Proofs.YtmeafancgmkfkaaGreatDoor
open Go.RowKit
set_option linter.unusedVariables false
theorem fd_get {D : List Ds} {c f : Int} {j : Nat} (h : fdP D c f = some j) : ∃ hj : j < D.length, (D[j]).1 = c ∧ (D[j]).2.1 = f := by
 unfold fdP at h
 rw [List.findIdx?_eq_some_iff_getElem] at h
 obtain ⟨hj, h1, -⟩ := h
 simp only [Bool.and_eq_true, beq_iff_eq] at h1
 exact ⟨hj, h1⟩
theorem des_file {S : Sta} {d : Ds} (h : desB S d = true) : ∃ k, atR S.ino d.2.2 = some k ∧ ∃ hk : k < S.ino.length, (S.ino[k]).dir = false := by
 unfold desB at h
 rw [Bool.and_eq_true] at h
 have h2 := h.2
 rcases ha : atR S.ino d.2.2 with _ | k
 · rw [ha] at h2; cases h2
 · obtain ⟨hk, -⟩ := at_get ha
   rw [ha] at h2
   exact ⟨k, rfl, hk, by simpa [hk] using h2⟩
theorem Vw.file {S : Sta} (v : Vw S) {c : Cal} {k : Nat} (h : fileR S c = .ok k) : ∃ hk : k < S.ino.length, (S.ino[k]).dir = false := by
 unfold fileR at h
 rcases hf : fdP S.opn c.core c.fd with _ | j
 · rw [hf] at h; cases h
 · rw [hf] at h
   obtain ⟨hj, -, -⟩ := fd_get hf
   have e : desNum S.opn j = (S.opn[j]).2.2 := by unfold desNum; simp [hj]
   obtain ⟨k', ha, hk, hd⟩ := des_file (v.des _ (List.getElem_mem hj))
   simp only [e, ha] at h
   cases h
   exact ⟨hk, hd⟩
theorem data_small {S : Sta} (v : Vw S) {k : Nat} (hk : k < S.ino.length) (hd : (S.ino[k]).dir = false) : (dataAt S k).size ≤ 256 := by
 have g := v.ino _ (List.getElem_mem hk)
 unfold inoB at g
 rw [hd] at g
 simp only [Bool.false_eq_true, if_false, Bool.and_eq_true, decide_eq_true_eq] at g
 unfold dataAt
 simp [hk, g.2]
theorem Vw.setDS {S : Sta} (v : Vw S) {c : Cal} {k : Nat} (h : fileR S c = .ok k) {d : ByteArray} (hd : d.size ≤ 256) : Vw (setDS S k d) := by
 obtain ⟨hk, hf⟩ := v.file h
 unfold Go.Proofs.YtmeafancgmkfkaaGreatDoor.setDS
 rw [dif_pos hk]
 exact v.data hk hf hd
theorem Vw.trunc {S : Sta} (v : Vw S) {c : Cal} {x : Sta × Ans} (h : truncR S c = .ok x) : Vw x.1 := by
 unfold truncR at h
 rcases hf : fileR S c with e | k
 · rw [hf] at h; cases h
 · simp only [hf] at h
   split at h
   · cases h
     exact v.setDS hf (by rw [strOfNums_size, sizedL_length]; omega)
   · cases h
theorem Vw.write {S : Sta} (v : Vw S) {c : Cal} {x : Sta × Ans} (h : writeR S c = .ok x) : Vw x.1 := by
 unfold writeR at h
 rcases hf : fileR S c with e | k
 · rw [hf] at h; cases h
 · simp only [hf] at h
   obtain ⟨hk, hd⟩ := v.file hf
   have hs := data_small v hk hd
   split at h
   · split at h
     · cases h
     · split at h
       · cases h; exact v
       · cases h
         refine v.setDS hf ?_
         rw [strOfNums_size]
         have h1 : (sizedL (dataAt S k) (max (dataAt S k).size (c.off.toNat + c.data.size))).length = max (dataAt S k).size (c.off.toNat + c.data.size) := sizedL_length _ _
         unfold writeL
         simp only [List.length_append, List.length_take, List.length_drop, h1, byI_length]
         omega
   · cases h
theorem opP_some {D : List Ds} {z : Int} : (opP D z).isSome = true ↔ ∃ d ∈ D, d.2.2 = z := by
 unfold opP
 rw [List.findIdx?_isSome]
 simp
theorem Vw.more {S : Sta} (v : Vw S) {co fd z : Int} (h0 : 0 ≤ co) (h1 : co < S.made.length) (h2 : 0 ≤ fd) (h3 : fd < 4) (hn : fdP S.opn co fd = none) {f : Nat} (hf : f < S.ino.length) (ha : atR S.ino z = some f) (hd : (S.ino[f]).dir = false) :
   Vw ⟨S.ino, insR ltD S.opn (co, fd, z), S.made⟩ := by
 have un : ∀ y ∈ S.opn, ¬ (y.1 = co ∧ y.2.1 = fd) := fun y hy e => by
   unfold fdP at hn
   rw [List.findIdx?_eq_none_iff] at hn
   have := hn y hy
   simp [e.1, e.2] at this
 refine ⟨v.made, v.row, v.root, v.gv, v.ino, ?_, fun d hq => ?_, fun x hx hn => ?_, v.fnd⟩
 · refine adj_ins ltD_trans v.opn fun y hy hl => ?_
   have := un y hy
   unfold ltD at hl ⊢
   simp only [Bool.or_eq_true, Bool.or_eq_false_iff, Bool.and_eq_false_iff, Bool.and_eq_true, decide_eq_true_eq, decide_eq_false_iff_not, beq_iff_eq, beq_eq_false_iff_ne] at *
   omega
 · rcases mem_ins.1 hq with rfl | hq
   · unfold desB
     dsimp only
     simp only [ha]
     simp [h0, h1, h2, h3, hf, hd]
   · exact v.des d hq
 · have g := v.held x hx hn
   unfold helB at g ⊢
   dsimp only
   split
   · rename_i hxd
     rw [if_pos hxd] at g
     exact g
   · rename_i hxd
     rw [if_neg hxd, Bool.or_eq_true] at g
     rw [Bool.or_eq_true]
     refine g.imp id fun q => ?_
     rw [opP_some] at q ⊢
     obtain ⟨d, hd, e⟩ := q
     exact ⟨d, mem_ins.2 (Or.inr hd), e⟩
theorem freeN_mem {D : List Ds} {c f : Int} : ∀ {n : Nat}, f ∈ freeN D c n → ∃ m : Nat, f = (m : Int) ∧ m < n ∧ fdP D c f = none
 | 0, h => by cases h
 | n + 1, h => by
   unfold freeN at h
   split at h
   · rename_i hq
     rcases List.mem_append.1 h with h | h
     · obtain ⟨m, e, hm, hp⟩ := freeN_mem h
       exact ⟨m, e, by omega, hp⟩
     · rw [List.mem_singleton] at h
       subst h
       exact ⟨n, rfl, by omega, by simpa using hq⟩
   · obtain ⟨m, e, hm, hp⟩ := freeN_mem h
     exact ⟨m, e, by omega, hp⟩
theorem Vw.opens {S : Sta} (v : Vw S) (hw : Wel S) {c : Cal} (h0 : 0 ≤ c.core) (h1 : c.core < (S.made.length : Int)) {pick : List Int → Int} (hp : ∀ l, l ≠ [] → pick l ∈ l) {x : Sta × Ans} (h : openR S c pick = .ok x) : Vw x.1 := by
 unfold openR at h
 split at h
 · cases h
 · rename_i hc
   split at h
   · cases h
   · rename_i hd
     split at h
     · cases h
     · rename_i hq
       cases h
       have hc' : (findR S.ino c.path).2 = 0 := by simpa using hc
       obtain ⟨f, hf0, hf, ha, hn⟩ := hw.found hc'
       have hin : pick (freeR S.opn c.core) ∈ freeN S.opn c.core 4 := hp _ hq
       obtain ⟨m, e, hm, hno⟩ := freeN_mem hin
       refine v.more h0 h1 (by omega) (by omega) hno hf0 ha ?_
       rw [dir_of ha hf0] at hd
       simpa using hd
end Go.Proofs.YtmeafancgmkfkaaGreatDoor
