/-
  Joined of my texts Le Lf Lg.
-/
import Derived.Test.YtmeafancgmkfkaaGreatDoorJf47
namespace Go.Proofs.YtmeafancgmkfkaaGreatDoor
open Go.RowKit
set_option linter.unusedVariables false
def Edge (L : List Ino) (v : Int) (t : ByteArray) (w : Int) : Prop := ∃ u ∈ L, u.num = v ∧ u.dir = true ∧ ∃ i, plR u.ents t = some i ∧ ∃ hi : i < u.ents.length, (u.ents[i]).2 = w
theorem walk_cons {L : List Ino} (h : adj ltI L = true) {y w : Int} {t : ByteArray} {ts : List ByteArray} : walkR L y (t :: ts) = (w, 0) ↔ ∃ v, Edge L y t v ∧ walkR L v ts = (w, 0) := by
 rw [walkR]
 constructor
 · intro e
   rcases ha : atR L y with _ | k
   · rw [ha] at e; simp at e
   · rw [ha] at e
     obtain ⟨hk, hn⟩ := at_get ha
     simp only [List.getElem?_eq_getElem hk, Option.map_some, Option.getD_some] at e
     split at e
     · rename_i hd
       rcases hp : plR (L[k]).ents t with _ | i
       · rw [hp] at e; simp at e
       · rw [hp] at e
         obtain ⟨hi, -⟩ := idx_get hp
         simp only [List.getElem?_eq_getElem hi, Option.map_some, Option.getD_some] at e
         exact ⟨_, ⟨L[k], List.getElem_mem hk, hn, hd, i, hp, hi, rfl⟩, e⟩
     · simp at e
 · rintro ⟨v, ⟨u, hu, rfl, hd, i, hp, hi, rfl⟩, e⟩
   obtain ⟨k, hk, rfl⟩ := List.getElem_of_mem hu
   rw [at_num h hk]
   simp only [List.getElem?_eq_getElem hk, Option.map_some, Option.getD_some, hd, if_true, hp, List.getElem?_eq_getElem hi]
   exact e
theorem walk_append {L : List Ino} (h : adj ltI L = true) : ∀ {a b : List ByteArray} {y w : Int}, walkR L y (a ++ b) = (w, 0) ↔ ∃ v, walkR L y a = (v, 0) ∧ walkR L v b = (w, 0)
 | [], b, y, w => by
   simp only [List.nil_append, walkR, Prod.mk.injEq, and_true]
   constructor
   · exact fun e => ⟨y, rfl, e⟩
   · rintro ⟨v, rfl, e⟩; exact e
 | t :: a, b, y, w => by
   rw [List.cons_append, walk_cons h]
   constructor
   · rintro ⟨v, he, e⟩
     obtain ⟨q, h1, h2⟩ := (walk_append h).1 e
     exact ⟨q, (walk_cons h).2 ⟨v, he, h1⟩, h2⟩
   · rintro ⟨q, h1, h2⟩
     obtain ⟨v, he, e⟩ := (walk_cons h).1 h1
     exact ⟨v, he, (walk_append h).2 ⟨q, e, h2⟩⟩
theorem walk_snoc {L : List Ino} (h : adj ltI L = true) {a : List ByteArray} {t : ByteArray} {y w : Int} : walkR L y (a ++ [t]) = (w, 0) ↔ ∃ v, walkR L y a = (v, 0) ∧ Edge L v t w := by
 rw [walk_append h]
 constructor
 · rintro ⟨v, h1, h2⟩
   obtain ⟨q, he, e⟩ := (walk_cons h).1 h2
   simp only [walkR, Prod.mk.injEq, and_true] at e
   subst e
   exact ⟨v, h1, he⟩
 · rintro ⟨v, h1, he⟩
   exact ⟨v, h1, (walk_cons h).2 ⟨w, he, by simp [walkR]⟩⟩
theorem cnt_two : ∀ {E : List En} {i j : Nat} {z : Int}, i < j → ∀ (hi : i < E.length) (hj : j < E.length), (E[i]).2 = z → (E[j]).2 = z → 2 ≤ cnt E z
 | e :: l, 0, j + 1, z, _, _, hj, h1, h2 => by
   have h3 : 0 < cnt l z := by
     unfold cnt
     rw [List.countP_pos_iff]
     exact ⟨l[j]'(by simpa using hj), List.getElem_mem _, by simpa using h2⟩
   unfold cnt at h3 ⊢
   rw [List.countP_cons]
   have q0 : e.2 = z := h1
   have q : (if (e.2 == z) = true then 1 else 0) = 1 := by rw [q0]; simp
   rw [q]
   omega
 | e :: l, i + 1, j + 1, z, hij, hi, hj, h1, h2 => by
   have := cnt_two (E := l) (i := i) (j := j) (z := z) (by omega) (by simpa using hi) (by simpa using hj) (by simpa using h1) (by simpa using h2)
   unfold cnt at this ⊢
   rw [List.countP_cons]
   omega
theorem entN_two : ∀ {L : List Ino} {i j : Nat} {z : Int}, i < j → ∀ (hi : i < L.length) (hj : j < L.length), 0 < cnt (L[i]).ents z → 0 < cnt (L[j]).ents z → 2 ≤ entN L z
 | x :: l, 0, j + 1, z, _, _, hj, h1, h2 => by
   have h3 := entN_erase l j (by simpa using hj) z
   have h4 : 0 < cnt (l[j]'(by simpa using hj)).ents z := by simpa using h2
   have h5 : 0 < cnt x.ents z := by simpa using h1
   unfold entN at h3 ⊢
   rw [List.map_cons, List.sum_cons]
   omega
 | x :: l, i + 1, j + 1, z, hij, hi, hj, h1, h2 => by
   have := entN_two (L := l) (i := i) (j := j) (z := z) (by omega) (by simpa using hi) (by simpa using hj) (by simpa using h1) (by simpa using h2)
   unfold entN at this ⊢
   rw [List.map_cons, List.sum_cons]
   omega
theorem edge_one {L : List Ino} (h : adj ltI L = true) {z : Int} (h1 : entN L z = 1) {v v' : Int} {t t' : ByteArray} (e : Edge L v t z) (e' : Edge L v' t' z) : v = v' ∧ t = t' := by
 obtain ⟨u, hu, rfl, -, i, hp, hi, hz⟩ := e
 obtain ⟨u', hu', rfl, -, i', hp', hi', hz'⟩ := e'
 obtain ⟨k, hk, rfl⟩ := List.getElem_of_mem hu
 obtain ⟨k', hk', rfl⟩ := List.getElem_of_mem hu'
 have pos : ∀ {m : Nat} (hm : m < L.length) {j : Nat} (hj : j < (L[m]).ents.length), ((L[m]).ents[j]).2 = z → 0 < cnt (L[m]).ents z := fun {m} hm {j} hj q => by
   unfold cnt
   rw [List.countP_pos_iff]
   exact ⟨_, List.getElem_mem hj, by simpa using q⟩
 have ek : k = k' := by
   rcases Nat.lt_trichotomy k k' with a | a | a
   · have := entN_two a hk hk' (pos hk hi hz) (pos hk' hi' hz'); omega
   · exact a
   · have := entN_two a hk' hk (pos hk' hi' hz') (pos hk hi hz); omega
 subst ek
 have hle : cnt (L[k]).ents z ≤ 1 := by
   have := entN_erase L k hk z
   omega
 have ei : i = i' := by
   rcases Nat.lt_trichotomy i i' with a | a | a
   · have := cnt_two a hi hi' hz hz'; omega
   · exact a
   · have := cnt_two a hi' hi hz' hz; omega
 subst ei
 refine ⟨rfl, ?_⟩
 have n1 := (idx_get hp).2
 have n2 := (idx_get hp').2
 have q1 : ((L[k]).ents[i]).1.toList = t.toList := by simpa using n1
 have q2 : ((L[k]).ents[i]).1.toList = t'.toList := by simpa using n2
 rcases below_tri t t' with e | e | e
 · exact e
 · exfalso
   unfold below at e
   rw [← q1, ← q2, lx_irrefl] at e
   cases e
 · exfalso
   unfold below at e
   rw [← q1, ← q2, lx_irrefl] at e
   cases e
theorem edge_ne {S : Sta} (v : Vw S) {y z : Int} {t : ByteArray} (e : Edge S.ino y t z) : z ≠ 1 := by
 obtain ⟨u, hu, rfl, hd, i, hp, hi, rfl⟩ := e
 have g := v.ino u hu
 unfold inoB at g
 rw [hd] at g
 simp only [if_true, Bool.and_eq_true] at g
 have g2 := g.2
 unfold entsB at g2
 rw [Bool.and_eq_true, Bool.and_eq_true, List.all_eq_true] at g2
 have := g2.1.1 _ (List.getElem_mem hi)
 unfold entB at this
 rw [Bool.and_eq_true, Bool.and_eq_true] at this
 simpa using this.1.2
theorem road_one {S : Sta} (v : Vw S) : ∀ (n : Nat) {a b : List ByteArray} {z : Int}, a.length + b.length ≤ n → dirOf S.ino z = true → walkR S.ino 1 a = (z, 0) → walkR S.ino 1 b = (z, 0) → a = b := by
 intro n
 induction n with
 | zero =>
   intro a b z hn _ _ _
   have h1 : a = [] := List.eq_nil_of_length_eq_zero (by omega)
   have h2 : b = [] := List.eq_nil_of_length_eq_zero (by omega)
   rw [h1, h2]
 | succ n ih =>
   intro a b z hn hz ha hb
   have last : ∀ {c : List ByteArray}, walkR S.ino 1 c = (z, 0) → c = [] ∧ z = 1 ∨ ∃ c' t y, c = c' ++ [t] ∧ walkR S.ino 1 c' = (y, 0) ∧ Edge S.ino y t z := fun {c} hc => by
     rcases List.eq_nil_or_concat c with rfl | ⟨c', t, rfl⟩
     · simp only [walkR, Prod.mk.injEq, and_true] at hc
       exact Or.inl ⟨rfl, hc.symm⟩
     · rw [List.concat_eq_append] at hc ⊢
       obtain ⟨y, h1, h2⟩ := (walk_snoc v.row).1 hc
       exact Or.inr ⟨c', t, y, rfl, h1, h2⟩
   rcases last ha with ⟨rfl, z1⟩ | ⟨a', t, y, rfl, wa, ea⟩
   · rcases last hb with ⟨rfl, -⟩ | ⟨b', t', y', rfl, wb, eb⟩
     · rfl
     · exact absurd z1 (edge_ne v eb)
   · rcases last hb with ⟨rfl, z1⟩ | ⟨b', t', y', rfl, wb, eb⟩
     · exact absurd z1 (edge_ne v ea)
     · have h1 : entN S.ino z = 1 := by
         obtain ⟨x, hx, rfl, hd⟩ := (dir_iff v.row).1 hz
         have := v.held x hx (edge_ne v ea)
         unfold helB at this
         rw [hd] at this
         simpa using this
       obtain ⟨rfl, rfl⟩ := edge_one v.row h1 ea eb
       have hy : dirOf S.ino y = true := by
         obtain ⟨u, hu, e, hd, -⟩ := ea
         exact (dir_iff v.row).2 ⟨u, hu, e, hd⟩
       rw [List.length_append, List.length_append] at hn
       rw [ih (by simp at hn; omega) hy wa wb]
end Go.Proofs.YtmeafancgmkfkaaGreatDoor

namespace Go.Proofs.YtmeafancgmkfkaaGreatDoor
open Go.RowKit
set_option linter.unusedVariables false
structure Mv (L L' : List Ino) (d1 : Int) (t1 : ByteArray) (d : Int) (t : ByteArray) (z : Int) : Prop where
 row : adj ltI L' = true
 fwd : ∀ y ∈ L, ∃ y' ∈ L', y'.num = y.num ∧ y'.dir = y.dir ∧ y'.data = y.data ∧ ∀ e ∈ y.ents, ¬ (y.num = d1 ∧ e.1 = t1) → e ∈ y'.ents
 bwd : ∀ y' ∈ L', ∃ y ∈ L, y'.num = y.num ∧ y'.dir = y.dir ∧ y'.data = y.data ∧ (y'.dir = true → entsB L' y'.ents = true) ∧ (y'.dir = false → y'.ents = [])
 new : ∃ y' ∈ L', y'.num = d ∧ y'.dir = true ∧ (t, z) ∈ y'.ents
 sum : ∀ w, entN L' w = entN L w
theorem Mv.moved {S : Sta} (v : Vw S) {L' : List Ino} {d1 d z : Int} {t1 t : ByteArray} (m : Mv S.ino L' d1 t1 d t z) (h1 : Edge S.ino d1 t1 z) {ns ms : List ByteArray} (hn : walkR S.ino 1 ns = (d1, 0)) (hm : walkR S.ino 1 ms = (d, 0)) (hd : dirOf S.ino d = true) (hb : ¬ (ns ++ [t1]) <+: ms) :
   Vw ⟨L', S.opn, S.made⟩ := by
 have hd1 : dirOf S.ino d1 = true := by
   obtain ⟨u, hu, e, hd, -⟩ := h1
   exact (dir_iff v.row).2 ⟨u, hu, e, hd⟩
 have hpos : ∀ y ∈ S.ino, 1 ≤ y.num := fun y hy => by
   by_cases e : y.num = 1
   · omega
   · have := (v.gv y hy e).1; omega
 have dirs : ∀ w, dirOf L' w = true ↔ dirOf S.ino w = true := fun w => by
   rw [dir_iff m.row, dir_iff v.row]
   constructor
   · rintro ⟨y, hy, rfl, hd⟩
     obtain ⟨x, hx, e1, e2, -⟩ := m.bwd y hy
     exact ⟨x, hx, e1.symm, by rw [← e2]; exact hd⟩
   · rintro ⟨y, hy, rfl, hd⟩
     obtain ⟨x, hx, e1, e2, -⟩ := m.fwd y hy
     exact ⟨x, hx, e1, by rw [e2]; exact hd⟩
 -- an entry that stays leads on
 have stay : ∀ {y w : Int} {e : En} {u : Ino}, u ∈ S.ino → u.num = y → e ∈ u.ents → e.2 = w → ¬ (y = d1 ∧ e.1 = t1) → dirOf S.ino w = true → Rch L' y → Rch L' w := fun {y w e u} hu hy he hw hne hwd r => by
   obtain ⟨u', hu', e1, -, -, e3⟩ := m.fwd u hu
   refine Rch.kid r (kid_iff.2 ⟨?_, (dirs w).2 hwd⟩)
   rw [← hy, ← e1, ents_mem m.row hu']
   exact ⟨e, e3 e he (by rw [hy]; exact hne), hw⟩
 -- the new parent is still reached
 have road : ∀ (n : Nat) {p : List ByteArray} {y : Int}, p.length ≤ n → p <+: ms → dirOf S.ino y = true → walkR S.ino 1 p = (y, 0) → Rch L' y := by
   intro n
   induction n with
   | zero =>
     intro p y hn0 _ _ hw
     have : p = [] := List.eq_nil_of_length_eq_zero (by omega)
     subst this
     simp only [walkR, Prod.mk.injEq, and_true] at hw
     subst hw
     exact Rch.root
   | succ n ih =>
     intro p y hn0 hp hyd hw
     rcases List.eq_nil_or_concat p with rfl | ⟨p', t', rfl⟩
     · simp only [walkR, Prod.mk.injEq, and_true] at hw
       subst hw
       exact Rch.root
     · rw [List.concat_eq_append] at hp hw hn0
       obtain ⟨y0, w0, e0⟩ := (walk_snoc v.row).1 hw
       obtain ⟨u, hu, hy0, hud, i, hpl, hi, hz⟩ := e0
       have h0d : dirOf S.ino y0 = true := (dir_iff v.row).2 ⟨u, hu, hy0, hud⟩
       have hp' : p' <+: ms := (List.prefix_append p' [t']).trans hp
       have hne : ¬ (y0 = d1 ∧ (u.ents[i]).1 = t1) := by
         rintro ⟨rfl, q⟩
         have q2 : (u.ents[i]).1.toList = t'.toList := by simpa using (idx_get hpl).2
         have q3 : t' = t1 := by
           rcases below_tri t' t1 with e | e | e
           · exact e
           · exfalso; unfold below at e; rw [← q2, q, lx_irrefl] at e; cases e
           · exfalso; unfold below at e; rw [← q2, q, lx_irrefl] at e; cases e
         subst q3
         have := road_one v _ (Nat.le_refl _) h0d w0 hn
         subst this
         exact hb hp
       exact stay hu hy0 (List.getElem_mem hi) hz hne hyd (ih (by simp at hn0; omega) hp' h0d w0)
 have rd : Rch L' d := road ms.length (Nat.le_refl _) (List.prefix_refl ms) hd hm
 have up : ∀ w, Rch S.ino w → Rch L' w := fun w r => by
   induction r with
   | root => exact Rch.root
   | kid r0 hk ih =>
     rename_i y w
     rw [kid_iff] at hk
     obtain ⟨⟨e, he, hw⟩, hwd⟩ := hk
     rw [look_ents] at he
     rcases hl : look S.ino y with _ | u
     · rw [hl] at he; cases he
     · rw [hl] at he
       obtain ⟨hu, hy⟩ := (look_mem v.row).1 hl
       have he' : e ∈ u.ents := he
       by_cases q : y = d1 ∧ e.1 = t1
       · obtain ⟨u1, hu1, n1, ud, i, hpl, hi, hz⟩ := h1
         have : u = u1 := by
           have a := look_iff v.row hu
           have b := look_iff v.row hu1
           rw [hy, q.1, ← n1, b] at a
           exact (Option.some.inj a).symm
         subst this
         have hez : e.2 = z := by
           obtain ⟨j, hj, rfl⟩ := List.getElem_of_mem he'
           have g := v.ino u hu
           unfold inoB at g
           rw [ud] at g
           simp only [if_true, Bool.and_eq_true] at g
           have g2 := g.2
           unfold entsB at g2
           rw [Bool.and_eq_true] at g2
           have q2 : (u.ents[i]).1.toList = t1.toList := by simpa using (idx_get hpl).2
           have ij : i = j := by
             rcases Nat.lt_trichotomy i j with a | a | a
             · exfalso
               have b := adj_all ltE_trans9 g2.2 i j hi hj a
               have b' : lx (u.ents[i]).1.toList (u.ents[j]).1.toList = true := b
               rw [q2, q.2, lx_irrefl] at b'
               cases b'
             · exact a
             · exfalso
               have b := adj_all ltE_trans9 g2.2 j i hj hi a
               have b' : lx (u.ents[j]).1.toList (u.ents[i]).1.toList = true := b
               rw [q2, q.2, lx_irrefl] at b'
               cases b'
           subst ij
           exact hz
         obtain ⟨D', hD', nD, dD, eD⟩ := m.new
         refine Rch.kid rd (kid_iff.2 ⟨?_, (dirs w).2 hwd⟩)
         rw [← nD, ents_mem m.row hD']
         exact ⟨_, eD, by rw [← hw, hez]⟩
       · exact stay hu hy he' hw q hwd ih
 refine ⟨v.made, m.row, ?_, fun y hy hn1 => ?_, fun y hy => ?_, v.opn, fun q hq => ?_, fun y hy hn1 => ?_, fun w hw => up w (v.fnd w ((dirs w).1 hw))⟩
 · obtain ⟨r, hr, r1, rdd⟩ := v.root
   obtain ⟨r', hr', e1, e2, -⟩ := m.fwd r (List.mem_of_getElem? hr)
   refine root_of m.row (fun y hy => ?_) hr' (by rw [e1]; exact r1) (by rw [e2]; exact rdd)
   obtain ⟨x, hx, e3, -⟩ := m.bwd y hy
   rw [e3]
   exact hpos x hx
 · obtain ⟨x, hx, e1, -⟩ := m.bwd y hy
   rw [e1] at hn1 ⊢
   exact v.gv x hx hn1
 · obtain ⟨x, hx, e1, e2, e3, e4, e5⟩ := m.bwd y hy
   have g := v.ino x hx
   unfold inoB at g ⊢
   rw [← e2, ← e3] at g
   cases hyd : y.dir with
   | true =>
     rw [hyd] at g
     simp only [if_true, Bool.and_eq_true] at g ⊢
     exact ⟨g.1, e4 hyd⟩
   | false =>
     rw [hyd] at g
     simp only [Bool.false_eq_true, if_false, Bool.and_eq_true] at g ⊢
     exact ⟨by rw [e5 hyd]; rfl, g.2⟩
 · have g := v.des q hq
   obtain ⟨k2, ha, hk2, hdd⟩ := des_file g
   obtain ⟨_, hn2⟩ := at_get ha
   obtain ⟨y', hy', e1, e2, -⟩ := m.fwd _ (List.getElem_mem hk2)
   have hl := look_iff m.row hy'
   rw [e1, hn2] at hl
   unfold look at hl
   rcases ha' : atR L' q.2.2 with _ | k'
   · rw [ha'] at hl; cases hl
   · rw [ha'] at hl
     simp only [Option.bind_some] at hl
     unfold desB at g ⊢
     dsimp only
     rw [ha']
     rw [Bool.and_eq_true] at g ⊢
     refine ⟨g.1, ?_⟩
     simp only [hl]
     simp [e2, hdd]
 · obtain ⟨x, hx, e1, e2, -⟩ := m.bwd y hy
   rw [e1] at hn1
   have := v.held x hx hn1
   unfold helB at this ⊢
   dsimp only
   rw [e1, e2, m.sum]
   exact this
end Go.Proofs.YtmeafancgmkfkaaGreatDoor

namespace Go.Proofs.YtmeafancgmkfkaaGreatDoor
open Go.RowKit
set_option linter.unusedVariables false
theorem name_eq {a b : ByteArray} (h : a.toList = b.toList) : a = b := by
 rcases below_tri a b with e | e | e
 · exact e
 · exfalso; unfold below at e; rw [h, lx_irrefl] at e; cases e
 · exfalso; unfold below at e; rw [h, lx_irrefl] at e; cases e
theorem countP_erase {α : Type} (p : α → Bool) : ∀ (E : List α) (i : Nat) (hi : i < E.length), (E.eraseIdx i).countP p + (if p E[i] = true then 1 else 0) = E.countP p
 | e :: l, 0, _ => by
   simp only [List.eraseIdx_cons_zero, List.getElem_cons_zero]
   rw [List.countP_cons]
 | e :: l, i + 1, hi => by
   have := countP_erase p l i (by simpa using hi)
   simp only [List.eraseIdx_cons_succ, List.getElem_cons_succ]
   rw [List.countP_cons, List.countP_cons]
   omega
theorem name_one {E : List En} (h : adj ltE E = true) {i j : Nat} (hi : i < E.length) (hj : j < E.length) (e : (E[i]).1 = (E[j]).1) : i = j := by
 rcases Nat.lt_trichotomy i j with a | a | a
 · exfalso
   have b := adj_all ltE_trans9 h i j hi hj a
   have b' : below (E[i]).1 (E[j]).1 = true := b
   rw [e, below_irrefl] at b'
   cases b'
 · exact a
 · exfalso
   have b := adj_all ltE_trans9 h j i hj hi a
   have b' : below (E[j]).1 (E[i]).1 = true := b
   rw [e, below_irrefl] at b'
   cases b'
theorem full_other {E : List En} {d d1 : Int} {t t1 : ByteArray} (h : d1 ≠ d) (h0 : d ≠ 0) : nFull E d t d1 t1 = nFull E d t 0 ⟨#[]⟩ := by
 unfold nFull
 congr 1
 funext e
 unfold inQ
 have q1 : (d1 == d) = false := by simpa using h
 have q2 : ((0 : Int) == d) = false := by simpa using fun e => h0 e.symm
 rw [q1, q2]
 simp
theorem ents_of {S : Sta} (v : Vw S) {k : Nat} (hk : k < S.ino.length) (hd : (S.ino[k]).dir = true) : entsB S.ino (S.ino[k]).ents = true := by
 have g := v.ino _ (List.getElem_mem hk)
 unfold inoB at g
 rw [hd] at g
 simp only [if_true, Bool.and_eq_true] at g
 exact g.2
theorem adj_of {L : List Ino} {E : List En} (h : entsB L E = true) : adj ltE E = true := by
 unfold entsB at h
 rw [Bool.and_eq_true] at h
 exact h.2
theorem move_in {S : Sta} (v : Vw S) {k : Nat} (hk : k < S.ino.length) {D : Ino} (hDe : S.ino[k] = D) (hd : D.dir = true) {t1 t : ByteArray} {i1 : Nat} (hp1 : plR D.ents t1 = some i1) (hi1 : i1 < D.ents.length) {z : Int} (hz : (D.ents[i1]).2 = z)
   (hc : chk t = 0) (hp : (plR D.ents t).isSome = false) (hf : nFull D.ents D.num t D.num t1 < 4)
   {F : List En} (hF : insR ltE D.ents (t, z) = F) {i2 : Nat} (hp2 : plR F t1 = some i2) (hi2 : i2 < F.length) :
   Mv S.ino (S.ino.set k (withE D (F.eraseIdx i2))) D.num t1 D.num t z ∧ (F[i2]).2 = z := by
 have gE : entsB S.ino D.ents = true := by
   have := ents_of v hk (by rw [hDe]; exact hd)
   rw [hDe] at this
   exact this
 have hD : D ∈ S.ino := by rw [← hDe]; exact List.getElem_mem hk
 have hE := adj_of gE
 have n1 : (D.ents[i1]).1 = t1 := name_eq (by simpa using (idx_get hp1).2)
 have n2 : (F[i2]).1 = t1 := name_eq (by simpa using (idx_get hp2).2)
 have htn : ∀ e ∈ D.ents, e.1 ≠ t := pl_none hp
 have ht1 : t1 ≠ t := by rw [← n1]; exact htn _ (List.getElem_mem hi1)
 have mF : ∀ e, e ∈ F ↔ e = (t, z) ∨ e ∈ D.ents := fun e => by rw [← hF]; exact mem_ins
 have m2 : F[i2] = D.ents[i1] := by
   rcases (mF _).1 (List.getElem_mem hi2) with e | e
   · exfalso
     rw [e] at n2
     exact ht1 n2.symm
   · obtain ⟨j, hj, q⟩ := List.getElem_of_mem e
     have : j = i1 := name_one hE hj hi1 (by rw [q, n2, n1])
     subst this
     exact q.symm
 have z2 : (F[i2]).2 = z := by rw [m2]; exact hz
 have mG : ∀ e, e ∈ F.eraseIdx i2 ↔ e ∈ F ∧ e.1 ≠ t1 := fun e => by
   have aF : adj ltE F = true := by
     rw [← hF]
     refine adj_ins ltE_trans9 hE fun y hy hl => ?_
     rcases below_tri y.1 t with q | q | q
     · exact absurd q (htn y hy)
     · have : ltE y (t, z) = true := q
       rw [this] at hl; cases hl
     · exact q
   rw [List.mem_eraseIdx_iff_getElem]
   constructor
   · rintro ⟨i, hi, hne, rfl⟩
     exact ⟨List.getElem_mem hi, fun q => hne (name_one aF hi hi2 (by rw [q, n2]))⟩
   · rintro ⟨he, hne⟩
     obtain ⟨i, hi, rfl⟩ := List.getElem_of_mem he
     exact ⟨i, hi, fun q => by subst q; exact hne n2, rfl⟩
 obtain ⟨D', hD'⟩ : ∃ D', withE D (F.eraseIdx i2) = D' := ⟨_, rfl⟩
 have nn : D'.num = D.num := by rw [← hD']
 have dd : D'.dir = true := by rw [← hD']; exact hd
 have ee : D'.ents = F.eraseIdx i2 := by rw [← hD']
 have bb : D'.data = D.data := by rw [← hD']
 rw [hD']
 obtain ⟨L', hL'⟩ : ∃ L', S.ino.set k D' = L' := ⟨_, rfl⟩
 have a2 : adj ltI L' = true := by rw [← hL']; exact adj_set v.row hk (by rw [hDe]; exact nn)
 have hm : ∀ y, y ∈ L' ↔ y = D' ∨ y ∈ S.ino ∧ y.num ≠ D.num := fun y => by rw [← hL', mem_set v.row hk, hDe]
 have hDm : D' ∈ L' := (hm D').2 (Or.inl rfl)
 have same : ∀ y ∈ S.ino, y.num = D.num → y = D := fun y hy q => by
   have h1 := look_iff v.row hy
   have h2 := look_iff v.row hD
   rw [q, h2] at h1
   exact (Option.some.inj h1).symm
 have hs : ∀ w, (atR S.ino w).isSome = true → (atR L' w).isSome = true := fun w h => by
   obtain ⟨y, hy, rfl⟩ := at_isSome.1 h
   by_cases q : y.num = D.num
   · exact at_isSome.2 ⟨D', hDm, by rw [nn, q]⟩
   · exact at_isSome.2 ⟨y, (hm y).2 (Or.inr ⟨hy, q⟩), rfl⟩
 have gE' := entsB_mono gE hs
 refine ⟨?_, z2⟩
 rw [hL']
 refine ⟨a2, fun y hy => ?_, fun y hy => ?_, ⟨D', hDm, nn, dd, ?_⟩, fun w => ?_⟩
 · by_cases q : y.num = D.num
   · have := same y hy q
     subst this
     refine ⟨D', hDm, nn, by rw [dd, hd], bb, fun e he hne => ?_⟩
     rw [ee, mG]
     exact ⟨(mF e).2 (Or.inr he), fun q2 => hne ⟨rfl, q2⟩⟩
   · exact ⟨y, (hm y).2 (Or.inr ⟨hy, q⟩), rfl, rfl, rfl, fun e he _ => he⟩
 · rcases (hm y).1 hy with rfl | ⟨hy, -⟩
   · refine ⟨D, hD, nn, by rw [dd, hd], bb, fun _ => ?_, fun q => by rw [dd] at q; cases q⟩
     rw [ee]
     unfold entsB at gE' ⊢
     rw [Bool.and_eq_true, Bool.and_eq_true] at gE' ⊢
     obtain ⟨⟨h1, h2⟩, h3⟩ := gE'
     rw [List.all_eq_true] at h1 h2
     refine ⟨⟨?_, ?_⟩, ?_⟩
     · rw [List.all_eq_true]
       intro e he
       rcases (mF e).1 ((mG e).1 he).1 with rfl | he
       · have := h1 _ (List.getElem_mem hi1)
         unfold entB at this ⊢
         rw [hz] at this
         rw [Bool.and_eq_true, Bool.and_eq_true] at this ⊢
         exact ⟨⟨by simpa using hc, this.1.2⟩, this.2⟩
       · exact h1 e he
     · rw [List.all_eq_true]
       intro b hb
       have g := h2 b hb
       rw [decide_eq_true_eq] at g ⊢
       have c1 := countP_erase (fun e : En => bkt e.1 == (b : Int)) F i2 hi2
       have c2 := inB_ins D.ents (t, z) b
       rw [hF] at c2
       have c3 := countP_erase (fun e : En => bkt e.1 == (b : Int)) D.ents i1 hi1
       have c4 := countP_erase (inQ D.num t D.num t1) D.ents i1 hi1
       simp only [n2] at c1
       simp only [n1] at c3
       unfold inB at g c2 ⊢
       by_cases q : bkt t = (b : Int)
       · have c5 : (D.ents.eraseIdx i1).countP (inQ D.num t D.num t1) = (D.ents.eraseIdx i1).countP (fun e : En => bkt e.1 == (b : Int)) := by
           refine List.countP_congr fun e he => ?_
           have hne : e.1 ≠ t1 := by
             rw [List.mem_eraseIdx_iff_getElem] at he
             obtain ⟨j, hj, hji, rfl⟩ := he
             exact fun q2 => hji (name_one hE hj hi1 (by rw [q2, n1]))
           unfold inQ
           have q3 : (t1.toList == e.1.toList) = false := by
             rw [beq_eq_false_iff_ne]
             exact fun q4 => hne (name_eq q4.symm)
           rw [q3, q]
           simp
         have c6 : inQ D.num t D.num t1 (D.ents[i1]) = false := by
           unfold inQ
           rw [n1]
           simp
         rw [c6] at c4
         simp only [Bool.false_eq_true, if_false] at c4
         unfold nFull at hf
         rw [if_pos q] at c2
         omega
       · rw [if_neg q] at c2
         omega
     · refine adj_erase ltE_trans9 ?_ i2
       rw [← hF]
       refine adj_ins ltE_trans9 hE fun y hy hl => ?_
       rcases below_tri y.1 t with q | q | q
       · exact absurd q (htn y hy)
       · have : ltE y (t, z) = true := q
         rw [this] at hl; cases hl
       · exact q
   · refine ⟨y, hy, rfl, rfl, rfl, fun hyd => ?_, fun hyd => file_ents (v.ino y hy) hyd⟩
     have g := v.ino y hy
     unfold inoB at g
     rw [hyd] at g
     simp only [if_true, Bool.and_eq_true] at g
     exact entsB_mono g.2 hs
 · rw [ee, mG]
   exact ⟨(mF _).2 (Or.inl rfl), fun q => ht1 q.symm⟩
 · have h1 := entN_set S.ino k hk D' w
   have h2 := cnt_erase F i2 hi2 w
   have h3 := cnt_ins D.ents (t, z) w
   rw [hF] at h3
   rw [z2] at h2
   rw [hL', hDe, ee] at h1
   dsimp only at h3
   omega
end Go.Proofs.YtmeafancgmkfkaaGreatDoor
