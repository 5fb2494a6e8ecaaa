/-
  Joined of my texts La Lb Lc.
-/
import Derived.Test.YtmeafancgmkfkaaGreatDoorJk46
namespace Go.Proofs.YtmeafancgmkfkaaGreatDoor
open Go.RowKit
set_option linter.unusedVariables false
theorem Vw.creates {S : Sta} (v : Vw S) (hw : Wel S) {c : Cal} {i : Nat} (hc : c.core = (i : Int)) (hi : i < S.made.length) {dir : Bool} {x : Sta × Ans} (h : createR S c i dir = .ok x) : Vw x.1 := by
 unfold createR at h
 rcases hs : spotR S.ino c.path with code | ⟨d, t⟩
 · rw [hs] at h; cases h
 rw [hs] at h
 simp only at h
 split at h
 · cases h
 rename_i hp
 split at h
 · cases h
 rename_i hq
 cases h
 obtain ⟨k, hk, hat, he⟩ := hw.spot hs
 have hfr := hw.fresh hi
 have hg : S.made.getD i 0 = S.made[i] := by rw [List.getD_eq_getElem?_getD, List.getElem?_eq_getElem hi]; rfl
 have hmg := hw.mg _ (List.getElem_mem hi)
 have h8 := hw.m8
 obtain ⟨y, hy⟩ : ∃ y : Ino, (⟨2 + c.core + 8 * S.made.getD i 0, dir, [], ⟨#[]⟩⟩ : Ino) = y := ⟨_, rfl⟩
 have hyn : y.num = 2 + (i : Int) + 8 * S.made.getD i 0 := by rw [← hy, hc]
 have hye : y.ents = [] := by rw [← hy]
 have hyd : y.data = ⟨#[]⟩ := by rw [← hy]
 obtain ⟨hk9, hdn⟩ := at_get hat
 have hne : y.num ≠ d := fun e => by
   have := hfr _ (List.getElem_mem hk)
   rw [hdn, ← hyn] at this
   exact this e.symm
 obtain ⟨j, hj1, hj, hj2⟩ := at_ins hat hne hk
 have e2 : 2 + c.core + 8 * S.made.getD i 0 = y.num := by rw [hyn, hc]
 dsimp only
 rw [hy, e2, putS_at (S := ⟨insR ltI S.ino y, S.opn, S.made.set i (S.made.getD i 0 + 1)⟩) hj1 hj]
 have hdd : (S.ino[k]).dir = true := by
   have := spot_dir hs
   rw [dir_of hat hk] at this
   exact this
 rw [he] at hp hq
 have hq' : nFull (S.ino[k]).ents d t 0 ⟨#[]⟩ < 4 ∧ S.made.getD i 0 < 32 := by omega
 have := v.create hi (by omega) (g := S.made.getD i 0) hg.symm (by omega) hq'.2 hyn hye hyd (fun z hz => by rw [hyn]; exact hfr z hz) (List.getElem_mem hk) hdd (spot_name hs).1 (by simpa using hp) (by rw [hdn]; exact hq'.1) hj hj2
 unfold setE
 dsimp only
 rw [hj2]
 exact this
theorem Vw.link {S : Sta} (v : Vw S) {F : Ino} (hF : F ∈ S.ino) (hFd : F.dir = false) {k : Nat} (hk : k < S.ino.length) (hDd : (S.ino[k]).dir = true) {t : ByteArray} (hc : chk t = 0) (hp : (plR (S.ino[k]).ents t).isSome = false) (hf : nFull (S.ino[k]).ents (S.ino[k]).num t 0 ⟨#[]⟩ < 4) :
   Vw (setE S k hk (insR ltE (S.ino[k]).ents (t, F.num))) := by
 have hpos : ∀ y ∈ S.ino, 1 ≤ y.num := fun y hy => by
   by_cases e : y.num = 1
   · omega
   · have := (v.gv y hy e).1; omega
 obtain ⟨D, hDe⟩ : ∃ D, S.ino[k] = D := ⟨_, rfl⟩
 have hD : D ∈ S.ino := by rw [← hDe]; exact List.getElem_mem hk
 have hF1 : F.num ≠ 1 := fun e => by
   obtain ⟨r, hr, r1, rd⟩ := v.root
   have h1 := look_iff v.row hF
   have h2 := look_iff v.row (List.mem_of_getElem? hr)
   rw [e, ← r1, h2] at h1
   have := Option.some.inj h1
   rw [this, hFd] at rd
   cases rd
 unfold setE
 rw [hDe] at hDd hp hf ⊢
 obtain ⟨D', hD'⟩ : ∃ D', withE D (insR ltE D.ents (t, F.num)) = D' := ⟨_, rfl⟩
 have n' : D'.num = D.num := by rw [← hD']
 have d' : D'.dir = true := by rw [← hD']; exact hDd
 have e' : D'.ents = insR ltE D.ents (t, F.num) := by rw [← hD']
 have b' : D'.data = D.data := by rw [← hD']
 rw [hD']
 obtain ⟨L', hL'⟩ : ∃ L', S.ino.set k D' = L' := ⟨_, rfl⟩
 have a2 : adj ltI L' = true := by rw [← hL']; exact adj_set v.row hk (by rw [hDe]; exact n')
 have hm : ∀ y, y ∈ L' ↔ y = D' ∨ y ∈ S.ino ∧ y.num ≠ D.num := fun y => by rw [← hL', mem_set v.row hk, hDe]
 have hDm : D' ∈ L' := (hm D').2 (Or.inl rfl)
 have old : ∀ y ∈ S.ino, y.num ≠ D.num → y ∈ L' := fun y hy hn => (hm y).2 (Or.inr ⟨hy, hn⟩)
 have like : ∀ y ∈ S.ino, ∃ y' ∈ L', y'.num = y.num ∧ y'.dir = y.dir ∧ ∀ e ∈ y.ents, e ∈ y'.ents := fun y hy => by
   by_cases q : y.num = D.num
   · have : y = D := by
       have h1 := look_iff v.row hy
       have h2 := look_iff v.row hD
       rw [q, h2] at h1
       exact (Option.some.inj h1).symm
     subst this
     exact ⟨D', hDm, n', by rw [d', hDd], fun e he => by rw [e']; exact mem_ins.2 (Or.inr he)⟩
   · exact ⟨y, old y hy q, rfl, rfl, fun e he => he⟩
 have hs : ∀ z, (atR S.ino z).isSome = true → (atR L' z).isSome = true := fun z h => by
   obtain ⟨y, hy, rfl⟩ := at_isSome.1 h
   obtain ⟨y', hy', e1, -⟩ := like y hy
   exact at_isSome.2 ⟨y', hy', e1⟩
 have hN : ∀ z, entN L' z = entN S.ino z + if F.num = z then 1 else 0 := fun z => by
   have h1 := entN_set S.ino k hk D' z
   rw [hL', hDe, e', cnt_ins] at h1
   dsimp only at h1
   omega
 have dirs : ∀ z, dirOf L' z = true → dirOf S.ino z = true := fun z h => by
   obtain ⟨y, hy, rfl, hd⟩ := (dir_iff a2).1 h
   rcases (hm y).1 hy with rfl | ⟨hy, -⟩
   · exact (dir_iff v.row).2 ⟨D, hD, n'.symm, hDd⟩
   · exact (dir_iff v.row).2 ⟨y, hy, rfl, hd⟩
 have dirsUp : ∀ z, dirOf S.ino z = true → dirOf L' z = true := fun z h => by
   obtain ⟨y, hy, rfl, hd⟩ := (dir_iff v.row).1 h
   obtain ⟨y', hy', e1, e2, -⟩ := like y hy
   exact (dir_iff a2).2 ⟨y', hy', e1, by rw [e2]; exact hd⟩
 have up : ∀ z, Rch S.ino z → Rch L' z := fun z r => by
   induction r with
   | root => exact Rch.root
   | kid r0 hz ih =>
     rename_i y z
     rw [kid_iff] at hz
     obtain ⟨⟨e, he, rfl⟩, hd⟩ := hz
     refine Rch.kid ih (kid_iff.2 ⟨?_, dirsUp _ hd⟩)
     rw [look_ents] at he
     rcases hl : look S.ino y with _ | u
     · rw [hl] at he; cases he
     · rw [hl] at he
       obtain ⟨hu, rfl⟩ := (look_mem v.row).1 hl
       obtain ⟨u', hu', e1, -, e3⟩ := like u hu
       rw [← e1, ents_mem a2 hu']
       exact ⟨e, e3 e he, rfl⟩
 rw [hL']
 refine ⟨v.made, a2, ?_, fun y hy hn => ?_, fun y hy => ?_, v.opn, fun d hq => ?_, fun y hy hn => ?_, fun z hz => up z (v.fnd z (dirs z hz))⟩
 · obtain ⟨r, hr, r1, rd⟩ := v.root
   obtain ⟨r', hr', e1, e2, -⟩ := like r (List.mem_of_getElem? hr)
   refine root_of a2 (fun y hy => ?_) hr' (by rw [e1]; exact r1) (by rw [e2]; exact rd)
   rcases (hm y).1 hy with rfl | ⟨hy, -⟩
   · rw [n']; exact hpos D hD
   · exact hpos y hy
 · dsimp only at hy ⊢
   rcases (hm y).1 hy with rfl | ⟨hy, -⟩
   · rw [n'] at hn ⊢
     exact v.gv D hD hn
   · exact v.gv y hy hn
 · dsimp only at hy ⊢
   rcases (hm y).1 hy with rfl | ⟨hy, -⟩
   · have gD := v.ino D hD
     unfold inoB at gD ⊢
     rw [hDd] at gD
     rw [d', b', e']
     simp only [if_true, Bool.and_eq_true] at gD ⊢
     exact ⟨gD.1, entsB_ins gD.2 hs hc hF1 (hs _ (at_isSome.2 ⟨F, hF, rfl⟩)) hp (by have := hpos D hD; omega) hf⟩
   · have g := v.ino y hy
     unfold inoB at g ⊢
     split
     · rename_i q
       rw [if_pos q, Bool.and_eq_true] at g
       rw [Bool.and_eq_true]
       exact ⟨g.1, entsB_mono g.2 hs⟩
     · rename_i q
       rw [if_neg q] at g
       exact g
 · have g := v.des d hq
   obtain ⟨k2, ha, hk2, hd⟩ := des_file g
   obtain ⟨_, hn2⟩ := at_get ha
   have hne : (S.ino[k2]).num ≠ D.num := fun q => by
     have h1 := look_iff v.row (List.getElem_mem hk2)
     have h2 := look_iff v.row hD
     rw [q, h2] at h1
     have := Option.some.inj h1
     rw [← this, hDd] at hd
     cases hd
   have hl := look_iff a2 (old _ (List.getElem_mem hk2) hne)
   rw [hn2] at hl
   unfold look at hl
   rcases ha' : atR L' d.2.2 with _ | k'
   · rw [ha'] at hl; cases hl
   · rw [ha'] at hl
     simp only [Option.bind_some] at hl
     unfold desB at g ⊢
     dsimp only
     rw [ha']
     rw [Bool.and_eq_true] at g ⊢
     refine ⟨g.1, ?_⟩
     simp only [hl]
     simp [hd]
 · dsimp only at hy ⊢
   unfold helB
   dsimp only
   rw [hN]
   have file : ∀ u ∈ S.ino, u.dir = true → (if F.num = u.num then 1 else 0) = 0 := fun u hu hd => if_neg fun e => by
     have h1 := look_iff v.row hu
     have h2 := look_iff v.row hF
     rw [← e, h2] at h1
     have := Option.some.inj h1
     rw [← this, hFd] at hd
     cases hd
   rcases (hm y).1 hy with rfl | ⟨hy, -⟩
   · rw [n'] at hn ⊢
     have := v.held D hD hn
     unfold helB at this
     rw [hDd] at this
     rw [d', file D hD hDd]
     simpa using this
   · have := v.held y hy hn
     unfold helB at this
     cases hyd : y.dir with
     | true =>
       rw [hyd] at this
       rw [file y hy hyd]
       exact this
     | false =>
       rw [hyd] at this
       simp only [Bool.false_eq_true, if_false, Bool.or_eq_true, bne_iff_ne] at this ⊢
       exact this.imp (fun q => by omega) id
end Go.Proofs.YtmeafancgmkfkaaGreatDoor

namespace Go.Proofs.YtmeafancgmkfkaaGreatDoor
open Go.RowKit
set_option linter.unusedVariables false
theorem Vw.links {S : Sta} (v : Vw S) (hw : Wel S) {c : Cal} {x : Sta × Ans} (h : linkR S c = .ok x) : Vw x.1 := by
 unfold linkR at h
 split at h
 · cases h
 rename_i hc
 split at h
 · cases h
 rename_i hd
 rcases hs : spotR S.ino c.path2 with code | ⟨d, t⟩
 · rw [hs] at h; cases h
 rw [hs] at h
 simp only at h
 split at h
 · cases h
 rename_i hp
 split at h
 · cases h
 rename_i hq
 cases h
 have hc' : (findR S.ino c.path).2 = 0 := by simpa using hc
 obtain ⟨f, hf0, hf, ha, hn⟩ := hw.found hc'
 obtain ⟨k, hk, hat, he⟩ := hw.spot hs
 obtain ⟨_, hdn⟩ := at_get hat
 rw [dir_of ha hf0] at hd
 have hdd : (S.ino[k]).dir = true := by
   have := spot_dir hs
   rw [dir_of hat hk] at this
   exact this
 dsimp only
 rw [putS_at hat hk, ← hn]
 rw [he] at hp hq
 exact v.link (List.getElem_mem hf0) (by simpa using hd) hk hdd (spot_name hs).1 (by simpa using hp) (by rw [hdn]; omega)
theorem links_ent {L : List Ino} (h : ∀ x ∈ L, x.dir = false → x.ents = []) (z : Int) : linksR L z = entN L z := by
 unfold linksR entN
 congr 1
 refine List.map_congr_left fun x hx => ?_
 split
 · rfl
 · rename_i q
   rw [h x hx (by simpa using q)]
   rfl
structure Vx (S : Sta) (z : Int) : Prop where
 made : madeB S.made = true
 row : adj ltI S.ino = true
 root : ∃ x, S.ino[0]? = some x ∧ x.num = 1 ∧ x.dir = true
 gv : ∀ x ∈ S.ino, x.num ≠ 1 → 2 ≤ x.num ∧ givenB S.made x.num = true
 ino : ∀ x ∈ S.ino, inoB S.ino x = true
 opn : adj ltD S.opn = true
 des : ∀ d ∈ S.opn, desB S d = true
 held : ∀ x ∈ S.ino, x.num ≠ 1 → x.num ≠ z → helB S x = true
 fnd : ∀ y, dirOf S.ino y = true → y ≠ z → Rch S.ino y
 z1 : z ≠ 1
 dz : ∀ x ∈ S.ino, x.num = z → x.dir = true → x.ents = [] ∧ entN S.ino z = 0
theorem file_ents {L : List Ino} {x : Ino} (g : inoB L x = true) (hd : x.dir = false) : x.ents = [] := by
 unfold inoB at g
 rw [hd] at g
 simp only [Bool.false_eq_true, if_false, Bool.and_eq_true] at g
 simpa using g.1
theorem mem_erase {L : List Ino} (h : adj ltI L = true) {k : Nat} (hk : k < L.length) {x : Ino} : x ∈ L.eraseIdx k ↔ x ∈ L ∧ x.num ≠ (L[k]).num := by
 rw [List.mem_eraseIdx_iff_getElem]
 constructor
 · rintro ⟨i, hi, hne, rfl⟩
   refine ⟨List.getElem_mem hi, fun e => ?_⟩
   rcases Nat.lt_or_gt_of_ne hne with a | a
   · have := adj_lt h i k hi hk a; omega
   · have := adj_lt h k i hk hi a; omega
 · rintro ⟨hx, hn⟩
   obtain ⟨i, hi, rfl⟩ := List.getElem_of_mem hx
   exact ⟨i, hi, fun e => by subst e; exact hn rfl, rfl⟩
theorem entN_erase : ∀ (L : List Ino) (k : Nat) (hk : k < L.length) (z : Int), entN (L.eraseIdx k) z + cnt (L[k]).ents z = entN L z
 | x :: l, 0, _, z => by simp only [List.eraseIdx_cons_zero, List.getElem_cons_zero]; unfold entN; rw [List.map_cons, List.sum_cons]; omega
 | x :: l, k + 1, hk, z => by
   have := entN_erase l k (by simpa using hk) z
   simp only [List.eraseIdx_cons_succ, List.getElem_cons_succ]
   unfold entN at this ⊢
   rw [List.map_cons, List.map_cons, List.sum_cons, List.sum_cons]
   omega
theorem adj_erase {α : Type} {f : α → α → Bool} (ht : ∀ x y z, f x y = true → f y z = true → f x z = true) {L : List α} (h : adj f L = true) (k : Nat) : adj f (L.eraseIdx k) = true := by
 have hp : L.Pairwise fun a b => f a b = true := by
   rw [List.pairwise_iff_getElem]
   exact fun i j hi hj hij => adj_all ht h i j hi hj hij
 have hq := hp.sublist (List.eraseIdx_sublist L k)
 rw [adj_iff]
 intro j hj
 exact List.pairwise_iff_getElem.1 hq j (j + 1) (by omega) hj (by omega)
theorem no_ent {S : Sta} {z : Int} (hz : entN S.ino z = 0) {x : Ino} (hx : x ∈ S.ino) : ∀ e ∈ x.ents, e.2 ≠ z := fun e he q => by
 obtain ⟨k, hk, rfl⟩ := List.getElem_of_mem hx
 have h1 := entN_erase S.ino k hk z
 have h2 : 0 < cnt (S.ino[k]).ents z := by
   unfold cnt
   rw [List.countP_pos_iff]
   exact ⟨e, he, by simpa using q⟩
 omega
theorem Vx.sweep {S : Sta} {z : Int} (v : Vx S z) : Vw (sweepS S z) := by
 have hln : linksR S.ino z = entN S.ino z := links_ent (fun x hx hd => file_ents (v.ino x hx) hd) z
 unfold sweepS
 rw [hln]
 split
 · rename_i hc
   obtain ⟨c1, c2⟩ := hc
   rcases ha : atR S.ino z with _ | k
   · have hno : ∀ x ∈ S.ino, x.num ≠ z := fun x hx e => by
       have := at_isSome.2 ⟨x, hx, e⟩
       rw [ha] at this; cases this
     refine ⟨v.made, v.row, v.root, v.gv, v.ino, v.opn, v.des, fun x hx hn => v.held x hx hn (hno x hx), fun y hy => v.fnd y hy fun e => ?_⟩
     obtain ⟨x, hx, e1, -⟩ := (dir_iff v.row).1 hy
     exact hno x hx (by rw [e1, e])
   · dsimp only
     obtain ⟨hk, hn⟩ := at_get ha
     have hXe : (S.ino[k]).ents = [] := by
       rcases hd : (S.ino[k]).dir with _ | _
       · exact file_ents (v.ino _ (List.getElem_mem hk)) hd
       · exact (v.dz _ (List.getElem_mem hk) hn hd).1
     obtain ⟨L', hL'⟩ : ∃ L', S.ino.eraseIdx k = L' := ⟨_, rfl⟩
     have hm : ∀ y, y ∈ L' ↔ y ∈ S.ino ∧ y.num ≠ z := fun y => by rw [← hL', mem_erase v.row hk, hn]
     have a2 : adj ltI L' = true := by rw [← hL']; exact adj_erase (fun a b c => ltI_trans a b c) v.row k
     have hN : ∀ y, entN L' y = entN S.ino y := fun y => by
       have := entN_erase S.ino k hk y
       rw [hL', hXe] at this
       have q : cnt [] y = 0 := rfl
       omega
     have hs : ∀ y, y ≠ z → (atR S.ino y).isSome = true → (atR L' y).isSome = true := fun y hy h => by
       obtain ⟨x, hx, rfl⟩ := at_isSome.1 h
       exact at_isSome.2 ⟨x, (hm x).2 ⟨hx, hy⟩, rfl⟩
     have dirs : ∀ y, dirOf L' y = true ↔ dirOf S.ino y = true ∧ y ≠ z := fun y => by
       rw [dir_iff a2, dir_iff v.row]
       constructor
       · rintro ⟨x, hx, rfl, hd⟩
         exact ⟨⟨x, ((hm x).1 hx).1, rfl, hd⟩, ((hm x).1 hx).2⟩
       · rintro ⟨⟨x, hx, rfl, hd⟩, hne⟩
         exact ⟨x, (hm x).2 ⟨hx, hne⟩, rfl, hd⟩
     have up : ∀ y, Rch S.ino y → y ≠ z → Rch L' y := fun y r => by
       induction r with
       | root => exact fun _ => Rch.root
       | kid r0 hz ih =>
         rename_i y0 y
         intro hne
         rw [kid_iff] at hz
         obtain ⟨⟨e, he, rfl⟩, hd⟩ := hz
         rw [look_ents] at he
         rcases hl : look S.ino y0 with _ | u
         · rw [hl] at he; cases he
         · rw [hl] at he
           obtain ⟨hu, rfl⟩ := (look_mem v.row).1 hl
           have hu0 : u.num ≠ z := fun q => by
             have h1 := look_iff v.row hu
             have h2 := look_iff v.row (List.getElem_mem hk)
             rw [hn, ← q, h1] at h2
             have := Option.some.inj h2
             have he' : e ∈ u.ents := he
             rw [this, hXe] at he'
             cases he'
           refine Rch.kid (ih hu0) (kid_iff.2 ⟨?_, (dirs _).2 ⟨hd, hne⟩⟩)
           rw [ents_mem a2 ((hm u).2 ⟨hu, hu0⟩)]
           exact ⟨e, he, rfl⟩
     unfold dropS
     rw [hL']
     refine ⟨v.made, a2, ?_, fun y hy hn1 => v.gv y ((hm y).1 hy).1 hn1, fun y hy => ?_, v.opn, fun d hq => ?_, fun y hy hn1 => ?_, fun y hy => ?_⟩
     · obtain ⟨r, hr, r1, rd⟩ := v.root
       refine root_of a2 (fun y hy => ?_) ((hm r).2 ⟨List.mem_of_getElem? hr, by rw [r1]; exact fun e => v.z1 e.symm⟩) r1 rd
       by_cases e : y.num = 1
       · omega
       · have := (v.gv y ((hm y).1 hy).1 e).1; omega
     · dsimp only at hy ⊢
       have hyS := ((hm y).1 hy).1
       have g := v.ino y hyS
       have hne := no_ent c1 hyS
       unfold inoB at g ⊢
       split
       · rename_i q
         rw [if_pos q, Bool.and_eq_true] at g
         rw [Bool.and_eq_true]
         refine ⟨g.1, ?_⟩
         have g2 := g.2
         unfold entsB at g2 ⊢
         rw [Bool.and_eq_true, Bool.and_eq_true] at g2 ⊢
         refine ⟨⟨?_, g2.1.2⟩, g2.2⟩
         have g3 := g2.1.1
         rw [List.all_eq_true] at g3 ⊢
         intro e he
         have := g3 e he
         unfold entB at this ⊢
         rw [Bool.and_eq_true] at this ⊢
         exact ⟨this.1, hs _ (hne e he) this.2⟩
       · rename_i q
         rw [if_neg q] at g
         exact g
     · have g := v.des d hq
       obtain ⟨k2, ha2, hk2, hd⟩ := des_file g
       obtain ⟨_, hn2⟩ := at_get ha2
       have hne : d.2.2 ≠ z := fun q => by
         have := opP_some.2 ⟨d, hq, q⟩
         rw [c2] at this; cases this
       have hl := look_iff a2 ((hm _).2 ⟨List.getElem_mem hk2, by rw [hn2]; exact hne⟩)
       rw [hn2] at hl
       unfold look at hl
       rcases ha' : atR L' d.2.2 with _ | k'
       · rw [ha'] at hl; cases hl
       · rw [ha'] at hl
         simp only [Option.bind_some] at hl
         unfold desB at g ⊢
         dsimp only
         rw [ha']
         rw [Bool.and_eq_true] at g ⊢
         refine ⟨g.1, ?_⟩
         simp only [hl]
         simp [hd]
     · dsimp only at hy ⊢
       have := v.held y ((hm y).1 hy).1 hn1 ((hm y).1 hy).2
       unfold helB at this ⊢
       dsimp only
       rw [hN]
       exact this
     · obtain ⟨h1, h2⟩ := (dirs y).1 hy
       exact up y (v.fnd y h1 h2) h2
 · rename_i hc
   have file : ∀ x ∈ S.ino, x.num = z → x.dir = false := fun x hx e => by
     rcases hd : x.dir with _ | _
     · rfl
     · exfalso
       have h0 := (v.dz x hx e hd).2
       refine hc ⟨h0, ?_⟩
       rcases ho : (opP S.opn z).isSome with _ | _
       · rfl
       · exfalso
         obtain ⟨d, hdm, e2⟩ := opP_some.1 ho
         obtain ⟨k2, ha2, hk2, hd2⟩ := des_file (v.des d hdm)
         obtain ⟨_, hn2⟩ := at_get ha2
         have h1 := look_iff v.row hx
         have h2 := look_iff v.row (List.getElem_mem hk2)
         rw [hn2, e2, ← e, h1] at h2
         have := Option.some.inj h2
         rw [← this, hd] at hd2
         cases hd2
   refine ⟨v.made, v.row, v.root, v.gv, v.ino, v.opn, v.des, fun x hx hn => ?_, fun y hy => ?_⟩
   · by_cases e : x.num = z
     · unfold helB
       rw [file x hx e, e]
       simp only [Bool.false_eq_true, if_false, Bool.or_eq_true, bne_iff_ne]
       rcases ho : (opP S.opn z).isSome with _ | _
       · exact Or.inl fun q => hc ⟨q, ho⟩
       · exact Or.inr rfl
     · exact v.held x hx hn e
   · refine v.fnd y hy fun e => ?_
     obtain ⟨x, hx, e1, hd⟩ := (dir_iff v.row).1 hy
     rw [file x hx (by rw [e1, e])] at hd
     cases hd
theorem Vw.close {S : Sta} (v : Vw S) {j : Nat} (hj : j < S.opn.length) : Vw (sweepS (shutS S j) (S.opn[j]).2.2) := by
 obtain ⟨k, ha, hk, hd⟩ := des_file (v.des _ (List.getElem_mem hj))
 obtain ⟨_, hn⟩ := at_get ha
 have hfile : ∀ x ∈ S.ino, x.num = (S.opn[j]).2.2 → x.dir = false := fun x hx e => by
   have h1 := look_iff v.row hx
   have h2 := look_iff v.row (List.getElem_mem hk)
   rw [hn, ← e, h1] at h2
   rw [Option.some.inj h2]
   exact hd
 refine Vx.sweep ⟨v.made, v.row, v.root, v.gv, v.ino, adj_erase ltD_trans v.opn j, fun d hq => v.des d (List.mem_of_mem_eraseIdx hq), fun x hx hn1 hnz => ?_, fun y hy _ => v.fnd y hy, fun e => ?_, fun x hx e hdx => ?_⟩
 · have g := v.held x hx hn1
   unfold helB at g ⊢
   dsimp only
   split
   · rename_i q
     rw [if_pos q] at g
     exact g
   · rename_i q
     rw [if_neg q, Bool.or_eq_true] at g
     rw [Bool.or_eq_true]
     refine g.imp id fun o => ?_
     rw [opP_some] at o ⊢
     obtain ⟨d, hdm, e⟩ := o
     refine ⟨d, ?_, e⟩
     rw [List.mem_eraseIdx_iff_getElem]
     obtain ⟨i, hi, rfl⟩ := List.getElem_of_mem hdm
     exact ⟨i, hi, fun q2 => by subst q2; exact hnz e.symm, rfl⟩
 · obtain ⟨r, hr, r1, rd⟩ := v.root
   have := hfile r (List.mem_of_getElem? hr) (by rw [r1, e])
   rw [this] at rd
   cases rd
 · have := hfile x hx e
   rw [this] at hdx
   cases hdx
theorem Vw.closes {S : Sta} (v : Vw S) {c : Cal} {x : Sta × Ans} (h : closeR S c = .ok x) : Vw x.1 := by
 unfold closeR at h
 rcases hf : fdP S.opn c.core c.fd with _ | j
 · rw [hf] at h; cases h
 · rw [hf] at h
   cases h
   obtain ⟨hj, -, -⟩ := fd_get hf
   have e : desNum S.opn j = (S.opn[j]).2.2 := by unfold desNum; simp [hj]
   dsimp only
   rw [e]
   exact v.close hj
end Go.Proofs.YtmeafancgmkfkaaGreatDoor

namespace Go.Proofs.YtmeafancgmkfkaaGreatDoor
open Go.RowKit
set_option linter.unusedVariables false
theorem cnt_erase : ∀ (E : List En) (i : Nat) (hi : i < E.length) (z : Int), cnt (E.eraseIdx i) z + (if (E[i]).2 = z then 1 else 0) = cnt E z
 | e :: l, 0, _, z => by
   simp only [List.eraseIdx_cons_zero, List.getElem_cons_zero]
   unfold cnt
   rw [List.countP_cons]
   by_cases c : e.2 = z
   · simp [c]
   · simp [c]
 | e :: l, i + 1, hi, z => by
   have := cnt_erase l i (by simpa using hi) z
   simp only [List.eraseIdx_cons_succ, List.getElem_cons_succ]
   unfold cnt at this ⊢
   rw [List.countP_cons, List.countP_cons]
   omega
theorem ltE_trans9 (x y z : En) (h : ltE x y = true) (k : ltE y z = true) : ltE x z = true := below_trans h k
theorem entsB_erase {L L' : List Ino} {E : List En} (h : entsB L E = true) (hs : ∀ z, (atR L z).isSome = true → (atR L' z).isSome = true) (i : Nat) : entsB L' (E.eraseIdx i) = true := by
 have h' := entsB_mono h hs
 unfold entsB at h' ⊢
 rw [Bool.and_eq_true, Bool.and_eq_true] at h' ⊢
 obtain ⟨⟨h1, h2⟩, h3⟩ := h'
 refine ⟨⟨?_, ?_⟩, adj_erase ltE_trans9 h3 i⟩
 · rw [List.all_eq_true] at h1 ⊢
   exact fun e he => h1 e (List.mem_of_mem_eraseIdx he)
 · rw [List.all_eq_true] at h2 ⊢
   intro b hb
   have g := h2 b hb
   rw [decide_eq_true_eq] at g ⊢
   unfold inB at g ⊢
   exact Nat.le_trans (List.Sublist.countP_le (List.eraseIdx_sublist E i)) g
theorem Vw.less {S : Sta} (v : Vw S) {k : Nat} (hk : k < S.ino.length) (hDd : (S.ino[k]).dir = true) {i : Nat} (hi : i < (S.ino[k]).ents.length) {z : Int} (hz : ((S.ino[k]).ents[i]).2 = z) (he : ∀ x ∈ S.ino, x.num = z → x.dir = true → x.ents = []) :
   Vx (setE S k hk ((S.ino[k]).ents.eraseIdx i)) z := by
 obtain ⟨D, hDe⟩ : ∃ D, S.ino[k] = D := ⟨_, rfl⟩
 have hD : D ∈ S.ino := by rw [← hDe]; exact List.getElem_mem hk
 unfold setE
 simp only [hDe] at hDd hi hz ⊢
 have hpos : ∀ y ∈ S.ino, 1 ≤ y.num := fun y hy => by
   by_cases e : y.num = 1
   · omega
   · have := (v.gv y hy e).1; omega
 obtain ⟨D', hD'⟩ : ∃ D', withE D (D.ents.eraseIdx i) = D' := ⟨_, rfl⟩
 have n' : D'.num = D.num := by rw [← hD']
 have d' : D'.dir = true := by rw [← hD']; exact hDd
 have e' : D'.ents = D.ents.eraseIdx i := by rw [← hD']
 have b' : D'.data = D.data := by rw [← hD']
 rw [hD']
 obtain ⟨L', hL'⟩ : ∃ L', S.ino.set k D' = L' := ⟨_, rfl⟩
 have a2 : adj ltI L' = true := by rw [← hL']; exact adj_set v.row hk (by rw [hDe]; exact n')
 have hm : ∀ y, y ∈ L' ↔ y = D' ∨ y ∈ S.ino ∧ y.num ≠ D.num := fun y => by rw [← hL', mem_set v.row hk, hDe]
 have hDm : D' ∈ L' := (hm D').2 (Or.inl rfl)
 have same : ∀ y ∈ S.ino, y.num = D.num → y = D := fun y hy q => by
   have h1 := look_iff v.row hy
   have h2 := look_iff v.row hD
   rw [q, h2] at h1
   exact (Option.some.inj h1).symm
 have old : ∀ y ∈ S.ino, y.num ≠ D.num → y ∈ L' := fun y hy hn => (hm y).2 (Or.inr ⟨hy, hn⟩)
 have like : ∀ y ∈ S.ino, ∃ y' ∈ L', y'.num = y.num ∧ y'.dir = y.dir ∧ ∀ e ∈ y.ents, e.2 ≠ z → e ∈ y'.ents := fun y hy => by
   by_cases q : y.num = D.num
   · have := same y hy q
     subst this
     refine ⟨D', hDm, n', by rw [d', hDd], fun e he hne => ?_⟩
     rw [e', List.mem_eraseIdx_iff_getElem]
     obtain ⟨m, hm9, rfl⟩ := List.getElem_of_mem he
     exact ⟨m, hm9, fun q2 => by subst q2; exact hne hz, rfl⟩
   · exact ⟨y, old y hy q, rfl, rfl, fun e he _ => he⟩
 have hs : ∀ w, (atR S.ino w).isSome = true → (atR L' w).isSome = true := fun w h => by
   obtain ⟨y, hy, rfl⟩ := at_isSome.1 h
   obtain ⟨y', hy', e1, -⟩ := like y hy
   exact at_isSome.2 ⟨y', hy', e1⟩
 have hN : ∀ w, entN L' w + (if z = w then 1 else 0) = entN S.ino w := fun w => by
   have h1 := entN_set S.ino k hk D' w
   have h2 := cnt_erase D.ents i hi w
   rw [hL', hDe, e'] at h1
   rw [hz] at h2
   omega
 have dirs : ∀ w, dirOf L' w = true ↔ dirOf S.ino w = true := fun w => by
   rw [dir_iff a2, dir_iff v.row]
   constructor
   · rintro ⟨y, hy, rfl, hd⟩
     rcases (hm y).1 hy with rfl | ⟨hy, -⟩
     · exact ⟨D, hD, n'.symm, hDd⟩
     · exact ⟨y, hy, rfl, hd⟩
   · rintro ⟨y, hy, rfl, hd⟩
     obtain ⟨y', hy', e1, e2, -⟩ := like y hy
     exact ⟨y', hy', e1, by rw [e2]; exact hd⟩
 have noz : ∀ x ∈ S.ino, x.num = z → x.ents = [] := fun x hx e => by
   rcases hd : x.dir with _ | _
   · exact file_ents (v.ino x hx) hd
   · exact he x hx e hd
 have up : ∀ w, Rch S.ino w → w ≠ z → Rch L' w := fun w r => by
   induction r with
   | root => exact fun _ => Rch.root
   | kid r0 hkd ih =>
     rename_i y0 y
     intro hne
     rw [kid_iff] at hkd
     obtain ⟨⟨e, hee, rfl⟩, hd⟩ := hkd
     rw [look_ents] at hee
     rcases hl : look S.ino y0 with _ | u
     · rw [hl] at hee; cases hee
     · rw [hl] at hee
       obtain ⟨hu, rfl⟩ := (look_mem v.row).1 hl
       have hee' : e ∈ u.ents := hee
       have hu0 : u.num ≠ z := fun q => by
         rw [noz u hu q] at hee'
         cases hee'
       obtain ⟨u', hu', e1, -, e3⟩ := like u hu
       refine Rch.kid (ih hu0) (kid_iff.2 ⟨?_, (dirs _).2 hd⟩)
       rw [← e1, ents_mem a2 hu']
       exact ⟨e, e3 e hee' hne, rfl⟩
 have gD := v.ino D hD
 unfold inoB at gD
 rw [hDd] at gD
 simp only [if_true, Bool.and_eq_true] at gD
 have hz1 : z ≠ 1 := by
   have g2 := gD.2
   unfold entsB at g2
   rw [Bool.and_eq_true, Bool.and_eq_true, List.all_eq_true] at g2
   have := g2.1.1 _ (List.getElem_mem hi)
   unfold entB at this
   rw [hz, Bool.and_eq_true, Bool.and_eq_true] at this
   simpa using this.1.2
 rw [hL']
 refine ⟨v.made, a2, ?_, fun y hy hn => ?_, fun y hy => ?_, v.opn, fun d hq => ?_, fun y hy hn hnz => ?_, fun w hw hnz => up w (v.fnd w ((dirs w).1 hw)) hnz, hz1, fun x hx e hd => ?_⟩
 · obtain ⟨r, hr, r1, rd⟩ := v.root
   obtain ⟨r', hr', e1, e2, -⟩ := like r (List.mem_of_getElem? hr)
   refine root_of a2 (fun y hy => ?_) hr' (by rw [e1]; exact r1) (by rw [e2]; exact rd)
   rcases (hm y).1 hy with rfl | ⟨hy, -⟩
   · rw [n']; exact hpos D hD
   · exact hpos y hy
 · dsimp only at hy ⊢
   rcases (hm y).1 hy with rfl | ⟨hy, -⟩
   · rw [n'] at hn ⊢
     exact v.gv D hD hn
   · exact v.gv y hy hn
 · dsimp only at hy ⊢
   rcases (hm y).1 hy with rfl | ⟨hy, -⟩
   · unfold inoB
     rw [d', b', e']
     simp only [if_true, Bool.and_eq_true]
     exact ⟨gD.1, entsB_erase gD.2 hs i⟩
   · have g := v.ino y hy
     unfold inoB at g ⊢
     split
     · rename_i q
       rw [if_pos q, Bool.and_eq_true] at g
       rw [Bool.and_eq_true]
       exact ⟨g.1, entsB_mono g.2 hs⟩
     · rename_i q
       rw [if_neg q] at g
       exact g
 · have g := v.des d hq
   obtain ⟨k2, ha, hk2, hd⟩ := des_file g
   obtain ⟨_, hn2⟩ := at_get ha
   have hne : (S.ino[k2]).num ≠ D.num := fun q => by
     rw [same _ (List.getElem_mem hk2) q, hDd] at hd
     cases hd
   have hl := look_iff a2 (old _ (List.getElem_mem hk2) hne)
   rw [hn2] at hl
   unfold look at hl
   rcases ha' : atR L' d.2.2 with _ | k'
   · rw [ha'] at hl; cases hl
   · rw [ha'] at hl
     simp only [Option.bind_some] at hl
     unfold desB at g ⊢
     dsimp only
     rw [ha']
     rw [Bool.and_eq_true] at g ⊢
     refine ⟨g.1, ?_⟩
     simp only [hl]
     simp [hd]
 · dsimp only at hy ⊢
   unfold helB
   dsimp only
   have hNy : entN L' y.num = entN S.ino y.num := by
     have := hN y.num
     rw [if_neg (fun q => hnz q.symm)] at this
     omega
   rw [hNy]
   rcases (hm y).1 hy with rfl | ⟨hy, -⟩
   · rw [n'] at hn ⊢
     have := v.held D hD hn
     unfold helB at this
     rw [hDd] at this
     rw [d']
     exact this
   · have := v.held y hy hn
     unfold helB at this
     exact this
 · dsimp only at hx ⊢
   rcases (hm x).1 hx with rfl | ⟨hx, -⟩
   · exfalso
     have := noz D hD (by rw [← n', e])
     rw [this] at hi
     cases hi
   · refine ⟨he x hx e hd, ?_⟩
     have h1 := v.held x hx (by rw [e]; exact hz1)
     unfold helB at h1
     rw [hd, e] at h1
     have h2 : entN S.ino z = 1 := by simpa using h1
     have := hN z
     rw [if_pos rfl] at this
     omega
theorem take_at {S : Sta} {d : Int} {t : ByteArray} {k i : Nat} (hat : atR S.ino d = some k) (hk : k < S.ino.length) (he : entsOf S.ino d = (S.ino[k]).ents) (hp : plR (entsOf S.ino d) t = some i) (hi : i < (S.ino[k]).ents.length) :
   takeS S d t = sweepS (setE S k hk ((S.ino[k]).ents.eraseIdx i)) ((S.ino[k]).ents[i]).2 := by
 unfold takeS
 rw [hat]
 dsimp only
 rw [hp]
 dsimp only
 rw [setES_in hk, he]
 unfold entNum
 simp [hi]
theorem Vw.unlinks {S : Sta} (v : Vw S) (hw : Wel S) {c : Cal} {x : Sta × Ans} (h : unlinkR S c = .ok x) : Vw x.1 := by
 unfold unlinkR at h
 rcases hs : spotR S.ino c.path with code | ⟨d, t⟩
 · rw [hs] at h; cases h
 rw [hs] at h
 simp only at h
 rcases hp : plR (entsOf S.ino d) t with _ | i
 · rw [hp] at h; cases h
 rw [hp] at h
 simp only at h
 split at h
 · cases h
 rename_i hd
 cases h
 obtain ⟨k, hk, hat, he⟩ := hw.spot hs
 have hdd : (S.ino[k]).dir = true := by
   have := spot_dir hs
   rw [dir_of hat hk] at this
   exact this
 have hi : i < (S.ino[k]).ents.length := by
   rw [he] at hp
   exact (idx_get hp).1
 dsimp only
 rw [take_at hat hk he hp hi]
 have e9 : entNum (entsOf S.ino d) i = ((S.ino[k]).ents[i]).2 := by rw [he]; unfold entNum; simp [hi]
 refine (v.less hk hdd hi rfl fun y hy e hyd => ?_).sweep
 exfalso
 refine hd ?_
 rw [e9]
 exact (dir_iff v.row).2 ⟨y, hy, e, hyd⟩
theorem Vw.rmdirs {S : Sta} (v : Vw S) (hw : Wel S) {c : Cal} {x : Sta × Ans} (h : rmdirR S c = .ok x) : Vw x.1 := by
 unfold rmdirR at h
 rcases hs : spotR S.ino c.path with code | ⟨d, t⟩
 · rw [hs] at h; cases h
 rw [hs] at h
 simp only at h
 rcases hp : plR (entsOf S.ino d) t with _ | i
 · rw [hp] at h; cases h
 rw [hp] at h
 simp only at h
 split at h
 · split at h
   · rename_i hd hem
     cases h
     obtain ⟨k, hk, hat, he⟩ := hw.spot hs
     have hdd : (S.ino[k]).dir = true := by
       have := spot_dir hs
       rw [dir_of hat hk] at this
       exact this
     have hi : i < (S.ino[k]).ents.length := by
       rw [he] at hp
       exact (idx_get hp).1
     dsimp only
     rw [take_at hat hk he hp hi]
     have e9 : entNum (entsOf S.ino d) i = ((S.ino[k]).ents[i]).2 := by rw [he]; unfold entNum; simp [hi]
     refine (v.less hk hdd hi rfl fun y hy e hyd => ?_).sweep
     rw [e9, ← e, ents_mem v.row hy] at hem
     exact hem
   · cases h
 · cases h
end Go.Proofs.YtmeafancgmkfkaaGreatDoor
