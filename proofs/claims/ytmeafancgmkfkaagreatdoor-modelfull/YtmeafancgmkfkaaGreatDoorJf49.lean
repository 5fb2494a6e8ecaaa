/-
  Joined of my texts Lh Li Dn Fm Dm.
-/
import Derived.Test.YtmeafancgmkfkaaGreatDoorJf48
import Derived.Test.YtmeafancgmkfkaaGreatDoorJf4
import Derived.Test.YtmeafancgmkfkaaGreatDoorJf3
import Derived.Laws.BytesArg
import Derived.Test.YtmeafancgmkfkaaGreatDoorJf43
import Derived.Test.YtmeafancgmkfkaaGreatDoorJf2
namespace Go.Proofs.YtmeafancgmkfkaaGreatDoor
open Go.RowKit
set_option linter.unusedVariables false
theorem move_out {S : Sta} (v : Vw S) {k k1 : Nat} (hk : k < S.ino.length) (hk1 : k1 < S.ino.length) {D D1 : Ino} (hDe : S.ino[k] = D) (hDe1 : S.ino[k1] = D1) (hne : D.num ≠ D1.num) (hd : D.dir = true) (hd1 : D1.dir = true) {t1 t : ByteArray} {i1 : Nat} (hp1 : plR D1.ents t1 = some i1) (hi1 : i1 < D1.ents.length) {z : Int} (hz : (D1.ents[i1]).2 = z)
   (hc : chk t = 0) (hp : (plR D.ents t).isSome = false) (hf : nFull D.ents D.num t 0 ⟨#[]⟩ < 4) :
   Mv S.ino ((S.ino.set k (withE D (insR ltE D.ents (t, z)))).set k1 (withE D1 (D1.ents.eraseIdx i1))) D1.num t1 D.num t z := by
 have hD : D ∈ S.ino := by rw [← hDe]; exact List.getElem_mem hk
 have hD1 : D1 ∈ S.ino := by rw [← hDe1]; exact List.getElem_mem hk1
 have hkk : k ≠ k1 := fun e => by
   subst e
   rw [hDe] at hDe1
   rw [hDe1] at hne
   exact hne rfl
 have gE : entsB S.ino D.ents = true := by
   have := ents_of v hk (by rw [hDe]; exact hd)
   rw [hDe] at this
   exact this
 have gE1 : entsB S.ino D1.ents = true := by
   have := ents_of v hk1 (by rw [hDe1]; exact hd1)
   rw [hDe1] at this
   exact this
 have n1 : (D1.ents[i1]).1 = t1 := name_eq (by simpa using (idx_get hp1).2)
 have hpos : ∀ y ∈ S.ino, 1 ≤ y.num := fun y hy => by
   by_cases e : y.num = 1
   · omega
   · have := (v.gv y hy e).1; omega
 obtain ⟨D', hD'⟩ : ∃ D', withE D (insR ltE D.ents (t, z)) = D' := ⟨_, rfl⟩
 have nn : D'.num = D.num := by rw [← hD']
 have dd : D'.dir = true := by rw [← hD']; exact hd
 have ee : D'.ents = insR ltE D.ents (t, z) := by rw [← hD']
 have bb : D'.data = D.data := by rw [← hD']
 obtain ⟨D2, hD2⟩ : ∃ D2, withE D1 (D1.ents.eraseIdx i1) = D2 := ⟨_, rfl⟩
 have nn1 : D2.num = D1.num := by rw [← hD2]
 have dd1 : D2.dir = true := by rw [← hD2]; exact hd1
 have ee1 : D2.ents = D1.ents.eraseIdx i1 := by rw [← hD2]
 have bb1 : D2.data = D1.data := by rw [← hD2]
 rw [hD', hD2]
 have a1 : adj ltI (S.ino.set k D') = true := adj_set v.row hk (by rw [hDe]; exact nn)
 have hk1' : k1 < (S.ino.set k D').length := by rw [List.length_set]; exact hk1
 have g1 : (S.ino.set k D')[k1] = D1 := by rw [List.getElem_set, if_neg hkk]; exact hDe1
 obtain ⟨L', hL'⟩ : ∃ L', (S.ino.set k D').set k1 D2 = L' := ⟨_, rfl⟩
 have a2 : adj ltI L' = true := by rw [← hL']; exact adj_set a1 hk1' (by rw [g1]; exact nn1)
 have hm : ∀ y, y ∈ L' ↔ y = D2 ∨ (y = D' ∨ y ∈ S.ino ∧ y.num ≠ D.num) ∧ y.num ≠ D1.num := fun y => by
   rw [← hL', mem_set a1 hk1', g1, mem_set v.row hk, hDe]
 have m2 : D2 ∈ L' := (hm D2).2 (Or.inl rfl)
 have m1 : D' ∈ L' := (hm D').2 (Or.inr ⟨Or.inl rfl, by rw [nn]; exact hne⟩)
 have old : ∀ y ∈ S.ino, y.num ≠ D.num → y.num ≠ D1.num → y ∈ L' := fun y hy h1 h2 => (hm y).2 (Or.inr ⟨Or.inr ⟨hy, h1⟩, h2⟩)
 have one : ∀ {a b : Ino}, a ∈ S.ino → b ∈ S.ino → a.num = b.num → a = b := fun {a b} ha hb q => by
   have h1 := look_iff v.row ha
   have h2 := look_iff v.row hb
   rw [q, h2] at h1
   exact (Option.some.inj h1).symm
 have fwd : ∀ y ∈ S.ino, ∃ y' ∈ L', y'.num = y.num ∧ y'.dir = y.dir ∧ y'.data = y.data ∧ ∀ e ∈ y.ents, ¬ (y.num = D1.num ∧ e.1 = t1) → e ∈ y'.ents := fun y hy => by
   by_cases q1 : y.num = D1.num
   · have := one hy hD1 q1
     subst this
     refine ⟨D2, m2, nn1, by rw [dd1, hd1], bb1, fun e he hn => ?_⟩
     rw [ee1, List.mem_eraseIdx_iff_getElem]
     obtain ⟨j, hj, rfl⟩ := List.getElem_of_mem he
     exact ⟨j, hj, fun q => by subst q; exact hn ⟨rfl, n1⟩, rfl⟩
   · by_cases q : y.num = D.num
     · have := one hy hD q
       subst this
       refine ⟨D', m1, nn, by rw [dd, hd], bb, fun e he _ => ?_⟩
       rw [ee]
       exact mem_ins.2 (Or.inr he)
     · exact ⟨y, old y hy q q1, rfl, rfl, rfl, fun e he _ => he⟩
 have hs : ∀ w, (atR S.ino w).isSome = true → (atR L' w).isSome = true := fun w h => by
   obtain ⟨y, hy, rfl⟩ := at_isSome.1 h
   obtain ⟨y', hy', e1, -⟩ := fwd y hy
   exact at_isSome.2 ⟨y', hy', e1⟩
 have hzz : z ≠ 1 ∧ (atR L' z).isSome = true := by
   have g := gE1
   unfold entsB at g
   rw [Bool.and_eq_true, Bool.and_eq_true, List.all_eq_true] at g
   have := g.1.1 _ (List.getElem_mem hi1)
   unfold entB at this
   rw [hz, Bool.and_eq_true, Bool.and_eq_true] at this
   exact ⟨by simpa using this.1.2, hs z this.2⟩
 rw [hL']
 refine ⟨a2, fwd, fun y hy => ?_, ⟨D', m1, nn, dd, by rw [ee]; exact mem_ins.2 (Or.inl rfl)⟩, fun w => ?_⟩
 · rcases (hm y).1 hy with rfl | ⟨rfl | ⟨hy, -⟩, -⟩
   · exact ⟨D1, hD1, nn1, by rw [dd1, hd1], bb1, fun _ => by rw [ee1]; exact entsB_erase gE1 hs i1, fun q => by rw [dd1] at q; cases q⟩
   · exact ⟨D, hD, nn, by rw [dd, hd], bb, fun _ => by rw [ee]; exact entsB_ins gE hs hc hzz.1 hzz.2 hp (by have := hpos D hD; omega) hf, fun q => by rw [dd] at q; cases q⟩
   · refine ⟨y, hy, rfl, rfl, rfl, fun hyd => ?_, fun hyd => file_ents (v.ino y hy) hyd⟩
     have g := v.ino y hy
     unfold inoB at g
     rw [hyd] at g
     simp only [if_true, Bool.and_eq_true] at g
     exact entsB_mono g.2 hs
 · have h1 := entN_set S.ino k hk D' w
   have h2 := entN_set (S.ino.set k D') k1 hk1' D2 w
   have h3 := cnt_ins D.ents (t, z) w
   have h4 := cnt_erase D1.ents i1 hi1 w
   rw [hL', g1, ee1] at h2
   rw [hDe, ee] at h1
   rw [hz] at h4
   dsimp only at h3
   omega
theorem spot_walk {L : List Ino} {s : ByteArray} {d : Int} {t : ByteArray} (h : spotR L s = .ok (d, t)) : ∃ ns, walkR L 1 ns = (d, 0) ∧ (parseR s).1 = ns ++ [t] ∧ (parseR s).2 = 0 := by
 unfold spotR at h
 split at h
 · cases h
 rename_i h1
 split at h
 · cases h
 rename_i h2
 split at h
 · cases h
 rename_i h3
 split at h
 · cases h
   refine ⟨(parseR s).1.take ((parseR s).1.length - 1), Prod.ext rfl (by simpa using h3), ?_, ?_⟩
   · have hl : (parseR s).1.length - 1 < (parseR s).1.length := by omega
     have e := drop_tx hl
     have e2 : (parseR s).1.drop ((parseR s).1.length - 1 + 1) = [] := List.drop_of_length_le (by omega)
     rw [e2] at e
     rw [← e, List.take_append_drop]
   · have q : codeR (parseR s).2 = 0 := by simpa using h1
     unfold codeR at q
     split at q
     · assumption
     · split at q <;> cases q
 · cases h
theorem below_not {a b : ByteArray} {ns ms : List ByteArray} {t1 t : ByteArray} (ha : (parseR a).1 = ns ++ [t1]) (ha0 : (parseR a).2 = 0) (hb : (parseR b).1 = ms ++ [t]) (hb0 : (parseR b).2 = 0) (h : belowR a b = false) : ¬ (ns ++ [t1]) <+: ms := by
 intro hp
 have hl := hp.length_le
 have : belowR a b = true := by
   unfold belowR
   rw [ha, hb, ha0, hb0]
   have e : (ns ++ [t1]) = (ms ++ [t]).take (ns ++ [t1]).length := List.prefix_iff_eq_take.1 (hp.trans (List.prefix_append ms [t]))
   rw [← e]
   simp only [List.length_append, List.length_cons, List.length_nil] at hl ⊢
   simp
   omega
 rw [this] at h
 cases h
theorem sweep_not {S : Sta} {z : Int} (h : linksR S.ino z ≠ 0) : sweepS S z = S := by
 unfold sweepS
 rw [if_neg fun q => h q.1]
theorem Vw.renames {S : Sta} (v : Vw S) (hw : Wel S) {c : Cal} {x : Sta × Ans} (h : renameR S c = .ok x) : Vw x.1 := by
 unfold renameR at h
 rcases hs1 : spotR S.ino c.path with code | ⟨d1, t1⟩
 · rw [hs1] at h; cases h
 rw [hs1] at h
 simp only at h
 rcases hp1 : plR (entsOf S.ino d1) t1 with _ | i1
 · rw [hp1] at h; cases h
 rw [hp1] at h
 simp only at h
 rcases hs2 : spotR S.ino c.path2 with code | ⟨d, t⟩
 · rw [hs2] at h; cases h
 rw [hs2] at h
 simp only at h
 split at h
 · cases h
 rename_i hb
 split at h
 · cases h
 rename_i hp
 split at h
 · cases h
 rename_i hf
 cases h
 obtain ⟨k1, hk1, hat1, he1⟩ := hw.spot hs1
 obtain ⟨k, hk, hat, he⟩ := hw.spot hs2
 obtain ⟨_, hn1⟩ := at_get hat1
 obtain ⟨_, hn⟩ := at_get hat
 have hd1 : (S.ino[k1]).dir = true := by
   have := spot_dir hs1
   rw [dir_of hat1 hk1] at this
   exact this
 have hd : (S.ino[k]).dir = true := by
   have := spot_dir hs2
   rw [dir_of hat hk] at this
   exact this
 rw [he1] at hp1
 have hi1 := (idx_get hp1).1
 rw [he] at hp hf
 obtain ⟨z, hz⟩ : ∃ z, ((S.ino[k1]).ents[i1]).2 = z := ⟨_, rfl⟩
 have ez : entNum (entsOf S.ino d1) i1 = z := by rw [he1, ent_num hi1]; exact hz
 obtain ⟨ns, w1, pa, pa0⟩ := spot_walk hs1
 obtain ⟨ms, w2, pb, pb0⟩ := spot_walk hs2
 have hbn := below_not pa pa0 pb pb0 (by simpa using hb)
 have hE : Edge S.ino d1 t1 z := ⟨S.ino[k1], List.getElem_mem hk1, hn1, hd1, i1, hp1, hi1, hz⟩
 have hpos : d ≠ 0 := by
   have : 1 ≤ (S.ino[k]).num := (hw.rg _ (List.getElem_mem hk)).1
   omega
 have hcnt : entN S.ino z ≠ 0 := fun q => no_ent q (List.getElem_mem hk1) _ (List.getElem_mem hi1) hz
 dsimp only
 rw [ez, putS_at hat hk]
 -- what the move comes to
 have fin : ∀ {L' : List Ino}, Mv S.ino L' d1 t1 d t z → Vw (sweepS ⟨L', S.opn, S.made⟩ z) := fun {L'} m => by
   have vv := m.moved v hE w1 w2 (spot_dir hs2) hbn
   have hl : linksR L' z = entN L' z := links_ent (fun y hy hyd => by
     obtain ⟨_, _, _, _, _, _, e5⟩ := m.bwd y hy
     exact e5 hyd) z
   rw [sweep_not (by rw [hl, m.sum]; exact hcnt)]
   exact vv
 obtain ⟨S1, hS1⟩ : ∃ S1, setE S k hk (insR ltE (S.ino[k]).ents (t, z)) = S1 := ⟨_, rfl⟩
 have i1e : S1.ino = S.ino.set k (withE (S.ino[k]) (insR ltE (S.ino[k]).ents (t, z))) := by rw [← hS1]
 have o1 : S1.opn = S.opn := by rw [← hS1]
 have m1 : S1.made = S.made := by rw [← hS1]
 have ad1 : adj ltI S1.ino = true := by rw [i1e]; exact adj_set v.row hk rfl
 have hk1' : k1 < S1.ino.length := by rw [i1e, List.length_set]; exact hk1
 rw [hS1]
 by_cases q : k = k1
 · subst q
   have g : S1.ino[k] = withE (S.ino[k]) (insR ltE (S.ino[k]).ents (t, z)) := by simp [i1e]
   have hat' : atR S1.ino d1 = some k := by
     have := at_num ad1 hk1'
     rw [g] at this
     rw [← hn1]
     exact this
   have edd : d = d1 := by rw [← hn, ← hn1]
   obtain ⟨i2, hp2, hi2, -⟩ := pl_ins (e := (t, z)) hp1 (by
     rw [beq_eq_false_iff_ne]
     intro q2
     have := pl_none (by simpa using hp) _ (List.getElem_mem hi1)
     have n1 : ((S.ino[k]).ents[i1]).1 = t1 := name_eq (by simpa using (idx_get hp1).2)
     exact this (by rw [n1]; exact (name_eq q2).symm))
   obtain ⟨mv, z2⟩ := move_in v hk rfl hd hp1 hi1 hz (spot_name hs2).1 (by simpa using hp) (by rw [hn]; rw [← edd] at hf; omega) rfl hp2 hi2
   have ge : (S1.ino[k]).ents = insR ltE (S.ino[k]).ents (t, z) := by rw [g]
   have he' : entsOf S1.ino d1 = (S1.ino[k]).ents := ents_at hat' hk1'
   rw [take_at hat' hk1' he' (i := i2) (by rw [he', ge]; exact hp2) (by rw [ge]; exact hi2)]
   have e2 : ((S1.ino[k]).ents[i2]'(by rw [ge]; exact hi2)).2 = z := by
     have : (S1.ino[k]).ents[i2]'(by rw [ge]; exact hi2) = (insR ltE (S.ino[k]).ents (t, z))[i2] := by simp only [ge]
     rw [this]
     exact z2
   rw [e2]
   have e3 : setE S1 k hk1' ((S1.ino[k]).ents.eraseIdx i2) = ⟨S.ino.set k (withE (S.ino[k]) ((insR ltE (S.ino[k]).ents (t, z)).eraseIdx i2)), S.opn, S.made⟩ := by
     unfold setE
     rw [g, i1e, o1, m1, List.set_set]
   rw [e3]
   rw [hn1] at mv
   rw [edd] at fin
   exact fin mv
 · have g : S1.ino[k1] = S.ino[k1] := by simp only [i1e]; rw [List.getElem_set, if_neg q]
   have hne : (S.ino[k]).num ≠ (S.ino[k1]).num := fun e => by
     rcases Nat.lt_or_gt_of_ne q with a | a
     · have := adj_lt v.row k k1 hk hk1 a; omega
     · have := adj_lt v.row k1 k hk1 hk a; omega
   have hat' : atR S1.ino d1 = some k1 := by
     have := at_num ad1 hk1'
     rw [g, hn1] at this
     exact this
   have ge : (S1.ino[k1]).ents = (S.ino[k1]).ents := by rw [g]
   have he' : entsOf S1.ino d1 = (S1.ino[k1]).ents := ents_at hat' hk1'
   rw [take_at hat' hk1' he' (i := i1) (by rw [he', ge]; exact hp1) (by rw [ge]; exact hi1)]
   have e2 : ((S1.ino[k1]).ents[i1]'(by rw [ge]; exact hi1)).2 = z := by
     have : (S1.ino[k1]).ents[i1]'(by rw [ge]; exact hi1) = (S.ino[k1]).ents[i1] := by simp only [ge]
     rw [this]
     exact hz
   rw [e2]
   have e3 : setE S1 k1 hk1' ((S1.ino[k1]).ents.eraseIdx i1) = ⟨(S.ino.set k (withE (S.ino[k]) (insR ltE (S.ino[k]).ents (t, z)))).set k1 (withE (S.ino[k1]) ((S.ino[k1]).ents.eraseIdx i1)), S.opn, S.made⟩ := by
     unfold setE
     rw [g, i1e, o1, m1]
   rw [e3]
   have mv := move_out v hk hk1 rfl rfl hne hd hd1 hp1 hi1 hz (spot_name hs2).1 (by simpa using hp) (by
     rw [hn, ← full_other (d1 := d1) (t1 := t1) (by rw [← hn, ← hn1]; exact hne.symm) hpos]
     omega)
   rw [hn, hn1] at mv
   exact fin mv
end Go.Proofs.YtmeafancgmkfkaaGreatDoor

namespace Go.Proofs.YtmeafancgmkfkaaGreatDoor
open Go.RowKit
set_option linter.unusedVariables false
theorem may_stays {S : Sta} (hS : mayB S = true) (c : Cal) {pick : List Int → Int} (hp : ∀ l, l ≠ [] → pick l ∈ l) : mayB (playR S c pick).1 = true := by
 by_cases hk : c.kind = 11
 · unfold playR
   split
   · rename_i hq
     rcases hd : doR S c pick with e | x
     · exact hS
     · refine may_view.2 ((may_view.1 hS).renames (wel_of hS) (c := c) (x := x) ?_)
       unfold doR at hd
       simp only [hk] at hd
       simpa using hd
   · exact hS
 · exact may_keeps hS hp hk
end Go.Proofs.YtmeafancgmkfkaaGreatDoor

namespace Go.Proofs.YtmeafancgmkfkaaGreatDoor
open Go.RowKit
set_option linter.unusedVariables false
def digs (n : Nat) : List Int := if n < 10 then [48 + (n : Int)] else if n < 100 then [48 + ((n / 10 : Nat) : Int), 48 + ((n % 10 : Nat) : Int)] else [48 + ((n / 100 : Nat) : Int), 48 + ((n / 10 % 10 : Nat) : Int), 48 + ((n % 10 : Nat) : Int)]
theorem digs_length (n : Nat) : 1 ≤ (digs n).length ∧ (digs n).length ≤ 3 := by unfold digs; split <;> (try split) <;> simp
def kn (c : UInt8) (n : Nat) : ByteArray := ⟨#[c]⟩ ++ strOfNums (digs n)
theorem kn_size (c : UInt8) (n : Nat) : (kn c n).size ≤ 4 := by
 unfold kn
 rw [ByteArray.size_append, strOfNums_size]
 have := (digs_length n).2
 show 1 + _ ≤ 4
 omega
def undig (s : ByteArray) : Nat := (s.data.toList.drop 1).foldl (fun a b => a * 10 + (b.toNat - 48)) 0
theorem undig_all : ∀ n : Fin 464, undig (kn 107 n.1) = n.1 ∧ undig (kn 109 n.1) = n.1 := by decide +kernel
theorem kn_inj_k {n m : Nat} (hn : n < 464) (hm : m < 464) (h : kn 107 n = kn 107 m) : n = m := by
 have h1 := (undig_all ⟨n, hn⟩).1
 have h2 := (undig_all ⟨m, hm⟩).1
 exact h1.symm.trans ((congrArg undig h).trans h2)
def kb : List Int := [4, 5, 6, 7, 0, 1, 2, 3, 4, 5, 3, 4, 5, 6, 7, 0, 1, 2, 3, 4, 2, 3, 4, 5, 6, 7, 0, 1, 2, 3, 1, 2, 3, 4, 5, 6, 7, 0, 1, 2, 0, 1, 2, 3, 4, 5, 6, 7, 0, 1, 7, 0, 1, 2, 3, 4, 5, 6, 7, 0, 6, 7, 0, 1, 2, 3, 4, 5, 6, 7, 5, 6, 7, 0, 1, 2, 3, 4, 5, 6, 4, 5, 6, 7, 0, 1, 2, 3, 4, 5, 3, 4, 5, 6, 7, 0, 1, 2, 3, 4, 5, 6, 7, 0, 1, 2, 3, 4, 5, 6, 4, 5, 6, 7, 0, 1, 2, 3, 4, 5, 3, 4, 5, 6, 7, 0, 1, 2, 3, 4, 2, 3, 4, 5, 6, 7, 0, 1, 2, 3, 1, 2, 3, 4, 5, 6, 7, 0, 1, 2, 0, 1, 2, 3, 4, 5, 6, 7, 0, 1, 7, 0, 1, 2, 3, 4, 5, 6, 7, 0, 6, 7, 0, 1, 2, 3, 4, 5, 6, 7, 5, 6, 7, 0, 1, 2, 3, 4, 5, 6, 4, 5, 6, 7, 0, 1, 2, 3, 4, 5, 6, 7, 0, 1, 2, 3, 4, 5, 6, 7, 5, 6, 7, 0, 1, 2, 3, 4, 5, 6, 4, 5, 6, 7, 0, 1, 2, 3, 4, 5, 3, 4, 5, 6, 7, 0, 1, 2, 3, 4, 2, 3, 4, 5, 6, 7, 0, 1, 2, 3, 1, 2, 3, 4, 5, 6, 7, 0, 1, 2, 0, 1, 2, 3, 4, 5, 6, 7, 0, 1, 7, 0, 1, 2, 3, 4, 5, 6, 7, 0, 6, 7, 0, 1, 2, 3, 4, 5, 6, 7, 5, 6, 7, 0, 1, 2, 3, 4, 5, 6, 7, 0, 1, 2, 3, 4, 5, 6, 7, 0, 6, 7, 0, 1, 2, 3, 4, 5, 6, 7, 5, 6, 7, 0, 1, 2, 3, 4, 5, 6, 4, 5, 6, 7, 0, 1, 2, 3, 4, 5, 3, 4, 5, 6, 7, 0, 1, 2, 3, 4, 2, 3, 4, 5, 6, 7, 0, 1, 2, 3, 1, 2, 3, 4, 5, 6, 7, 0, 1, 2, 0, 1, 2, 3, 4, 5, 6, 7, 0, 1, 7, 0, 1, 2, 3, 4, 5, 6, 7, 0, 6, 7, 0, 1, 2, 3, 4, 5, 6, 7, 0, 1, 2, 3, 4, 5, 6, 7, 0, 1, 7, 0, 1, 2, 3, 4, 5, 6, 7, 0, 6, 7, 0, 1, 2, 3, 4, 5, 6, 7, 5, 6, 7, 0, 1, 2, 3, 4, 5, 6, 4, 5, 6, 7, 0, 1, 2, 3, 4, 5, 3, 4, 5, 6, 7, 0, 1, 2, 3, 4, 2, 3, 4, 5]
end Go.Proofs.YtmeafancgmkfkaaGreatDoor

namespace Go.Proofs.YtmeafancgmkfkaaGreatDoor
open Go.RowKit
set_option linter.unusedVariables false
set_option linter.unusedSimpArgs false
def fmL (c g : Nat) : List Ino := (List.range g).map fun j : Nat => ⟨2 + (c : Int) + 8 * (j : Int), false, [], ⟨#[]⟩⟩
def mmL (c g : Nat) : List Int := if c = 0 then [(g : Int), 0] else [0, (g : Int)]
def fS (c g : Nat) (E : List En) : Sta := ⟨⟨1, true, E, ⟨#[]⟩⟩ :: fmL c g, [], mmL c g⟩
def fC (c : Nat) (s : ByteArray) : Cal := ⟨0, (c : Int), 0, 0, 0, ⟨#[47]⟩ ++ s, ⟨#[]⟩, ⟨#[]⟩⟩
theorem fS_new {c : Nat} (hc : c < 2) : newS 2 = fS c 0 [] := by
 have : c = 0 ∨ c = 1 := by omega
 rcases this with rfl | rfl <;> rfl
theorem mm_len (c g : Nat) : (mmL c g).length = 2 := by unfold mmL; split <;> rfl
theorem mm_at {c : Nat} (hc : c < 2) (g : Nat) : (mmL c g).getD c 0 = (g : Int) := by
 have : c = 0 ∨ c = 1 := by omega
 rcases this with rfl | rfl <;> rfl
theorem mm_set {c : Nat} (hc : c < 2) (g : Nat) : (mmL c g).set c ((g : Int) + 1) = mmL c (g + 1) := by
 have : c = 0 ∨ c = 1 := by omega
 rcases this with rfl | rfl <;> simp [mmL]
theorem fS_at (c g : Nat) (E : List En) : atR (fS c g E).ino 1 = some 0 := by
 unfold atR fS
 simp [List.findIdx?_cons]
theorem where_end {α : Type} {f : α → α → Bool} {L : List α} {x : α} (h : ∀ y ∈ L, f y x = true) : insR f L x = L ++ [x] := by
 have : whereR f L x = L.length := by
   unfold whereR
   rw [List.findIdx_eq_length]
   intro y hy
   simp [h y hy]
 unfold insR
 rw [this, List.take_length, List.drop_length]
theorem fS_ins (c g : Nat) (E : List En) : insR ltI (fS c g E).ino ⟨2 + (c : Int) + 8 * (g : Int), false, [], ⟨#[]⟩⟩ = ⟨1, true, E, ⟨#[]⟩⟩ :: fmL c (g + 1) := by
 rw [where_end]
 · unfold fS fmL
   rw [List.range_succ, List.map_append, List.map_singleton]
   rfl
 · intro y hy
   unfold ltI
   rw [decide_eq_true_eq]
   unfold fS at hy
   rcases List.mem_cons.1 hy with rfl | hy
   · show (1 : Int) < 2 + (c : Int) + 8 * (g : Int)
     omega
   · unfold fmL at hy
     obtain ⟨j, hj, rfl⟩ := List.mem_map.1 hy
     have := List.mem_range.1 hj
     show 2 + (c : Int) + 8 * (j : Int) < 2 + (c : Int) + 8 * (g : Int)
     omega
theorem full_in (E : List En) (s : ByteArray) : nFull E 1 s 0 ⟨#[]⟩ = inB E (bkt s).toNat := by
 unfold nFull inB
 have hb := bkt_range s
 have e : inQ 1 s 0 ⟨#[]⟩ = fun e : En => bkt e.1 == (((bkt s).toNat : Nat) : Int) := by
   funext e
   unfold inQ
   rw [show (((bkt s).toNat : Nat) : Int) = bkt s by omega]
   simp
 rw [e]
theorem spot_root {c g : Nat} {E : List En} {s : ByteArray} (hp : parseR (⟨#[47]⟩ ++ s) = ([s], 0)) : spotR (fS c g E).ino (⟨#[47]⟩ ++ s) = .ok (1, s) := by
 unfold spotR
 rw [hp]
 have hw : walkR (fS c g E).ino 1 [] = (1, 0) := rfl
 have hd : dirOf (fS c g E).ino 1 = true := by unfold dirOf; rw [fS_at]; rfl
 have hk : codeR 0 = 0 := rfl
 simp only [hk, List.length_singleton, Nat.sub_self, List.take_zero, hw, hd, ne_eq, not_true_eq_false, if_false, if_true, Nat.one_ne_zero]
 rfl
theorem put_root {c g : Nat} {E : List En} (M : List Int) (e : En) : putS ⟨⟨1, true, E, ⟨#[]⟩⟩ :: fmL c g, [], M⟩ 1 e = ⟨⟨1, true, insR ltE E e, ⟨#[]⟩⟩ :: fmL c g, [], M⟩ := by
 have ha : atR (⟨1, true, E, ⟨#[]⟩⟩ :: fmL c g) 1 = some 0 := fS_at c g E
 rw [putS_at (k := 0) ha (by simp)]
 rfl
theorem play_full {c g : Nat} {E : List En} (hc : c < 2) (hm : mayB (fS c g E) = true) {s : ByteArray} (hp : parseR (⟨#[47]⟩ ++ s) = ([s], 0)) (hn : plR E s = none) :
   playR (fS c g E) (fC c s) headI = if 4 ≤ inB E (bkt s).toNat ∨ 32 ≤ g then (fS c g E, ansC 5) else (fS c (g + 1) (insR ltE E (s, 2 + (c : Int) + 8 * (g : Int))), ansC 0) := by
 have hcc : (fC c s).core.toNat = c := by unfold fC; simp
 unfold playR
 rw [if_pos ⟨hm, by unfold fC; simp, by unfold fC fS; rw [mm_len]; show (c : Int) < 2; omega⟩]
 unfold doR
 rw [if_pos (show (fC c s).kind = 0 from rfl), hcc]
 unfold createR
 rw [show (fC c s).path = ⟨#[47]⟩ ++ s from rfl, spot_root hp]
 have he : entsOf (fS c g E).ino 1 = E := by unfold entsOf; rw [fS_at]; rfl
 have hg : (fS c g E).made.getD c 0 = (g : Int) := mm_at hc g
 simp only [he, hn, Option.isSome_none, Bool.false_eq_true, if_false, full_in, hg]
 by_cases hf : 4 ≤ inB E (bkt s).toNat ∨ 32 ≤ g
 · rw [if_pos hf, if_pos (by rcases hf with h | h; exact Or.inl h; exact Or.inr (by omega))]
   rfl
 · rw [if_neg hf, if_neg (by intro h; apply hf; rcases h with h | h; exact Or.inl h; exact Or.inr (by omega))]
   have hcore : (fC c s).core = (c : Int) := rfl
   rw [hcore, fS_ins]
   have hmd : (fS c g E).made.set c ((g : Int) + 1) = mmL c (g + 1) := mm_set hc g
   rw [hmd]
   show ansR _ (.ok (putS ⟨⟨1, true, E, ⟨#[]⟩⟩ :: fmL c (g + 1), [], mmL c (g + 1)⟩ 1 _, ansC 0)) = _
   rw [put_root]
   rfl
theorem mem_insR {α : Type} {f : α → α → Bool} {L : List α} {x y : α} (h : y ∈ insR f L x) : y = x ∨ y ∈ L := by
 unfold insR at h
 rw [List.mem_append, List.mem_cons] at h
 rcases h with h | h | h
 · exact Or.inr (List.mem_of_mem_take h)
 · exact Or.inl h
 · exact Or.inr (List.mem_of_mem_drop h)
theorem parse_all : ((List.range 123).all fun n => decide (parseR (⟨#[47]⟩ ++ kn 107 n) = ([kn 107 n], 0))) = true := by decide +kernel
theorem parse_kn (n : Nat) (h : n < 123) : parseR (⟨#[47]⟩ ++ kn 107 n) = ([kn 107 n], 0) := by
 have := List.all_eq_true.1 parse_all n (List.mem_range.2 h)
 rwa [decide_eq_true_eq] at this
theorem kn_none {E : List En} {o i : Nat} (hE : ∀ x ∈ E, ∃ j, j < i ∧ x.1 = kn 107 (j + o)) (ho : o < 64) (hi : i < 60) : plR E (kn 107 (i + o)) = none := by
 unfold plR
 rw [List.findIdx?_eq_none_iff]
 intro x hx
 obtain ⟨j, hj, e⟩ := hE x hx
 rw [beq_eq_false_iff_ne]
 intro q
 rw [e] at q
 have h2 : kn 107 (j + o) = kn 107 (i + o) := toList_inj q
 have := kn_inj_k (by omega) (by omega) h2
 omega
end Go.Proofs.YtmeafancgmkfkaaGreatDoor

namespace Go.Proofs.YtmeafancgmkfkaaGreatDoor
open Go.RowKit
set_option linter.unusedVariables false
def Br (w : World) (H : Nat) (v : Value) (xs : List Int) : Prop := w.ownsRow H 5 1 v xs.length (xs.map (Value.int .u8))
theorem Br.nil (w : World) (H : Nat) : Br w H (.slice none 0 0) [] := World.ownsRow_nil w H 5 1
theorem Br.same {w w' : World} {H : Nat} {v : Value} {xs : List Int} (h : Br w H v xs) (hk : ∀ k, v.ownBlock = some k → w'.heap[k]? = w.heap[k]?) : Br w' H v xs := by
 refine ⟨h.1, ?_⟩
 rcases h.2 with hn | ⟨g, cap, cur, rfl, hb, hgg, rest⟩
 · exact .inl hn
 · exact .inr ⟨g, cap, cur, rfl, hb, by rw [hk g rfl]; exact hgg, rest⟩
theorem Br.block {w : World} {H : Nat} {v : Value} {xs : List Int} (h : Br w H v xs) : ∀ k, v.ownBlock = some k → H ≤ k ∧ k < w.heap.size := World.ownsRow.lt h
theorem Br.kept {w w' : World} {H : Nat} {v : Value} {xs : List Int} (h : Br w H v xs) (k : Kept [] w w') : Br w' H v xs :=
 h.same fun x hx => k.block x (h.block x hx).2 (by simp)
theorem bytes_oneCell (xs : List Int) : ∀ u ∈ xs.map (Value.int .u8), u.oneCell' = true := by
 intro u hu
 simp only [List.mem_map] at hu
 obtain ⟨a, _, rfl⟩ := hu
 rfl
theorem conv_str {w : World} {H : Nat} {v : Value} {xs : List Int} (h : Br w H v xs) : (convert 48 9 v).run Tryz.prog w = .ok (.string (strOfNums xs)) w := by
 rcases h.2 with ⟨h1, h2⟩ | ⟨g, cap, cur, rfl, hb, hgg, h4, h5, h6, h7⟩
 · have : xs = [] := List.eq_nil_of_length_eq_zero h2
   subst this
   rw [h1, run_convert_bytes_nil (P := Tryz.prog) w 48 5 Tryz.underlying48 Tryz.underlying5 _ _ 9 Tryz.underlying9]
   rfl
 · refine run_convert_bytes_arg (P := Tryz.prog) w 48 5 Tryz.underlying48 Tryz.underlying5 g 0 xs.length cap xs rfl (fun i hi => ?_) 9 Tryz.underlying9
   rw [Nat.zero_add, cell_of_row _ _ _ _ _ _ hgg]
   have h8 : (cur.toList.take (xs.length * 1))[i]? = (xs.map (Value.int .u8))[i]? := by rw [h7]
   rw [List.getElem?_take_of_lt (by omega), Array.getElem?_toList] at h8
   rw [h8]
   simp [hi]
theorem digs_low {m : Nat} (h : m / 10 = 0) : digs m = [48 + ((m % 10 : Nat) : Int)] := by
 unfold digs
 rw [if_pos (by omega), show m % 10 = m by omega]
theorem digs_high {m : Nat} (h : m / 10 ≠ 0) (hm : m < 1000) : digs m = digs (m / 10) ++ [48 + ((m % 10 : Nat) : Int)] := by
 unfold digs
 rw [if_neg (by omega)]
 by_cases h2 : m < 100
 · rw [if_pos h2, if_pos (by omega)]
   rfl
 · rw [if_neg h2, if_neg (by omega), if_pos (by omega), show m / 10 / 10 = m / 100 by omega]
   rfl
def dz (m : Nat) (xs : List Int) : List Int := if m = 0 ∧ xs ≠ [] then xs else digs m ++ xs
theorem dz_step {m : Nat} {xs : List Int} (hm : m < 1000) (h : 0 < m ∨ xs = []) : dz (m / 10) ((48 + ((m % 10 : Nat) : Int)) :: xs) = dz m xs := by
 unfold dz
 rw [if_neg (show ¬ (m = 0 ∧ xs ≠ []) by rintro ⟨h1, h2⟩; exact h.elim (fun h => by omega) h2)]
 by_cases h0 : m / 10 = 0
 · rw [if_pos ⟨h0, by simp⟩, digs_low h0]
   rfl
 · rw [if_neg (fun h => h0 h.1), digs_high h0 hm, List.append_assoc]
   rfl
theorem dz_len {m n : Nat} {xs : List Int} (h : dz m xs = digs n) : xs.length ≤ 3 := by
 have h1 : xs.length ≤ (dz m xs).length := by
   unfold dz
   split
   · exact Nat.le_refl _
   · rw [List.length_append]; omega
 rw [h] at h1
 have := (digs_length n).2
 omega
theorem run_append_nothing (ty : TypeId) (w : World) (g : Nat) : (Builtin.append_ #[48, 48] ty #[.slice (some ⟨g, 0, none⟩) 1 1, .slice none 0 0]).run Tryz.prog w = .ok (.slice (some ⟨g, 0, none⟩) 1 1) w := by
 obtain ⟨i, hi, -⟩ := info_parts info5
 simp [Builtin.append_, run_underlying Tryz.underlying48, sizeOf, typeInfo, hi, Builtin.lenOf, Builtin.firstCells, storeCells]
theorem prepend {w : World} {H : Nat} {v : Value} {xs : List Int} (h : Br w H v xs) (hn : xs = [] → v = .slice none 0 0) (hH : H ≤ w.heap.size) (y : Int) (hb : xs.length + 1 ≤ 1000000) (ty : TypeId) :
   ∃ v' w', (Builtin.append_ #[48, 48] ty #[.slice (some ⟨w.heap.size, 0, none⟩) 1 1, v]).run Tryz.prog (w.alloc (.cells #[.int .u8 y] 5)) = .ok v' w' ∧ Br w' H v' (y :: xs) ∧ Kept [] w w' := by
 have hk : Kept [] w (w.alloc (.cells #[.int .u8 y] 5)) := (Kept.refl [] w).alloc _
 have hY : Br (w.alloc (.cells #[.int .u8 y] 5)) H (.slice (some ⟨w.heap.size, 0, none⟩) 1 1) [y] := ⟨rfl, Or.inr ⟨w.heap.size, 1, #[.int .u8 y], rfl, hH, heap_alloc_new _ _, Nat.le_refl _, by unfold maxLen; omega, rfl, rfl⟩⟩
 by_cases hx : xs = []
 · subst hx
   rw [hn rfl]
   exact ⟨_, _, run_append_nothing ty _ _, hY, hk⟩
 · have h2 := h.kept hk
   rcases h2.2 with ⟨h3, h4⟩ | ⟨g, cap, cur, rfl, hbb, hgg, h4, h5, h6, h7⟩
   · exact absurd (List.eq_nil_of_length_eq_zero h4) hx
   · obtain ⟨i0, hi, hz0, hz1, hz2⟩ := info_parts info5
     obtain ⟨v', w', hr, h8, h9, _, _⟩ := run_append_own_at (P := Tryz.prog) (w.alloc (.cells #[.int .u8 y] 5)) H 48 ty 5 i0 (.int .u8 0) 1 1 Tryz.underlying48 hi hz0 hz1 hz2 rfl (by omega) (.slice (some ⟨w.heap.size, 0, none⟩) 1 1) 1 ([y].map (Value.int .u8)) hY ⟨g, 0, none⟩ xs.length cap (xs.map (Value.int .u8)) (by simp)
       (fun j u hu => by
         have hj : j < xs.length := by
           have := (List.getElem?_eq_some_iff.1 hu).1
           simpa using this
         have ea : (⟨g, 0, none⟩ : Addr).add j = ⟨g, j, none⟩ := by unfold Addr.add; split <;> simp_all
         rw [ea, cell_of_row _ _ _ _ _ _ hgg]
         have h10 : (cur.toList.take (xs.length * 1))[j]? = some u := by rw [h7]; exact hu
         rw [List.getElem?_take_of_lt (by omega), Array.getElem?_toList] at h10
         exact h10)
       (bytes_oneCell xs) (by unfold maxLen; omega) (by omega) (by simp; omega)
     refine ⟨v', w', hr, ?_, hk.grown h9 fun x hx => ?_⟩
     · have e : (y :: xs).length = 1 + xs.length := by simp; omega
       unfold Br
       rw [e]
       exact h8
     · right
       simp [Value.ownBlock] at hx
       omega
def isn (v : Value) : Nat := match v with
 | .slice none _ _ => 1
 | _ => 0
theorem Br.sliceL {w : World} {H : Nat} {v : Value} {xs : List Int} (h : Br w H v xs) : ∃ a c, v = .slice a xs.length c := by
 rcases h.2 with ⟨h1, h2⟩ | ⟨g, cap, cur, rfl, -⟩
 · exact ⟨none, 0, by rw [h1, h2]⟩
 · exact ⟨_, _, rfl⟩
theorem Br.some {w : World} {H : Nat} {v : Value} {y : Int} {xs : List Int} (h : Br w H v (y :: xs)) : ∃ g n c, v = .slice (some ⟨g, 0, none⟩) n c := by
 rcases h.2 with ⟨h1, h2⟩ | ⟨g, cap, cur, rfl, -⟩
 · simp at h2
 · exact ⟨_, _, _, rfl⟩
set_option maxRecDepth 100000 in
set_option maxHeartbeats 4000000 in
theorem f_decimal (n : Nat) (x : Int) (hx : x = (n : Int)) (w : World) (hn : n < 1000) :
   Calls Tryz.prog 14 #[.int .i64 x] w fun e w' => e = .returned (.string (strOfNums (digs n))) ∧ Kept [] w w' := by
 subst hx
 have i0 : ¬ (n : Int) < 0 := by omega
 have hw : IntKind.u64.wrap (n : Int) = (n : Int) := by rw [IntKind.wrap_u64]; omega
 go_enter Tryz.func14, Tryz.ntmps14
 go_wp2_with fail
 go_loopw [3, 4] (fun i v wr => ∃ (m : Nat) (xs : List Int), i = .int .u64 (m : Int) ∧ m < 1000 ∧ Hid (Br wr w.heap.size v xs ∧ (xs = [] → v = .slice none 0 0) ∧ Kept [] w wr ∧ dz m xs = digs n) ∧ v = v) (fun i v _ => (intOf i).toNat * 2 + isn v)
 case atStart => exact ⟨n, [], by simp, hn, ⟨Br.nil _ _, fun _ => rfl, Kept.refl _ _, by unfold dz; simp⟩, rfl⟩
 case round =>
   obtain ⟨m, xs, rfl, hm, HM, -⟩ := hrel
   by_cases h0 : 0 < m
   · have j0 : (0 : Int) < (m : Int) := by omega
     have d0 : decide ((0 : Int) < (m : Int)) = true := by simp; omega
     obtain ⟨v', w', hr, hB, hK⟩ := prepend HM.out.1 HM.out.2.1 HM.out.2.2.1.size (48 + ((m % 10 : Nat) : Int)) (by have := dz_len HM.out.2.2.2; omega) 48
     have HA : Hid (_) := hr
     obtain ⟨vg, vn, vc, rfl⟩ := hB.some
     have HE : Hid (Br w' w.heap.size (.slice (some ⟨vg, 0, none⟩) vn vc) ((48 + ((m % 10 : Nat) : Int)) :: xs) ∧ (((48 + ((m % 10 : Nat) : Int)) :: xs) = [] → Value.slice (some ⟨vg, 0, none⟩) vn vc = .slice none 0 0) ∧ Kept [] w w' ∧ dz (m / 10) ((48 + ((m % 10 : Nat) : Int)) :: xs) = digs n) := ⟨hB, fun h => (by cases h), HM.out.2.2.1.trans hK (by simp), by rw [dz_step hm (Or.inl h0)]; exact HM.out.2.2.2⟩
     clear hr hB hK HM
     go_wp2_with (at_builtin; refine wpList_append_run _ rfl _ _ 48 48 rfl _ _ rfl rfl _ _ HA.out ?_)
     refine ⟨⟨m / 10, _, by go_num, by omega, HE.out, trivial⟩, ?_⟩
     simp [intOf, isn]; omega
   · have e0 : m = 0 := by omega
     subst e0
     by_cases hx : xs = []
     · subst hx
       have hv := HM.out.2.1 rfl
       subst hv
       obtain ⟨v', w', hr, hB, hK⟩ := prepend HM.out.1 HM.out.2.1 HM.out.2.2.1.size ((48 : Int) + ((0 % 10 : Nat) : Int)) (by have := dz_len HM.out.2.2.2; omega) 48
       have HA : Hid (_) := hr
       obtain ⟨vg, vn, vc, rfl⟩ := hB.some
       have HE : Hid (Br w' w.heap.size (.slice (some ⟨vg, 0, none⟩) vn vc) (((48 : Int) + ((0 % 10 : Nat) : Int)) :: []) ∧ ((((48 : Int) + ((0 % 10 : Nat) : Int)) :: []) = [] → Value.slice (some ⟨vg, 0, none⟩) vn vc = .slice none 0 0) ∧ Kept [] w w' ∧ dz (0 / 10) (((48 : Int) + ((0 % 10 : Nat) : Int)) :: []) = digs n) := ⟨hB, fun h => (by cases h), HM.out.2.2.1.trans hK (by simp), by rw [dz_step hm (Or.inr rfl)]; exact HM.out.2.2.2⟩
       clear hr hB hK HM
       go_wp2_with (at_builtin; refine wpList_append_run _ rfl _ _ 48 48 rfl _ _ rfl rfl _ _ HA.out ?_)
       refine ⟨⟨0 / 10, _, by go_num, by omega, HE.out, trivial⟩, ?_⟩
       simp [intOf, isn]
     · have HE : Hid (xs = digs n ∧ Kept [] w wr) := ⟨by have := HM.out.2.2.2; unfold dz at this; rw [if_pos ⟨rfl, hx⟩] at this; exact this, HM.out.2.2.1⟩
       have hcv := conv_str HM.out.1
       rw [HE.out.1] at hcv
       obtain ⟨va, vc, rfl⟩ := HM.out.1.sliceL
       have hl : ((xs.length : Int) == 0) = false := by
         have : xs.length ≠ 0 := fun h => hx (List.eq_nil_of_length_eq_zero h)
         simp; omega
       have hl2 : ¬ ((xs.length : Int) = 0) := by
         have : xs.length ≠ 0 := fun h => hx (List.eq_nil_of_length_eq_zero h)
         omega
       clear HM hx
       go_wp2_with fail
       go_ret
       exact ⟨rfl, HE.out.2⟩
end Go.Proofs.YtmeafancgmkfkaaGreatDoor
