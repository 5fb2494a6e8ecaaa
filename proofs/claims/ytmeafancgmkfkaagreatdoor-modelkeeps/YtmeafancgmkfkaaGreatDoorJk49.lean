/-
  Joined of my texts Lh Li Lj Lk.
-/
import Derived.Test.YtmeafancgmkfkaaGreatDoorJk48
import Derived.Test.YtmeafancgmkfkaaGreatDoorJk42
namespace Go.Proofs.YtmeafancgmkfkaaGreatDoor
open Go.RowKit
set_option linter.unusedVariables false
theorem move_out {S : Sta} (v : Vw S) {k k1 : Nat} (hk : k < S.ino.length) (hk1 : k1 < S.ino.length) {D D1 : Ino} (hDe : S.ino[k] = D) (hDe1 : S.ino[k1] = D1) (hne : D.num ≠ D1.num) (hd : D.dir = true) (hd1 : D1.dir = true) {t1 t : ByteArray} {i1 : Nat} (hp1 : plR D1.ents t1 = some i1) (hi1 : i1 < D1.ents.length) {z : Int} (hz : (D1.ents[i1]).2 = z)
   (hc : chk t = 0) (hp : (plR D.ents t).isSome = false) (hf : nFull D.ents D.num t 0 ⟨#[]⟩ < 4) :
   Mv S.ino ((S.ino.set k (withE D (insR ltE D.ents (t, z)))).set k1 (withE D1 (D1.ents.eraseIdx i1))) D1.num t1 D.num t z := by
 have hD : D ∈ S.ino := by rw [← hDe]; exact List.getElem_mem hk
 have hD1 : D1 ∈ S.ino := by rw [← hDe1]; exact List.getElem_mem hk1
 have hkk : k ≠ k1 := fun e => by
   subst e
   rw [hDe] at hDe1
   rw [hDe1] at hne
   exact hne rfl
 have gE : entsB S.ino D.ents = true := by
   have := ents_of v hk (by rw [hDe]; exact hd)
   rw [hDe] at this
   exact this
 have gE1 : entsB S.ino D1.ents = true := by
   have := ents_of v hk1 (by rw [hDe1]; exact hd1)
   rw [hDe1] at this
   exact this
 have n1 : (D1.ents[i1]).1 = t1 := name_eq (by simpa using (idx_get hp1).2)
 have hpos : ∀ y ∈ S.ino, 1 ≤ y.num := fun y hy => by
   by_cases e : y.num = 1
   · omega
   · have := (v.gv y hy e).1; omega
 obtain ⟨D', hD'⟩ : ∃ D', withE D (insR ltE D.ents (t, z)) = D' := ⟨_, rfl⟩
 have nn : D'.num = D.num := by rw [← hD']
 have dd : D'.dir = true := by rw [← hD']; exact hd
 have ee : D'.ents = insR ltE D.ents (t, z) := by rw [← hD']
 have bb : D'.data = D.data := by rw [← hD']
 obtain ⟨D2, hD2⟩ : ∃ D2, withE D1 (D1.ents.eraseIdx i1) = D2 := ⟨_, rfl⟩
 have nn1 : D2.num = D1.num := by rw [← hD2]
 have dd1 : D2.dir = true := by rw [← hD2]; exact hd1
 have ee1 : D2.ents = D1.ents.eraseIdx i1 := by rw [← hD2]
 have bb1 : D2.data = D1.data := by rw [← hD2]
 rw [hD', hD2]
 have a1 : adj ltI (S.ino.set k D') = true := adj_set v.row hk (by rw [hDe]; exact nn)
 have hk1' : k1 < (S.ino.set k D').length := by rw [List.length_set]; exact hk1
 have g1 : (S.ino.set k D')[k1] = D1 := by rw [List.getElem_set, if_neg hkk]; exact hDe1
 obtain ⟨L', hL'⟩ : ∃ L', (S.ino.set k D').set k1 D2 = L' := ⟨_, rfl⟩
 have a2 : adj ltI L' = true := by rw [← hL']; exact adj_set a1 hk1' (by rw [g1]; exact nn1)
 have hm : ∀ y, y ∈ L' ↔ y = D2 ∨ (y = D' ∨ y ∈ S.ino ∧ y.num ≠ D.num) ∧ y.num ≠ D1.num := fun y => by
   rw [← hL', mem_set a1 hk1', g1, mem_set v.row hk, hDe]
 have m2 : D2 ∈ L' := (hm D2).2 (Or.inl rfl)
 have m1 : D' ∈ L' := (hm D').2 (Or.inr ⟨Or.inl rfl, by rw [nn]; exact hne⟩)
 have old : ∀ y ∈ S.ino, y.num ≠ D.num → y.num ≠ D1.num → y ∈ L' := fun y hy h1 h2 => (hm y).2 (Or.inr ⟨Or.inr ⟨hy, h1⟩, h2⟩)
 have one : ∀ {a b : Ino}, a ∈ S.ino → b ∈ S.ino → a.num = b.num → a = b := fun {a b} ha hb q => by
   have h1 := look_iff v.row ha
   have h2 := look_iff v.row hb
   rw [q, h2] at h1
   exact (Option.some.inj h1).symm
 have fwd : ∀ y ∈ S.ino, ∃ y' ∈ L', y'.num = y.num ∧ y'.dir = y.dir ∧ y'.data = y.data ∧ ∀ e ∈ y.ents, ¬ (y.num = D1.num ∧ e.1 = t1) → e ∈ y'.ents := fun y hy => by
   by_cases q1 : y.num = D1.num
   · have := one hy hD1 q1
     subst this
     refine ⟨D2, m2, nn1, by rw [dd1, hd1], bb1, fun e he hn => ?_⟩
     rw [ee1, List.mem_eraseIdx_iff_getElem]
     obtain ⟨j, hj, rfl⟩ := List.getElem_of_mem he
     exact ⟨j, hj, fun q => by subst q; exact hn ⟨rfl, n1⟩, rfl⟩
   · by_cases q : y.num = D.num
     · have := one hy hD q
       subst this
       refine ⟨D', m1, nn, by rw [dd, hd], bb, fun e he _ => ?_⟩
       rw [ee]
       exact mem_ins.2 (Or.inr he)
     · exact ⟨y, old y hy q q1, rfl, rfl, rfl, fun e he _ => he⟩
 have hs : ∀ w, (atR S.ino w).isSome = true → (atR L' w).isSome = true := fun w h => by
   obtain ⟨y, hy, rfl⟩ := at_isSome.1 h
   obtain ⟨y', hy', e1, -⟩ := fwd y hy
   exact at_isSome.2 ⟨y', hy', e1⟩
 have hzz : z ≠ 1 ∧ (atR L' z).isSome = true := by
   have g := gE1
   unfold entsB at g
   rw [Bool.and_eq_true, Bool.and_eq_true, List.all_eq_true] at g
   have := g.1.1 _ (List.getElem_mem hi1)
   unfold entB at this
   rw [hz, Bool.and_eq_true, Bool.and_eq_true] at this
   exact ⟨by simpa using this.1.2, hs z this.2⟩
 rw [hL']
 refine ⟨a2, fwd, fun y hy => ?_, ⟨D', m1, nn, dd, by rw [ee]; exact mem_ins.2 (Or.inl rfl)⟩, fun w => ?_⟩
 · rcases (hm y).1 hy with rfl | ⟨rfl | ⟨hy, -⟩, -⟩
   · exact ⟨D1, hD1, nn1, by rw [dd1, hd1], bb1, fun _ => by rw [ee1]; exact entsB_erase gE1 hs i1, fun q => by rw [dd1] at q; cases q⟩
   · exact ⟨D, hD, nn, by rw [dd, hd], bb, fun _ => by rw [ee]; exact entsB_ins gE hs hc hzz.1 hzz.2 hp (by have := hpos D hD; omega) hf, fun q => by rw [dd] at q; cases q⟩
   · refine ⟨y, hy, rfl, rfl, rfl, fun hyd => ?_, fun hyd => file_ents (v.ino y hy) hyd⟩
     have g := v.ino y hy
     unfold inoB at g
     rw [hyd] at g
     simp only [if_true, Bool.and_eq_true] at g
     exact entsB_mono g.2 hs
 · have h1 := entN_set S.ino k hk D' w
   have h2 := entN_set (S.ino.set k D') k1 hk1' D2 w
   have h3 := cnt_ins D.ents (t, z) w
   have h4 := cnt_erase D1.ents i1 hi1 w
   rw [hL', g1, ee1] at h2
   rw [hDe, ee] at h1
   rw [hz] at h4
   dsimp only at h3
   omega
theorem spot_walk {L : List Ino} {s : ByteArray} {d : Int} {t : ByteArray} (h : spotR L s = .ok (d, t)) : ∃ ns, walkR L 1 ns = (d, 0) ∧ (parseR s).1 = ns ++ [t] ∧ (parseR s).2 = 0 := by
 unfold spotR at h
 split at h
 · cases h
 rename_i h1
 split at h
 · cases h
 rename_i h2
 split at h
 · cases h
 rename_i h3
 split at h
 · cases h
   refine ⟨(parseR s).1.take ((parseR s).1.length - 1), Prod.ext rfl (by simpa using h3), ?_, ?_⟩
   · have hl : (parseR s).1.length - 1 < (parseR s).1.length := by omega
     have e := drop_tx hl
     have e2 : (parseR s).1.drop ((parseR s).1.length - 1 + 1) = [] := List.drop_of_length_le (by omega)
     rw [e2] at e
     rw [← e, List.take_append_drop]
   · have q : codeR (parseR s).2 = 0 := by simpa using h1
     unfold codeR at q
     split at q
     · assumption
     · split at q <;> cases q
 · cases h
theorem below_not {a b : ByteArray} {ns ms : List ByteArray} {t1 t : ByteArray} (ha : (parseR a).1 = ns ++ [t1]) (ha0 : (parseR a).2 = 0) (hb : (parseR b).1 = ms ++ [t]) (hb0 : (parseR b).2 = 0) (h : belowR a b = false) : ¬ (ns ++ [t1]) <+: ms := by
 intro hp
 have hl := hp.length_le
 have : belowR a b = true := by
   unfold belowR
   rw [ha, hb, ha0, hb0]
   have e : (ns ++ [t1]) = (ms ++ [t]).take (ns ++ [t1]).length := List.prefix_iff_eq_take.1 (hp.trans (List.prefix_append ms [t]))
   rw [← e]
   simp only [List.length_append, List.length_cons, List.length_nil] at hl ⊢
   simp
   omega
 rw [this] at h
 cases h
theorem sweep_not {S : Sta} {z : Int} (h : linksR S.ino z ≠ 0) : sweepS S z = S := by
 unfold sweepS
 rw [if_neg fun q => h q.1]
theorem Vw.renames {S : Sta} (v : Vw S) (hw : Wel S) {c : Cal} {x : Sta × Ans} (h : renameR S c = .ok x) : Vw x.1 := by
 unfold renameR at h
 rcases hs1 : spotR S.ino c.path with code | ⟨d1, t1⟩
 · rw [hs1] at h; cases h
 rw [hs1] at h
 simp only at h
 rcases hp1 : plR (entsOf S.ino d1) t1 with _ | i1
 · rw [hp1] at h; cases h
 rw [hp1] at h
 simp only at h
 rcases hs2 : spotR S.ino c.path2 with code | ⟨d, t⟩
 · rw [hs2] at h; cases h
 rw [hs2] at h
 simp only at h
 split at h
 · cases h
 rename_i hb
 split at h
 · cases h
 rename_i hp
 split at h
 · cases h
 rename_i hf
 cases h
 obtain ⟨k1, hk1, hat1, he1⟩ := hw.spot hs1
 obtain ⟨k, hk, hat, he⟩ := hw.spot hs2
 obtain ⟨_, hn1⟩ := at_get hat1
 obtain ⟨_, hn⟩ := at_get hat
 have hd1 : (S.ino[k1]).dir = true := by
   have := spot_dir hs1
   rw [dir_of hat1 hk1] at this
   exact this
 have hd : (S.ino[k]).dir = true := by
   have := spot_dir hs2
   rw [dir_of hat hk] at this
   exact this
 rw [he1] at hp1
 have hi1 := (idx_get hp1).1
 rw [he] at hp hf
 obtain ⟨z, hz⟩ : ∃ z, ((S.ino[k1]).ents[i1]).2 = z := ⟨_, rfl⟩
 have ez : entNum (entsOf S.ino d1) i1 = z := by rw [he1, ent_num hi1]; exact hz
 obtain ⟨ns, w1, pa, pa0⟩ := spot_walk hs1
 obtain ⟨ms, w2, pb, pb0⟩ := spot_walk hs2
 have hbn := below_not pa pa0 pb pb0 (by simpa using hb)
 have hE : Edge S.ino d1 t1 z := ⟨S.ino[k1], List.getElem_mem hk1, hn1, hd1, i1, hp1, hi1, hz⟩
 have hpos : d ≠ 0 := by
   have : 1 ≤ (S.ino[k]).num := (hw.rg _ (List.getElem_mem hk)).1
   omega
 have hcnt : entN S.ino z ≠ 0 := fun q => no_ent q (List.getElem_mem hk1) _ (List.getElem_mem hi1) hz
 dsimp only
 rw [ez, putS_at hat hk]
 -- what the move comes to
 have fin : ∀ {L' : List Ino}, Mv S.ino L' d1 t1 d t z → Vw (sweepS ⟨L', S.opn, S.made⟩ z) := fun {L'} m => by
   have vv := m.moved v hE w1 w2 (spot_dir hs2) hbn
   have hl : linksR L' z = entN L' z := links_ent (fun y hy hyd => by
     obtain ⟨_, _, _, _, _, _, e5⟩ := m.bwd y hy
     exact e5 hyd) z
   rw [sweep_not (by rw [hl, m.sum]; exact hcnt)]
   exact vv
 obtain ⟨S1, hS1⟩ : ∃ S1, setE S k hk (insR ltE (S.ino[k]).ents (t, z)) = S1 := ⟨_, rfl⟩
 have i1e : S1.ino = S.ino.set k (withE (S.ino[k]) (insR ltE (S.ino[k]).ents (t, z))) := by rw [← hS1]
 have o1 : S1.opn = S.opn := by rw [← hS1]
 have m1 : S1.made = S.made := by rw [← hS1]
 have ad1 : adj ltI S1.ino = true := by rw [i1e]; exact adj_set v.row hk rfl
 have hk1' : k1 < S1.ino.length := by rw [i1e, List.length_set]; exact hk1
 rw [hS1]
 by_cases q : k = k1
 · subst q
   have g : S1.ino[k] = withE (S.ino[k]) (insR ltE (S.ino[k]).ents (t, z)) := by simp [i1e]
   have hat' : atR S1.ino d1 = some k := by
     have := at_num ad1 hk1'
     rw [g] at this
     rw [← hn1]
     exact this
   have edd : d = d1 := by rw [← hn, ← hn1]
   obtain ⟨i2, hp2, hi2, -⟩ := pl_ins (e := (t, z)) hp1 (by
     rw [beq_eq_false_iff_ne]
     intro q2
     have := pl_none (by simpa using hp) _ (List.getElem_mem hi1)
     have n1 : ((S.ino[k]).ents[i1]).1 = t1 := name_eq (by simpa using (idx_get hp1).2)
     exact this (by rw [n1]; exact (name_eq q2).symm))
   obtain ⟨mv, z2⟩ := move_in v hk rfl hd hp1 hi1 hz (spot_name hs2).1 (by simpa using hp) (by rw [hn]; rw [← edd] at hf; omega) rfl hp2 hi2
   have ge : (S1.ino[k]).ents = insR ltE (S.ino[k]).ents (t, z) := by rw [g]
   have he' : entsOf S1.ino d1 = (S1.ino[k]).ents := ents_at hat' hk1'
   rw [take_at hat' hk1' he' (i := i2) (by rw [he', ge]; exact hp2) (by rw [ge]; exact hi2)]
   have e2 : ((S1.ino[k]).ents[i2]'(by rw [ge]; exact hi2)).2 = z := by
     have : (S1.ino[k]).ents[i2]'(by rw [ge]; exact hi2) = (insR ltE (S.ino[k]).ents (t, z))[i2] := by simp only [ge]
     rw [this]
     exact z2
   rw [e2]
   have e3 : setE S1 k hk1' ((S1.ino[k]).ents.eraseIdx i2) = ⟨S.ino.set k (withE (S.ino[k]) ((insR ltE (S.ino[k]).ents (t, z)).eraseIdx i2)), S.opn, S.made⟩ := by
     unfold setE
     rw [g, i1e, o1, m1, List.set_set]
   rw [e3]
   rw [hn1] at mv
   rw [edd] at fin
   exact fin mv
 · have g : S1.ino[k1] = S.ino[k1] := by simp only [i1e]; rw [List.getElem_set, if_neg q]
   have hne : (S.ino[k]).num ≠ (S.ino[k1]).num := fun e => by
     rcases Nat.lt_or_gt_of_ne q with a | a
     · have := adj_lt v.row k k1 hk hk1 a; omega
     · have := adj_lt v.row k1 k hk1 hk a; omega
   have hat' : atR S1.ino d1 = some k1 := by
     have := at_num ad1 hk1'
     rw [g, hn1] at this
     exact this
   have ge : (S1.ino[k1]).ents = (S.ino[k1]).ents := by rw [g]
   have he' : entsOf S1.ino d1 = (S1.ino[k1]).ents := ents_at hat' hk1'
   rw [take_at hat' hk1' he' (i := i1) (by rw [he', ge]; exact hp1) (by rw [ge]; exact hi1)]
   have e2 : ((S1.ino[k1]).ents[i1]'(by rw [ge]; exact hi1)).2 = z := by
     have : (S1.ino[k1]).ents[i1]'(by rw [ge]; exact hi1) = (S.ino[k1]).ents[i1] := by simp only [ge]
     rw [this]
     exact hz
   rw [e2]
   have e3 : setE S1 k1 hk1' ((S1.ino[k1]).ents.eraseIdx i1) = ⟨(S.ino.set k (withE (S.ino[k]) (insR ltE (S.ino[k]).ents (t, z)))).set k1 (withE (S.ino[k1]) ((S.ino[k1]).ents.eraseIdx i1)), S.opn, S.made⟩ := by
     unfold setE
     rw [g, i1e, o1, m1]
   rw [e3]
   have mv := move_out v hk hk1 rfl rfl hne hd hd1 hp1 hi1 hz (spot_name hs2).1 (by simpa using hp) (by
     rw [hn, ← full_other (d1 := d1) (t1 := t1) (by rw [← hn, ← hn1]; exact hne.symm) hpos]
     omega)
   rw [hn, hn1] at mv
   exact fin mv
end Go.Proofs.YtmeafancgmkfkaaGreatDoor

namespace Go.Proofs.YtmeafancgmkfkaaGreatDoor
open Go.RowKit
set_option linter.unusedVariables false
theorem may_stays {S : Sta} (hS : mayB S = true) (c : Cal) {pick : List Int → Int} (hp : ∀ l, l ≠ [] → pick l ∈ l) : mayB (playR S c pick).1 = true := by
 by_cases hk : c.kind = 11
 · unfold playR
   split
   · rename_i hq
     rcases hd : doR S c pick with e | x
     · exact hS
     · refine may_view.2 ((may_view.1 hS).renames (wel_of hS) (c := c) (x := x) ?_)
       unfold doR at hd
       simp only [hk] at hd
       simpa using hd
   · exact hS
 · exact may_keeps hS hp hk
end Go.Proofs.YtmeafancgmkfkaaGreatDoor

namespace Go.Proofs.YtmeafancgmkfkaaGreatDoor
open Go.RowKit
set_option linter.unusedVariables false
end Go.Proofs.YtmeafancgmkfkaaGreatDoor

namespace Go.Proofs.YtmeafancgmkfkaaGreatDoor
open Go.RowKit
set_option linter.unusedVariables false
theorem code_create {S : Sta} {c : Cal} {i : Nat} {d : Bool} {x : Sta × Ans} (h : createR S c i d = .ok x) : x.2.code = 0 := by
 unfold createR at h
 repeat' split at h
 all_goals first | (cases h; rfl) | cases h
theorem code_open {S : Sta} {c : Cal} {p : List Int → Int} {x : Sta × Ans} (h : openR S c p = .ok x) : x.2.code = 0 := by
 unfold openR at h
 repeat' split at h
 all_goals first | (cases h; rfl) | cases h
theorem code_close {S : Sta} {c : Cal} {x : Sta × Ans} (h : closeR S c = .ok x) : x.2.code = 0 := by
 unfold closeR at h
 repeat' split at h
 all_goals first | (cases h; rfl) | cases h
theorem code_read {S : Sta} {c : Cal} {x : Sta × Ans} (h : readR S c = .ok x) : x.2.code = 0 := by
 unfold readR at h
 repeat' split at h
 all_goals first | (cases h; rfl) | cases h
theorem code_write {S : Sta} {c : Cal} {x : Sta × Ans} (h : writeR S c = .ok x) : x.2.code = 0 := by
 unfold writeR at h
 repeat' split at h
 all_goals first | (cases h; rfl) | cases h
theorem code_trunc {S : Sta} {c : Cal} {x : Sta × Ans} (h : truncR S c = .ok x) : x.2.code = 0 := by
 unfold truncR at h
 repeat' split at h
 all_goals first | (cases h; rfl) | cases h
theorem code_size {S : Sta} {c : Cal} {x : Sta × Ans} (h : sizeR S c = .ok x) : x.2.code = 0 := by
 unfold sizeR at h
 repeat' split at h
 all_goals first | (cases h; rfl) | cases h
theorem code_link {S : Sta} {c : Cal} {x : Sta × Ans} (h : linkR S c = .ok x) : x.2.code = 0 := by
 unfold linkR at h
 repeat' split at h
 all_goals first | (cases h; rfl) | cases h
theorem code_unlink {S : Sta} {c : Cal} {x : Sta × Ans} (h : unlinkR S c = .ok x) : x.2.code = 0 := by
 unfold unlinkR at h
 repeat' split at h
 all_goals first | (cases h; rfl) | cases h
theorem code_rmdir {S : Sta} {c : Cal} {x : Sta × Ans} (h : rmdirR S c = .ok x) : x.2.code = 0 := by
 unfold rmdirR at h
 repeat' split at h
 all_goals first | (cases h; rfl) | cases h
theorem code_rename {S : Sta} {c : Cal} {x : Sta × Ans} (h : renameR S c = .ok x) : x.2.code = 0 := by
 unfold renameR at h
 repeat' split at h
 all_goals first | (cases h; rfl) | cases h
theorem code_list {S : Sta} {c : Cal} {x : Sta × Ans} (h : listR S c = .ok x) : x.2.code = 0 := by
 unfold listR at h
 repeat' split at h
 all_goals first | (cases h; rfl) | cases h
theorem code_stat {S : Sta} {c : Cal} {x : Sta × Ans} (h : statR S c = .ok x) : x.2.code = 0 := by
 unfold statR at h
 repeat' split at h
 all_goals first | (cases h; rfl) | cases h
theorem code_links {S : Sta} {c : Cal} {x : Sta × Ans} (h : linksC S c = .ok x) : x.2.code = 0 := by
 unfold linksC at h
 repeat' split at h
 all_goals first | (cases h; rfl) | cases h
theorem code_fsync {S : Sta} {c : Cal} {x : Sta × Ans} (h : fsyncR S c = .ok x) : x.2.code = 0 := by
 unfold fsyncR at h
 repeat' split at h
 all_goals first | (cases h; rfl) | cases h
theorem do_code {S : Sta} {c : Cal} {p : List Int → Int} {x : Sta × Ans} (h : doR S c p = .ok x) : x.2.code = 0 ∨ x = (S, ansC 9) := by
 unfold doR at h
 by_cases e0 : c.kind = 0
 · rw [if_pos e0] at h; exact Or.inl (code_create h)
 rw [if_neg e0] at h
 by_cases e1 : c.kind = 1
 · rw [if_pos e1] at h; exact Or.inl (code_create h)
 rw [if_neg e1] at h
 by_cases e2 : c.kind = 2
 · rw [if_pos e2] at h; exact Or.inl (code_open h)
 rw [if_neg e2] at h
 by_cases e3 : c.kind = 3
 · rw [if_pos e3] at h; exact Or.inl (code_close h)
 rw [if_neg e3] at h
 by_cases e4 : c.kind = 4
 · rw [if_pos e4] at h; exact Or.inl (code_read h)
 rw [if_neg e4] at h
 by_cases e5 : c.kind = 5
 · rw [if_pos e5] at h; exact Or.inl (code_write h)
 rw [if_neg e5] at h
 by_cases e6 : c.kind = 6
 · rw [if_pos e6] at h; exact Or.inl (code_trunc h)
 rw [if_neg e6] at h
 by_cases e7 : c.kind = 7
 · rw [if_pos e7] at h; exact Or.inl (code_size h)
 rw [if_neg e7] at h
 by_cases e8 : c.kind = 8
 · rw [if_pos e8] at h; exact Or.inl (code_link h)
 rw [if_neg e8] at h
 by_cases e9 : c.kind = 9
 · rw [if_pos e9] at h; exact Or.inl (code_unlink h)
 rw [if_neg e9] at h
 by_cases e10 : c.kind = 10
 · rw [if_pos e10] at h; exact Or.inl (code_rmdir h)
 rw [if_neg e10] at h
 by_cases e11 : c.kind = 11
 · rw [if_pos e11] at h; exact Or.inl (code_rename h)
 rw [if_neg e11] at h
 by_cases e12 : c.kind = 12
 · rw [if_pos e12] at h; exact Or.inl (code_list h)
 rw [if_neg e12] at h
 by_cases e13 : c.kind = 13
 · rw [if_pos e13] at h; exact Or.inl (code_stat h)
 rw [if_neg e13] at h
 by_cases e14 : c.kind = 14
 · rw [if_pos e14] at h; exact Or.inl (code_links h)
 rw [if_neg e14] at h
 by_cases e15 : c.kind = 15
 · rw [if_pos e15] at h; exact Or.inl (code_fsync h)
 rw [if_neg e15] at h
 by_cases e16 : c.kind = 16
 · rw [if_pos e16] at h; cases h; exact Or.inl rfl
 rw [if_neg e16] at h
 cases h
 exact Or.inr rfl
theorem keeps_code {S : Sta} {c : Cal} {p : List Int → Int} (h : (playR S c p).2.code ≠ 0) : playR S c p = (S, ansC (playR S c p).2.code) := by
 unfold playR at h ⊢
 split
 · rename_i hq
   rw [if_pos hq] at h
   rcases hd : doR S c p with e | x
   · rfl
   · rw [hd] at h
     rcases do_code hd with q | q
     · exact absurd q h
     · subst q; rfl
 · rfl
theorem keeps_look {S : Sta} {c : Cal} {p : List Int → Int} (h : c.kind = 4 ∨ c.kind = 7 ∨ c.kind = 12 ∨ c.kind = 13 ∨ c.kind = 14 ∨ c.kind = 15 ∨ c.kind = 16) : (playR S c p).1 = S := by
 unfold playR
 split
 · rcases hd : doR S c p with e | x
   · rfl
   · show x.1 = S
     unfold doR at hd
     rcases h with h | h | h | h | h | h | h
     all_goals simp only [h] at hd
     · exact same_read (by simpa using hd)
     · exact same_size (by simpa using hd)
     · exact same_list (by simpa using hd)
     · exact same_stat (by simpa using hd)
     · exact same_links (by simpa using hd)
     · exact same_fsync (by simpa using hd)
     · have : x = (S, ansC 0) := by
         have : (Except.ok (S, ansC 0) : Except Int (Sta × Ans)) = .ok x := by simpa using hd
         cases this
         rfl
       rw [this]
 · rfl
end Go.Proofs.YtmeafancgmkfkaaGreatDoor
