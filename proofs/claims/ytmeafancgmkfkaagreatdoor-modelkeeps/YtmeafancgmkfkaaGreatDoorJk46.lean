/-
  Joined of my texts Kw Kx Ky Kz.
-/
import Derived.Test.YtmeafancgmkfkaaGreatDoorJk45
import Derived.Test.YtmeafancgmkfkaaGreatDoorJk42
namespace Go.Proofs.YtmeafancgmkfkaaGreatDoor
open Go.RowKit
set_option linter.unusedVariables false
def bare (x : Ino) : Int × Bool × List En := (x.num, x.dir, x.ents)
def Alike (L L' : List Ino) : Prop := L.map bare = L'.map bare
theorem Alike.len {L L' : List Ino} (h : Alike L L') : L.length = L'.length := by
 have := congrArg List.length h
 simpa using this
theorem Alike.get {L L' : List Ino} (h : Alike L L') {k : Nat} (hk : k < L.length) (hk' : k < L'.length) : (L[k]).num = (L'[k]).num ∧ (L[k]).dir = (L'[k]).dir ∧ (L[k]).ents = (L'[k]).ents := by
 have e := congrArg (fun l => l[k]?) h
 simp only [List.getElem?_map, List.getElem?_eq_getElem hk, List.getElem?_eq_getElem hk', Option.map_some, Option.some.injEq] at e
 exact ⟨congrArg (fun t => t.1) e, congrArg (fun t => t.2.1) e, congrArg (fun t => t.2.2) e⟩
theorem at_bare (L : List Ino) (z : Int) : atR L z = (L.map bare).findIdx? fun t => t.1 == z := by
 unfold atR
 rw [List.findIdx?_map]
 rfl
theorem Alike.at {L L' : List Ino} (h : Alike L L') (z : Int) : atR L z = atR L' z := by rw [at_bare, at_bare, h]
theorem Alike.dirOf {L L' : List Ino} (h : Alike L L') (z : Int) : dirOf L z = dirOf L' z := by
 rw [look_dir, look_dir]
 unfold look
 rw [h.at z]
 rcases ha : atR L' z with _ | k
 · rfl
 · obtain ⟨hk', -⟩ := at_get ha
   have hk : k < L.length := by rw [h.len]; exact hk'
   simp [hk, hk', (h.get hk hk').2.1]
theorem Alike.entsOf {L L' : List Ino} (h : Alike L L') (z : Int) : entsOf L z = entsOf L' z := by
 rw [look_ents, look_ents]
 unfold look
 rw [h.at z]
 rcases ha : atR L' z with _ | k
 · rfl
 · obtain ⟨hk', -⟩ := at_get ha
   have hk : k < L.length := by rw [h.len]; exact hk'
   simp [hk, hk', (h.get hk hk').2.2]
theorem Alike.kids {L L' : List Ino} (h : Alike L L') (z : Int) : kids L z = kids L' z := by
 unfold Go.Proofs.YtmeafancgmkfkaaGreatDoor.kids kidsE
 rw [h.entsOf z]
 congr 1
 refine List.filter_congr fun e _ => ?_
 exact h.dirOf e.2
theorem Alike.rch {L L' : List Ino} (h : Alike L L') {z : Int} (r : Rch L z) : Rch L' z := by
 induction r with
 | root => exact Rch.root
 | kid _ hz ih => exact Rch.kid ih (by rw [← h.kids]; exact hz)
theorem Alike.entN {L L' : List Ino} (h : Alike L L') (z : Int) : entN L z = entN L' z := by
 have e : ∀ M : List Ino, Go.Proofs.YtmeafancgmkfkaaGreatDoor.entN M z = ((M.map bare).map fun t => cnt t.2.2 z).sum := fun M => by
   unfold Go.Proofs.YtmeafancgmkfkaaGreatDoor.entN
   rw [List.map_map]
   rfl
 rw [e, e, h]
theorem Alike.adj {L L' : List Ino} (h : Alike L L') (ha : adj ltI L = true) : adj ltI L' = true := by
 rw [adj_iff] at ha ⊢
 intro j hj
 have hl := h.len
 have h1 := ha j (by omega)
 have g0 := h.get (k := j) (by omega) (by omega)
 have g1 := h.get (k := j + 1) (by omega) hj
 unfold ltI at h1 ⊢
 rw [← g0.1, ← g1.1]
 exact h1
theorem Alike.mem {L L' : List Ino} (h : Alike L L') {x' : Ino} (hx : x' ∈ L') : ∃ x ∈ L, x.num = x'.num ∧ x.dir = x'.dir ∧ x.ents = x'.ents := by
 obtain ⟨k, hk', rfl⟩ := List.getElem_of_mem hx
 have hk : k < L.length := by rw [h.len]; exact hk'
 exact ⟨L[k], List.getElem_mem hk, h.get hk hk'⟩
theorem Alike.entsB {L L' : List Ino} (h : Alike L L') (E : List En) : entsB L E = entsB L' E := by
 have : entB L = entB L' := funext fun e => by unfold entB; rw [h.at]
 unfold Go.Proofs.YtmeafancgmkfkaaGreatDoor.entsB
 rw [this]
theorem Vw.alike {S : Sta} (v : Vw S) {L' : List Ino} (h : Alike S.ino L') (hd : ∀ x ∈ L', if x.dir then x.data.toList.isEmpty = true else x.data.size ≤ 256) : Vw ⟨L', S.opn, S.made⟩ := by
 refine ⟨v.made, h.adj v.row, ?_, fun x hx hn => ?_, fun x hx => ?_, v.opn, fun d hq => ?_, fun x hx hn => ?_, fun z hz => ?_⟩
 · obtain ⟨x, hx, n1, d1⟩ := v.root
   obtain ⟨h0, rfl⟩ := List.getElem?_eq_some_iff.1 hx
   have h0' : 0 < L'.length := by rw [← h.len]; exact h0
   obtain ⟨e1, e2, -⟩ := h.get h0 h0'
   exact ⟨L'[0], List.getElem?_eq_getElem h0', by rw [← e1]; exact n1, by rw [← e2]; exact d1⟩
 · obtain ⟨y, hy, e1, -, -⟩ := h.mem hx
   have := v.gv y hy (by rw [e1]; exact hn)
   rw [e1] at this
   exact this
 · obtain ⟨y, hy, e1, e2, e3⟩ := h.mem hx
   have g := v.ino y hy
   have q := hd x hx
   unfold inoB at g ⊢
   rw [e2, e3] at g
   cases hxd : x.dir with
   | true =>
     rw [hxd] at g q
     simp only [if_true, Bool.and_eq_true] at g q ⊢
     exact ⟨q, by rw [← h.entsB]; exact g.2⟩
   | false =>
     rw [hxd] at g q
     simp only [Bool.false_eq_true, if_false, Bool.and_eq_true, decide_eq_true_eq] at g q ⊢
     exact ⟨g.1, q⟩
 · have g := v.des d hq
   unfold desB at g ⊢
   dsimp only
   rw [← h.at]
   rw [Bool.and_eq_true] at g ⊢
   refine ⟨g.1, ?_⟩
   have g2 := g.2
   rcases ha : atR S.ino d.2.2 with _ | k
   · rw [ha] at g2; exact g2
   · rw [ha] at g2
     obtain ⟨hk, -⟩ := at_get ha
     have hk' : k < L'.length := by rw [← h.len]; exact hk
     have e2 := (h.get hk hk').2.1
     simp only [List.getElem?_eq_getElem hk, List.getElem?_eq_getElem hk'] at g2 ⊢
     simpa [e2] using g2
 · obtain ⟨y, hy, e1, e2, -⟩ := h.mem hx
   have g := v.held y hy (by rw [e1]; exact hn)
   unfold helB at g ⊢
   rw [e1, e2] at g
   dsimp only
   rw [← h.entN]
   exact g
 · have hz' : Go.Proofs.YtmeafancgmkfkaaGreatDoor.dirOf S.ino z = true := by rw [h.dirOf]; exact hz
   exact h.rch (v.fnd z hz')
theorem alike_set (L : List Ino) {k : Nat} (hk : k < L.length) (y : Ino) (hy : bare y = bare L[k]) : Alike L (L.set k y) := by
 unfold Alike
 rw [List.map_set, hy]
 have : bare L[k] = (L.map bare)[k]'(by simpa using hk) := by simp
 rw [this, List.set_getElem_self]
theorem Vw.data {S : Sta} (v : Vw S) {k : Nat} (hk : k < S.ino.length) (hf : (S.ino[k]).dir = false) {d : ByteArray} (hd : d.size ≤ 256) : Vw (setD S k hk d) := by
 refine v.alike (alike_set S.ino hk (withD (S.ino[k]) d) rfl) fun x hx => ?_
 rcases List.mem_or_eq_of_mem_set hx with h1 | rfl
 · have g := v.ino x h1
   unfold inoB at g
   cases hxd : x.dir with
   | true => rw [hxd] at g; simp only [if_true, Bool.and_eq_true] at g ⊢; exact g.1
   | false => rw [hxd] at g; simp only [Bool.false_eq_true, if_false, Bool.and_eq_true, decide_eq_true_eq] at g ⊢; exact g.2
 · have : (withD (S.ino[k]) d).dir = false := hf
   rw [this]
   simp only [Bool.false_eq_true, if_false]
   exact hd
end Go.Proofs.YtmeafancgmkfkaaGreatDoor

namespace Go.Proofs.YtmeafancgmkfkaaGreatDoor
open Go.RowKit
set_option linter.unusedVariables false
theorem fd_get {D : List Ds} {c f : Int} {j : Nat} (h : fdP D c f = some j) : ∃ hj : j < D.length, (D[j]).1 = c ∧ (D[j]).2.1 = f := by
 unfold fdP at h
 rw [List.findIdx?_eq_some_iff_getElem] at h
 obtain ⟨hj, h1, -⟩ := h
 simp only [Bool.and_eq_true, beq_iff_eq] at h1
 exact ⟨hj, h1⟩
theorem des_file {S : Sta} {d : Ds} (h : desB S d = true) : ∃ k, atR S.ino d.2.2 = some k ∧ ∃ hk : k < S.ino.length, (S.ino[k]).dir = false := by
 unfold desB at h
 rw [Bool.and_eq_true] at h
 have h2 := h.2
 rcases ha : atR S.ino d.2.2 with _ | k
 · rw [ha] at h2; cases h2
 · obtain ⟨hk, -⟩ := at_get ha
   rw [ha] at h2
   exact ⟨k, rfl, hk, by simpa [hk] using h2⟩
theorem Vw.file {S : Sta} (v : Vw S) {c : Cal} {k : Nat} (h : fileR S c = .ok k) : ∃ hk : k < S.ino.length, (S.ino[k]).dir = false := by
 unfold fileR at h
 rcases hf : fdP S.opn c.core c.fd with _ | j
 · rw [hf] at h; cases h
 · rw [hf] at h
   obtain ⟨hj, -, -⟩ := fd_get hf
   have e : desNum S.opn j = (S.opn[j]).2.2 := by unfold desNum; simp [hj]
   obtain ⟨k', ha, hk, hd⟩ := des_file (v.des _ (List.getElem_mem hj))
   simp only [e, ha] at h
   cases h
   exact ⟨hk, hd⟩
theorem data_small {S : Sta} (v : Vw S) {k : Nat} (hk : k < S.ino.length) (hd : (S.ino[k]).dir = false) : (dataAt S k).size ≤ 256 := by
 have g := v.ino _ (List.getElem_mem hk)
 unfold inoB at g
 rw [hd] at g
 simp only [Bool.false_eq_true, if_false, Bool.and_eq_true, decide_eq_true_eq] at g
 unfold dataAt
 simp [hk, g.2]
theorem Vw.setDS {S : Sta} (v : Vw S) {c : Cal} {k : Nat} (h : fileR S c = .ok k) {d : ByteArray} (hd : d.size ≤ 256) : Vw (setDS S k d) := by
 obtain ⟨hk, hf⟩ := v.file h
 unfold Go.Proofs.YtmeafancgmkfkaaGreatDoor.setDS
 rw [dif_pos hk]
 exact v.data hk hf hd
theorem Vw.trunc {S : Sta} (v : Vw S) {c : Cal} {x : Sta × Ans} (h : truncR S c = .ok x) : Vw x.1 := by
 unfold truncR at h
 rcases hf : fileR S c with e | k
 · rw [hf] at h; cases h
 · simp only [hf] at h
   split at h
   · cases h
     exact v.setDS hf (by rw [strOfNums_size, sizedL_length]; omega)
   · cases h
theorem Vw.write {S : Sta} (v : Vw S) {c : Cal} {x : Sta × Ans} (h : writeR S c = .ok x) : Vw x.1 := by
 unfold writeR at h
 rcases hf : fileR S c with e | k
 · rw [hf] at h; cases h
 · simp only [hf] at h
   obtain ⟨hk, hd⟩ := v.file hf
   have hs := data_small v hk hd
   split at h
   · split at h
     · cases h
     · split at h
       · cases h; exact v
       · cases h
         refine v.setDS hf ?_
         rw [strOfNums_size]
         have h1 : (sizedL (dataAt S k) (max (dataAt S k).size (c.off.toNat + c.data.size))).length = max (dataAt S k).size (c.off.toNat + c.data.size) := sizedL_length _ _
         unfold writeL
         simp only [List.length_append, List.length_take, List.length_drop, h1, byI_length]
         omega
   · cases h
theorem opP_some {D : List Ds} {z : Int} : (opP D z).isSome = true ↔ ∃ d ∈ D, d.2.2 = z := by
 unfold opP
 rw [List.findIdx?_isSome]
 simp
theorem Vw.more {S : Sta} (v : Vw S) {co fd z : Int} (h0 : 0 ≤ co) (h1 : co < S.made.length) (h2 : 0 ≤ fd) (h3 : fd < 4) (hn : fdP S.opn co fd = none) {f : Nat} (hf : f < S.ino.length) (ha : atR S.ino z = some f) (hd : (S.ino[f]).dir = false) :
   Vw ⟨S.ino, insR ltD S.opn (co, fd, z), S.made⟩ := by
 have un : ∀ y ∈ S.opn, ¬ (y.1 = co ∧ y.2.1 = fd) := fun y hy e => by
   unfold fdP at hn
   rw [List.findIdx?_eq_none_iff] at hn
   have := hn y hy
   simp [e.1, e.2] at this
 refine ⟨v.made, v.row, v.root, v.gv, v.ino, ?_, fun d hq => ?_, fun x hx hn => ?_, v.fnd⟩
 · refine adj_ins ltD_trans v.opn fun y hy hl => ?_
   have := un y hy
   unfold ltD at hl ⊢
   simp only [Bool.or_eq_true, Bool.or_eq_false_iff, Bool.and_eq_false_iff, Bool.and_eq_true, decide_eq_true_eq, decide_eq_false_iff_not, beq_iff_eq, beq_eq_false_iff_ne] at *
   omega
 · rcases mem_ins.1 hq with rfl | hq
   · unfold desB
     dsimp only
     simp only [ha]
     simp [h0, h1, h2, h3, hf, hd]
   · exact v.des d hq
 · have g := v.held x hx hn
   unfold helB at g ⊢
   dsimp only
   split
   · rename_i hxd
     rw [if_pos hxd] at g
     exact g
   · rename_i hxd
     rw [if_neg hxd, Bool.or_eq_true] at g
     rw [Bool.or_eq_true]
     refine g.imp id fun q => ?_
     rw [opP_some] at q ⊢
     obtain ⟨d, hd, e⟩ := q
     exact ⟨d, mem_ins.2 (Or.inr hd), e⟩
theorem freeN_mem {D : List Ds} {c f : Int} : ∀ {n : Nat}, f ∈ freeN D c n → ∃ m : Nat, f = (m : Int) ∧ m < n ∧ fdP D c f = none
 | 0, h => by cases h
 | n + 1, h => by
   unfold freeN at h
   split at h
   · rename_i hq
     rcases List.mem_append.1 h with h | h
     · obtain ⟨m, e, hm, hp⟩ := freeN_mem h
       exact ⟨m, e, by omega, hp⟩
     · rw [List.mem_singleton] at h
       subst h
       exact ⟨n, rfl, by omega, by simpa using hq⟩
   · obtain ⟨m, e, hm, hp⟩ := freeN_mem h
     exact ⟨m, e, by omega, hp⟩
theorem Vw.opens {S : Sta} (v : Vw S) (hw : Wel S) {c : Cal} (h0 : 0 ≤ c.core) (h1 : c.core < (S.made.length : Int)) {pick : List Int → Int} (hp : ∀ l, l ≠ [] → pick l ∈ l) {x : Sta × Ans} (h : openR S c pick = .ok x) : Vw x.1 := by
 unfold openR at h
 split at h
 · cases h
 · rename_i hc
   split at h
   · cases h
   · rename_i hd
     split at h
     · cases h
     · rename_i hq
       cases h
       have hc' : (findR S.ino c.path).2 = 0 := by simpa using hc
       obtain ⟨f, hf0, hf, ha, hn⟩ := hw.found hc'
       have hin : pick (freeR S.opn c.core) ∈ freeN S.opn c.core 4 := hp _ hq
       obtain ⟨m, e, hm, hno⟩ := freeN_mem hin
       refine v.more h0 h1 (by omega) (by omega) hno hf0 ha ?_
       rw [dir_of ha hf0] at hd
       simpa using hd
end Go.Proofs.YtmeafancgmkfkaaGreatDoor

namespace Go.Proofs.YtmeafancgmkfkaaGreatDoor
open Go.RowKit
set_option linter.unusedVariables false
theorem at_isSome {L : List Ino} {z : Int} : (atR L z).isSome = true ↔ ∃ x ∈ L, x.num = z := by
 unfold atR
 rw [List.findIdx?_isSome]
 simp
theorem look_iff {L : List Ino} (h : adj ltI L = true) {x : Ino} (hx : x ∈ L) : look L x.num = some x := (look_mem h).2 ⟨hx, rfl⟩
theorem dir_iff {L : List Ino} (h : adj ltI L = true) {z : Int} : dirOf L z = true ↔ ∃ x ∈ L, x.num = z ∧ x.dir = true := by
 rw [look_dir]
 constructor
 · intro e
   rcases hl : look L z with _ | x
   · rw [hl] at e; cases e
   · rw [hl] at e
     obtain ⟨h1, h2⟩ := (look_mem h).1 hl
     exact ⟨x, h1, h2, e⟩
 · rintro ⟨x, hx, rfl, hd⟩
   rw [look_iff h hx]
   exact hd
theorem ents_mem {L : List Ino} (h : adj ltI L = true) {x : Ino} (hx : x ∈ L) : entsOf L x.num = x.ents := by
 rw [look_ents, look_iff h hx]
 rfl
theorem kid_iff {L : List Ino} {y z : Int} : z ∈ kids L y ↔ (∃ e ∈ entsOf L y, e.2 = z) ∧ dirOf L z = true := by
 unfold kids kidsE
 rw [List.mem_map]
 constructor
 · rintro ⟨e, he, rfl⟩
   rw [List.mem_filter] at he
   exact ⟨⟨e, he.1, rfl⟩, he.2⟩
 · rintro ⟨⟨e, he, rfl⟩, hd⟩
   exact ⟨e, List.mem_filter.2 ⟨he, hd⟩, rfl⟩
theorem adj_set {L : List Ino} (h : adj ltI L = true) {j : Nat} (hj : j < L.length) {y : Ino} (hy : y.num = (L[j]).num) : adj ltI (L.set j y) = true := by
 rw [adj_iff] at h ⊢
 intro i hi
 rw [List.length_set] at hi
 have h1 := h i hi
 unfold ltI at h1 ⊢
 have e : ∀ k (hk : k < L.length), ((L.set j y)[k]'(by rw [List.length_set]; exact hk)).num = (L[k]).num := fun k hk => by
   rw [List.getElem_set]
   split
   · rename_i q; subst q; exact hy
   · rfl
 rw [e i (by omega), e (i + 1) hi]
 exact h1
theorem mem_set {L : List Ino} (h : adj ltI L = true) {j : Nat} (hj : j < L.length) {y x : Ino} : x ∈ L.set j y ↔ x = y ∨ (x ∈ L ∧ x.num ≠ (L[j]).num) := by
 constructor
 · intro hx
   obtain ⟨k, hk, rfl⟩ := List.getElem_of_mem hx
   rw [List.length_set] at hk
   rw [List.getElem_set]
   split
   · exact Or.inl rfl
   · rename_i q
     refine Or.inr ⟨List.getElem_mem hk, fun e => ?_⟩
     rcases Nat.lt_or_gt_of_ne q with a | a
     · have := adj_lt h j k hj hk a; omega
     · have := adj_lt h k j hk hj a; omega
 · rintro (rfl | ⟨hx, hn⟩)
   · exact List.mem_set hj x
   · obtain ⟨k, hk, rfl⟩ := List.getElem_of_mem hx
     have q : j ≠ k := fun e => by subst e; exact hn rfl
     have e : L[k] = (L.set j y)[k]'(by rw [List.length_set]; exact hk) := by rw [List.getElem_set, if_neg q]
     rw [e]
     exact List.getElem_mem _
theorem root_of {L : List Ino} (h : adj ltI L = true) (hp : ∀ x ∈ L, 1 ≤ x.num) {r : Ino} (hr : r ∈ L) (h1 : r.num = 1) (hd : r.dir = true) : ∃ x, L[0]? = some x ∧ x.num = 1 ∧ x.dir = true := by
 obtain ⟨k, hk, rfl⟩ := List.getElem_of_mem hr
 cases k with
 | zero => exact ⟨L[0], List.getElem?_eq_getElem hk, h1, hd⟩
 | succ k =>
   have a := adj_lt h 0 (k + 1) (by omega) hk (by omega)
   have b := hp _ (List.getElem_mem (show 0 < L.length by omega))
   omega
theorem inB_ins (E : List En) (e : En) (b : Nat) : inB (insR ltE E e) b = inB E b + if bkt e.1 = (b : Int) then 1 else 0 := by
 unfold inB insR
 have h : List.countP (fun e => bkt e.1 == (b : Int)) E = List.countP (fun e => bkt e.1 == (b : Int)) (E.take (whereR ltE E e)) + List.countP (fun e => bkt e.1 == (b : Int)) (E.drop (whereR ltE E e)) := by rw [← List.countP_append, List.take_append_drop]
 rw [List.countP_append, List.countP_cons, h]
 by_cases c : bkt e.1 = (b : Int)
 · simp [c]; omega
 · simp [c]
theorem pl_none {E : List En} {t : ByteArray} (h : (plR E t).isSome = false) : ∀ e ∈ E, e.1 ≠ t := fun e he q => by
 unfold plR at h
 rw [List.findIdx?_isSome] at h
 have := List.any_eq_false.1 h e he
 rw [q] at this
 simp at this
theorem entsB_ins {L L' : List Ino} {E : List En} (h : entsB L E = true) (hs : ∀ z, (atR L z).isSome = true → (atR L' z).isSome = true) {t : ByteArray} {z : Int} (hc : chk t = 0) (hz : z ≠ 1) (hl : (atR L' z).isSome = true) (hp : (plR E t).isSome = false) {d : Int} (hd : d ≠ 0) (hf : nFull E d t 0 ⟨#[]⟩ < 4) :
   entsB L' (insR ltE E (t, z)) = true := by
 unfold entsB at h ⊢
 rw [Bool.and_eq_true, Bool.and_eq_true] at h ⊢
 obtain ⟨⟨h1, h2⟩, h3⟩ := h
 refine ⟨⟨?_, ?_⟩, ?_⟩
 · rw [List.all_eq_true] at h1 ⊢
   intro e he
   rcases mem_ins.1 he with rfl | he
   · unfold entB; simp [hc, hz, hl]
   · have := h1 e he
     unfold entB at this ⊢
     rw [Bool.and_eq_true] at this ⊢
     exact ⟨this.1, hs _ this.2⟩
 · rw [List.all_eq_true] at h2 ⊢
   intro b hb
   have g := h2 b hb
   rw [decide_eq_true_eq] at g ⊢
   rw [inB_ins]
   split
   · rename_i q
     have e : nFull E d t 0 ⟨#[]⟩ = inB E b := by
       unfold nFull inB
       refine List.countP_congr fun e _ => ?_
       unfold inQ
       have q' : bkt t = (b : Int) := q
       have d0 : ((0 : Int) == d) = false := by simpa using fun e => hd e.symm
       rw [q', d0]
       simp
     omega
   · omega
 · refine adj_ins (fun a b c => below_trans) h3 fun y hy hl => ?_
   have hne := pl_none hp y hy
   rcases below_tri y.1 t with e | e | e
   · exact absurd e hne
   · have : ltE y (t, z) = true := e
     rw [this] at hl; cases hl
   · exact e
theorem entsB_mono {L L' : List Ino} {E : List En} (h : entsB L E = true) (hs : ∀ z, (atR L z).isSome = true → (atR L' z).isSome = true) : entsB L' E = true := by
 unfold entsB at h ⊢
 rw [Bool.and_eq_true, Bool.and_eq_true] at h ⊢
 obtain ⟨⟨h1, h2⟩, h3⟩ := h
 refine ⟨⟨?_, h2⟩, h3⟩
 rw [List.all_eq_true] at h1 ⊢
 intro e he
 have := h1 e he
 unfold entB at this ⊢
 rw [Bool.and_eq_true] at this ⊢
 exact ⟨this.1, hs _ this.2⟩
end Go.Proofs.YtmeafancgmkfkaaGreatDoor

namespace Go.Proofs.YtmeafancgmkfkaaGreatDoor
open Go.RowKit
set_option linter.unusedVariables false
theorem given_set {M : List Int} {i : Nat} (hi : i < M.length) {g : Int} (hg : M[i] ≤ g) {z : Int} (h : givenB M z = true) : givenB (M.set i g) z = true := by
 unfold givenB at h ⊢
 by_cases q : i = ((z - 2) % 8).toNat
 · rw [← q] at h ⊢
   rw [List.getElem?_eq_getElem hi] at h
   rw [List.getElem?_set_self hi]
   simp only [decide_eq_true_eq] at h ⊢
   omega
 · rw [List.getElem?_set_ne q]
   exact h
theorem given_new {M : List Int} {i : Nat} (hi : i < M.length) (h8 : i < 8) {g : Int} (h0 : 0 ≤ g) : givenB (M.set i (g + 1)) (2 + (i : Int) + 8 * g) = true := by
 unfold givenB
 have e : ((2 + (i : Int) + 8 * g - 2) % 8).toNat = i := by omega
 rw [e, List.getElem?_set]
 simp only [if_true, hi]
 rw [decide_eq_true_eq]
 omega
theorem entN_none {S : Sta} (v : Vw S) {z : Int} (hz : ∀ x ∈ S.ino, x.num ≠ z) : entN S.ino z = 0 := by
 have zero : ∀ l : List Nat, (∀ a ∈ l, a = 0) → l.sum = 0 := fun l h => by
   induction l with
   | nil => rfl
   | cons a l ih =>
     rw [List.sum_cons, h a List.mem_cons_self, ih fun b hb => h b (List.mem_cons_of_mem _ hb)]
 unfold entN
 refine zero _ fun a ha => ?_
 obtain ⟨x, hx, rfl⟩ := List.mem_map.1 ha
 unfold cnt
 rw [List.countP_eq_zero]
 intro e he q
 have q' : e.2 = z := by simpa using q
 have g := v.ino x hx
 unfold inoB at g
 split at g
 · rw [Bool.and_eq_true] at g
   have g2 := g.2
   unfold entsB at g2
   rw [Bool.and_eq_true, Bool.and_eq_true, List.all_eq_true] at g2
   have := g2.1.1 e he
   unfold entB at this
   rw [Bool.and_eq_true] at this
   obtain ⟨y, hy, e1⟩ := at_isSome.1 this.2
   exact hz y hy (by rw [e1, q'])
 · rw [Bool.and_eq_true] at g
   have : x.ents = [] := by simpa using g.1
   rw [this] at he
   cases he
theorem Vw.create {S : Sta} (v : Vw S) {i : Nat} (hi : i < S.made.length) (h8 : i < 8) {g : Int} (hg : S.made[i] = g) (hg0 : 0 ≤ g) (hg1 : g < 32) {x : Ino} (hxn : x.num = 2 + (i : Int) + 8 * g) (hxe : x.ents = []) (hxd : x.data = ⟨#[]⟩)
   (hfr : ∀ y ∈ S.ino, y.num ≠ x.num) {D : Ino} (hD : D ∈ S.ino) (hDd : D.dir = true) {t : ByteArray} (hc : chk t = 0) (hp : (plR D.ents t).isSome = false) (hf : nFull D.ents D.num t 0 ⟨#[]⟩ < 4)
   {j : Nat} (hj : j < (insR ltI S.ino x).length) (hjD : (insR ltI S.ino x)[j] = D) :
   Vw ⟨(insR ltI S.ino x).set j (withE D (insR ltE D.ents (t, x.num))), S.opn, S.made.set i (g + 1)⟩ := by
 have hpos : ∀ y ∈ S.ino, 1 ≤ y.num := fun y hy => by
   by_cases e : y.num = 1
   · omega
   · have := (v.gv y hy e).1; omega
 have hx2 : 2 ≤ x.num := by omega
 have a1 : adj ltI (insR ltI S.ino x) = true := adj_ins (fun a b c => ltI_trans a b c) v.row fun y hy hl => by
   have := hfr y hy
   unfold ltI at hl ⊢
   rw [decide_eq_false_iff_not] at hl
   rw [decide_eq_true_eq]
   omega
 obtain ⟨D', hD'⟩ : ∃ D', withE D (insR ltE D.ents (t, x.num)) = D' := ⟨_, rfl⟩
 have n' : D'.num = D.num := by rw [← hD']
 have d' : D'.dir = true := by rw [← hD']; exact hDd
 have e' : D'.ents = insR ltE D.ents (t, x.num) := by rw [← hD']
 have b' : D'.data = D.data := by rw [← hD']
 rw [hD']
 obtain ⟨L', hL'⟩ : ∃ L', (insR ltI S.ino x).set j D' = L' := ⟨_, rfl⟩
 have a2 : adj ltI L' = true := by rw [← hL']; exact adj_set a1 hj (by rw [hjD]; exact n')
 have hm : ∀ y, y ∈ L' ↔ y = D' ∨ (y = x ∨ y ∈ S.ino) ∧ y.num ≠ D.num := fun y => by
   rw [← hL', mem_set a1 hj, hjD, mem_ins]
 have hxD : x.num ≠ D.num := fun e => hfr D hD e.symm
 have hxm : x ∈ L' := (hm x).2 (Or.inr ⟨Or.inl rfl, hxD⟩)
 have hDm : D' ∈ L' := (hm D').2 (Or.inl rfl)
 have old : ∀ y ∈ S.ino, y.num ≠ D.num → y ∈ L' := fun y hy hn => (hm y).2 (Or.inr ⟨Or.inr hy, hn⟩)
 -- each old inode has its like
 have like : ∀ y ∈ S.ino, ∃ y' ∈ L', y'.num = y.num ∧ y'.dir = y.dir ∧ ∀ e ∈ y.ents, e ∈ y'.ents := fun y hy => by
   by_cases q : y.num = D.num
   · have : y = D := by
       have h1 := look_iff v.row hy
       have h2 := look_iff v.row hD
       rw [q, h2] at h1
       exact (Option.some.inj h1).symm
     subst this
     exact ⟨D', hDm, n', by rw [d', hDd], fun e he => by rw [e']; exact mem_ins.2 (Or.inr he)⟩
   · exact ⟨y, old y hy q, rfl, rfl, fun e he => he⟩
 have hs : ∀ z, (atR S.ino z).isSome = true → (atR L' z).isSome = true := fun z h => by
   obtain ⟨y, hy, rfl⟩ := at_isSome.1 h
   obtain ⟨y', hy', e1, -⟩ := like y hy
   exact at_isSome.2 ⟨y', hy', e1⟩
 have hN : ∀ z, entN L' z = entN S.ino z + if x.num = z then 1 else 0 := fun z => by
   have h1 := entN_set (insR ltI S.ino x) j hj D' z
   rw [hL', hjD, e', cnt_ins, entN_ins, hxe] at h1
   have : cnt [] z = 0 := rfl
   rw [this] at h1
   dsimp only at h1
   omega
 have dirs : ∀ z, dirOf L' z = true → z = x.num ∧ x.dir = true ∨ dirOf S.ino z = true := fun z h => by
   obtain ⟨y, hy, rfl, hd⟩ := (dir_iff a2).1 h
   rcases (hm y).1 hy with rfl | ⟨rfl | hy, -⟩
   · exact Or.inr ((dir_iff v.row).2 ⟨D, hD, n'.symm, hDd⟩)
   · exact Or.inl ⟨rfl, hd⟩
   · exact Or.inr ((dir_iff v.row).2 ⟨y, hy, rfl, hd⟩)
 have dirsUp : ∀ z, dirOf S.ino z = true → dirOf L' z = true := fun z h => by
   obtain ⟨y, hy, rfl, hd⟩ := (dir_iff v.row).1 h
   obtain ⟨y', hy', e1, e2, -⟩ := like y hy
   exact (dir_iff a2).2 ⟨y', hy', e1, by rw [e2]; exact hd⟩
 have up : ∀ z, Rch S.ino z → Rch L' z := fun z r => by
   induction r with
   | root => exact Rch.root
   | kid r0 hz ih =>
     rename_i y z
     rw [kid_iff] at hz
     obtain ⟨⟨e, he, rfl⟩, hd⟩ := hz
     refine Rch.kid ih (kid_iff.2 ⟨?_, dirsUp _ hd⟩)
     rw [look_ents] at he
     rcases hl : look S.ino y with _ | u
     · rw [hl] at he; cases he
     · rw [hl] at he
       obtain ⟨hu, rfl⟩ := (look_mem v.row).1 hl
       obtain ⟨u', hu', e1, -, e3⟩ := like u hu
       rw [← e1, ents_mem a2 hu']
       exact ⟨e, e3 e he, rfl⟩
 rw [hL']
 refine ⟨?_, a2, ?_, fun y hy hn => ?_, fun y hy => ?_, v.opn, fun d hq => ?_, fun y hy hn => ?_, fun z hz => ?_⟩
 · have m := v.made
   unfold madeB at m ⊢
   rw [List.length_set, Bool.and_eq_true, List.all_eq_true] at *
   refine ⟨m.1, fun z hz => ?_⟩
   rcases List.mem_or_eq_of_mem_set hz with h | rfl
   · exact m.2 z h
   · rw [Bool.and_eq_true, decide_eq_true_eq, decide_eq_true_eq]; omega
 · obtain ⟨r, hr, r1, rd⟩ := v.root
   obtain ⟨r', hr', e1, e2, -⟩ := like r (List.mem_of_getElem? hr)
   refine root_of a2 (fun y hy => ?_) hr' (by rw [e1]; exact r1) (by rw [e2]; exact rd)
   rcases (hm y).1 hy with rfl | ⟨rfl | hy, -⟩
   · rw [n']; exact hpos D hD
   · omega
   · exact hpos y hy
 · dsimp only at hy ⊢
   rcases (hm y).1 hy with rfl | ⟨rfl | hy, -⟩
   · rw [n'] at hn ⊢
     have := v.gv D hD hn
     exact ⟨this.1, given_set hi (by omega) this.2⟩
   · refine ⟨hx2, ?_⟩
     rw [hxn]
     exact given_new hi h8 hg0
   · have := v.gv y hy hn
     exact ⟨this.1, given_set hi (by omega) this.2⟩
 · dsimp only at hy ⊢
   rcases (hm y).1 hy with rfl | ⟨rfl | hy, -⟩
   · have gD := v.ino D hD
     unfold inoB at gD ⊢
     rw [hDd] at gD
     rw [d', b', e']
     simp only [if_true, Bool.and_eq_true] at gD ⊢
     exact ⟨gD.1, entsB_ins gD.2 hs hc (by omega) (at_isSome.2 ⟨x, hxm, rfl⟩) hp (by have := hpos D hD; omega) hf⟩
   · unfold inoB
     rw [hxe, hxd]
     split
     · rw [show ((⟨#[]⟩ : ByteArray).toList.isEmpty) = true from by decide +kernel]
       unfold entsB
       simp [inB, adj]
     · rfl
   · have g := v.ino y hy
     unfold inoB at g ⊢
     split
     · rename_i q
       rw [if_pos q, Bool.and_eq_true] at g
       rw [Bool.and_eq_true]
       exact ⟨g.1, entsB_mono g.2 hs⟩
     · rename_i q
       rw [if_neg q] at g
       exact g
 · have g := v.des d hq
   obtain ⟨k, ha, hk, hd⟩ := des_file g
   obtain ⟨hk2, hn2⟩ := at_get ha
   have hne : (S.ino[k]).num ≠ D.num := fun q => by
     have h1 := look_iff v.row (List.getElem_mem hk)
     have h2 := look_iff v.row hD
     rw [q, h2] at h1
     have := Option.some.inj h1
     rw [← this, hDd] at hd
     cases hd
   have hin := old _ (List.getElem_mem hk) hne
   have hl := look_iff a2 hin
   rw [hn2] at hl
   unfold look at hl
   rcases ha' : atR L' d.2.2 with _ | k'
   · rw [ha'] at hl; cases hl
   · rw [ha'] at hl
     simp only [Option.bind_some] at hl
     unfold desB at g ⊢
     dsimp only
     rw [ha']
     rw [List.length_set]
     rw [Bool.and_eq_true] at g ⊢
     refine ⟨g.1, ?_⟩
     simp only [hl]
     simp [hd]
 · dsimp only at hy ⊢
   unfold helB
   dsimp only
   rw [hN]
   rcases (hm y).1 hy with rfl | ⟨rfl | hy, -⟩
   · rw [n'] at hn ⊢
     have := v.held D hD hn
     unfold helB at this
     rw [hDd] at this
     rw [d', if_neg hxD]
     simpa using this
   · rw [entN_none v hfr]
     simp
   · have := v.held y hy hn
     unfold helB at this
     have q : (if x.num = y.num then 1 else 0) = 0 := if_neg (fun e => hfr y hy e.symm)
     rw [q]
     exact this
 · rcases dirs z hz with ⟨rfl, hd⟩ | h
   · refine Rch.kid (up D.num (v.fnd D.num ((dir_iff v.row).2 ⟨D, hD, rfl, hDd⟩))) (kid_iff.2 ⟨?_, hz⟩)
     rw [← n', ents_mem a2 hDm, e']
     exact ⟨_, mem_ins.2 (Or.inl rfl), rfl⟩
   · exact up z (v.fnd z h)
end Go.Proofs.YtmeafancgmkfkaaGreatDoor
