/-
  Joined of my texts Kw Kx Tz Wz.
-/
import Derived.Test.YtffncojcnbhblaaGreatDoorJa44
import Derived.Test.YtffncojcnbhblaaGreatDoorJa28
set_option linter.unusedVariables false
set_option linter.unusedSimpArgs false
set_option maxRecDepth 100000
set_option maxHeartbeats 8000000
namespace Go.Proofs.YtffncojcnbhblaaGreatDoor
open Go.RowKit
def bare (x : Ino) : Int × Bool × List En := (x.num, x.dir, x.ents)
def Alike (L L' : List Ino) : Prop := L.map bare = L'.map bare
theorem Alike.len {L L' : List Ino} (h : Alike L L') : L.length = L'.length := by
 have := congrArg List.length h
 simpa using this
theorem Alike.get {L L' : List Ino} (h : Alike L L') {k : Nat} (hk : k < L.length) (hk' : k < L'.length) : (L[k]).num = (L'[k]).num ∧ (L[k]).dir = (L'[k]).dir ∧ (L[k]).ents = (L'[k]).ents := by
 have e := congrArg (fun l => l[k]?) h
 simp only [List.getElem?_map, List.getElem?_eq_getElem hk, List.getElem?_eq_getElem hk', Option.map_some, Option.some.injEq] at e
 exact ⟨congrArg (fun t => t.1) e, congrArg (fun t => t.2.1) e, congrArg (fun t => t.2.2) e⟩
theorem Alike.symm {L L' : List Ino} (h : Alike L L') : Alike L' L := Eq.symm h
theorem at_bare (L : List Ino) (z : Int) : atR L z = (L.map bare).findIdx? fun t => t.1 == z := by
 unfold atR
 rw [List.findIdx?_map]
 rfl
theorem Alike.at {L L' : List Ino} (h : Alike L L') (z : Int) : atR L z = atR L' z := by rw [at_bare, at_bare, h]
theorem Alike.dirOf {L L' : List Ino} (h : Alike L L') (z : Int) : dirOf L z = dirOf L' z := by
 rw [look_dir, look_dir]
 unfold look
 rw [h.at z]
 rcases ha : atR L' z with _ | k
 · rfl
 ·
  obtain ⟨hk', -⟩ := at_get ha
  have hk : k < L.length := by rw [h.len]; exact hk'
  simp [hk, hk', (h.get hk hk').2.1]
theorem Alike.entsOf {L L' : List Ino} (h : Alike L L') (z : Int) : entsOf L z = entsOf L' z := by
 rw [look_ents, look_ents]
 unfold look
 rw [h.at z]
 rcases ha : atR L' z with _ | k
 · rfl
 ·
  obtain ⟨hk', -⟩ := at_get ha
  have hk : k < L.length := by rw [h.len]; exact hk'
  simp [hk, hk', (h.get hk hk').2.2]
theorem Alike.kids {L L' : List Ino} (h : Alike L L') (z : Int) : kids L z = kids L' z := by
 unfold Go.Proofs.YtffncojcnbhblaaGreatDoor.kids kidsE
 rw [h.entsOf z]
 congr 1
 refine List.filter_congr fun e _ => ?_
 exact h.dirOf e.2
theorem Alike.rch {L L' : List Ino} (h : Alike L L') {z : Int} (r : Rch L z) : Rch L' z := by
 induction r with
 | root => exact Rch.root
 | kid _ hz ih => exact Rch.kid ih (by rw [← h.kids]; exact hz)
theorem Alike.entN {L L' : List Ino} (h : Alike L L') (z : Int) : entN L z = entN L' z := by
 have e : ∀ M : List Ino, Go.Proofs.YtffncojcnbhblaaGreatDoor.entN M z = ((M.map bare).map fun t => cnt t.2.2 z).sum := fun M => by
  unfold Go.Proofs.YtffncojcnbhblaaGreatDoor.entN
  rw [List.map_map]
  rfl
 rw [e, e, h]
theorem Alike.adj {L L' : List Ino} (h : Alike L L') (ha : adj ltI L = true) : adj ltI L' = true := by
 rw [adj_iff] at ha ⊢
 intro j hj
 have hl := h.len
 have h1 := ha j (by omega)
 have g0 := h.get (k := j) (by omega) (by omega)
 have g1 := h.get (k := j + 1) (by omega) hj
 unfold ltI at h1 ⊢
 rw [← g0.1, ← g1.1]
 exact h1
theorem Alike.mem {L L' : List Ino} (h : Alike L L') {x' : Ino} (hx : x' ∈ L') : ∃ x ∈ L, x.num = x'.num ∧ x.dir = x'.dir ∧ x.ents = x'.ents := by
 obtain ⟨k, hk', rfl⟩ := List.getElem_of_mem hx
 have hk : k < L.length := by rw [h.len]; exact hk'
 exact ⟨L[k], List.getElem_mem hk, h.get hk hk'⟩
theorem Alike.entsB {L L' : List Ino} (h : Alike L L') (E : List En) : entsB L E = entsB L' E := by
 have : entB L = entB L' := funext fun e => by unfold entB; rw [h.at]
 unfold Go.Proofs.YtffncojcnbhblaaGreatDoor.entsB
 rw [this]
theorem Vw.alike {S : Sta} (v : Vw S) {L' : List Ino} (h : Alike S.ino L') (hd : ∀ x ∈ L', if x.dir then x.data.toList.isEmpty = true else x.data.size ≤ 256) : Vw ⟨L', S.opn, S.made⟩ := by
 refine ⟨v.made, h.adj v.row, ?_, fun x hx hn => ?_, fun x hx => ?_, v.opn, fun d hq => ?_, fun x hx hn => ?_, fun z hz => ?_⟩
 ·
  obtain ⟨x, hx, n1, d1⟩ := v.root
  obtain ⟨h0, rfl⟩ := List.getElem?_eq_some_iff.1 hx
  have h0' : 0 < L'.length := by rw [← h.len]; exact h0
  obtain ⟨e1, e2, -⟩ := h.get h0 h0'
  exact ⟨L'[0], List.getElem?_eq_getElem h0', by rw [← e1]; exact n1, by rw [← e2]; exact d1⟩
 ·
  obtain ⟨y, hy, e1, -, -⟩ := h.mem hx
  have := v.gv y hy (by rw [e1]; exact hn)
  rw [e1] at this
  exact this
 ·
  obtain ⟨y, hy, e1, e2, e3⟩ := h.mem hx
  have g := v.ino y hy
  have q := hd x hx
  unfold inoB at g ⊢
  rw [e2, e3] at g
  cases hxd : x.dir with
  | true =>
   rw [hxd] at g q
   simp only [if_true, Bool.and_eq_true] at g q ⊢
   exact ⟨q, by rw [← h.entsB]; exact g.2⟩
  | false =>
   rw [hxd] at g q
   simp only [Bool.false_eq_true, if_false, Bool.and_eq_true, decide_eq_true_eq] at g q ⊢
   exact ⟨g.1, q⟩
 ·
  have g := v.des d hq
  unfold desB at g ⊢
  dsimp only
  rw [← h.at]
  rw [Bool.and_eq_true] at g ⊢
  refine ⟨g.1, ?_⟩
  have g2 := g.2
  rcases ha : atR S.ino d.2.2 with _ | k
  · rw [ha] at g2; exact g2
  ·
   rw [ha] at g2
   obtain ⟨hk, -⟩ := at_get ha
   have hk' : k < L'.length := by rw [← h.len]; exact hk
   have e2 := (h.get hk hk').2.1
   simp only [List.getElem?_eq_getElem hk, List.getElem?_eq_getElem hk'] at g2 ⊢
   simpa [e2] using g2
 ·
  obtain ⟨y, hy, e1, e2, -⟩ := h.mem hx
  have g := v.held y hy (by rw [e1]; exact hn)
  unfold helB at g ⊢
  rw [e1, e2] at g
  dsimp only
  rw [← h.entN]
  exact g
 ·
  have hz' : Go.Proofs.YtffncojcnbhblaaGreatDoor.dirOf S.ino z = true := by rw [h.dirOf]; exact hz
  exact h.rch (v.fnd z hz')
theorem alike_set (L : List Ino) {k : Nat} (hk : k < L.length) (y : Ino) (hy : bare y = bare L[k]) : Alike L (L.set k y) := by
 unfold Alike
 rw [List.map_set, hy]
 have : bare L[k] = (L.map bare)[k]'(by simpa using hk) := by simp
 rw [this, List.set_getElem_self]
theorem Vw.data {S : Sta} (v : Vw S) {k : Nat} (hk : k < S.ino.length) (hf : (S.ino[k]).dir = false) {d : ByteArray} (hd : d.size ≤ 256) : Vw (setD S k hk d) := by
 refine v.alike (alike_set S.ino hk (withD (S.ino[k]) d) rfl) fun x hx => ?_
 rcases List.mem_or_eq_of_mem_set hx with h1 | rfl
 ·
  have g := v.ino x h1
  unfold inoB at g
  cases hxd : x.dir with
  | true => rw [hxd] at g; simp only [if_true, Bool.and_eq_true] at g ⊢; exact g.1
  | false => rw [hxd] at g; simp only [Bool.false_eq_true, if_false, Bool.and_eq_true, decide_eq_true_eq] at g ⊢; exact g.2
 ·
  have : (withD (S.ino[k]) d).dir = false := hf
  rw [this]
  simp only [Bool.false_eq_true, if_false]
  exact hd
theorem fd_get {D : List Ds} {c f : Int} {j : Nat} (h : fdP D c f = some j) : ∃ hj : j < D.length, (D[j]).1 = c ∧ (D[j]).2.1 = f := by
 unfold fdP at h
 rw [List.findIdx?_eq_some_iff_getElem] at h
 obtain ⟨hj, h1, -⟩ := h
 simp only [Bool.and_eq_true, beq_iff_eq] at h1
 exact ⟨hj, h1⟩
theorem des_file {S : Sta} {d : Ds} (h : desB S d = true) : ∃ k, atR S.ino d.2.2 = some k ∧ ∃ hk : k < S.ino.length, (S.ino[k]).dir = false := by
 unfold desB at h
 rw [Bool.and_eq_true] at h
 have h2 := h.2
 rcases ha : atR S.ino d.2.2 with _ | k
 · rw [ha] at h2; cases h2
 ·
  obtain ⟨hk, -⟩ := at_get ha
  rw [ha] at h2
  exact ⟨k, rfl, hk, by simpa [hk] using h2⟩
theorem Vw.file {S : Sta} (v : Vw S) {c : Cal} {k : Nat} (h : fileR S c = .ok k) : ∃ hk : k < S.ino.length, (S.ino[k]).dir = false := by
 unfold fileR at h
 rcases hf : fdP S.opn c.core c.fd with _ | j
 · rw [hf] at h; cases h
 ·
  rw [hf] at h
  obtain ⟨hj, -, -⟩ := fd_get hf
  have e : desNum S.opn j = (S.opn[j]).2.2 := by unfold desNum; simp [hj]
  obtain ⟨k', ha, hk, hd⟩ := des_file (v.des _ (List.getElem_mem hj))
  simp only [e, ha] at h
  cases h
  exact ⟨hk, hd⟩
theorem Vw.setDS {S : Sta} (v : Vw S) {c : Cal} {k : Nat} (h : fileR S c = .ok k) {d : ByteArray} (hd : d.size ≤ 256) : Vw (setDS S k d) := by
 obtain ⟨hk, hf⟩ := v.file h
 unfold Go.Proofs.YtffncojcnbhblaaGreatDoor.setDS
 rw [dif_pos hk]
 exact v.data hk hf hd
def tD (k : Nat) : ByteArray := strOfNums (sizedL (dataAt (mS1 7) 3) k)
theorem mt1 : (0 : Int) < ((mS1 7).made.length : Int) := by decide
theorem t_size (k : Nat) : (tD k).size = k := by
 unfold tD
 rw [strOfNums_size, sizedL_length]
theorem t_byte {k j : Nat} (hj : j < k) (h : j < (tD k).size) : (((tD k)[j]'h).toNat : Int) = if j < 10 then 48 + (j : Int) else 0 := by
 have h1 : (tD k).data[j]? = ((sizedL (dataAt (mS1 7) 3) k)[j]?).map fun n => UInt8.ofNat n.toNat := by
  unfold tD strOfNums
  simp
 have hd : byI (dataAt (mS1 7) 3) = [48, 49, 50, 51, 52, 53, 54, 55, 56, 57] := by kernel_rfl
 have hz : (dataAt (mS1 7) 3).size = 10 := by kernel_rfl
 have h2 : (tD k).data[j]? = some ((tD k)[j]'h) := by
  rw [Array.getElem?_eq_getElem (by exact h)]
  rfl
 rw [h2] at h1
 unfold sizedL at h1
 rw [hd, hz] at h1
 by_cases h10 : j < 10
 ·
  rw [List.getElem?_append_left (by simp; omega), List.getElem?_take_of_lt hj] at h1
  have hc : j = 0 ∨ j = 1 ∨ j = 2 ∨ j = 3 ∨ j = 4 ∨ j = 5 ∨ j = 6 ∨ j = 7 ∨ j = 8 ∨ j = 9 := by omega
  rcases hc with rfl | rfl | rfl | rfl | rfl | rfl | rfl | rfl | rfl | rfl <;> (simp at h1; rw [h1]; decide)
 ·
  rw [List.getElem?_append_right (by simp; omega), List.getElem?_replicate] at h1
  rw [if_pos (by simp; omega)] at h1
  simp at h1
  rw [h1, if_neg h10]
  decide
def wD (a : Nat) (d : ByteArray) : ByteArray := if d.size = 0 then dataAt (mS1 7) 3 else strOfNums (writeL (dataAt (mS1 7) 3) d a)
def wS (a : Nat) (d : ByteArray) : Sta := setDS (mS1 7) 3 (wD a d)
theorem w_ten : (dataAt (mS1 7) 3).size = 10 := by kernel_rfl
theorem w_size (a : Nat) (d : ByteArray) : (wD a d).size = if d.size = 0 then 10 else max 10 (a + d.size) := by
 unfold wD
 split
 · exact w_ten
 · rw [strOfNums_size, writeL_length, w_ten]
theorem w_set (a : Nat) (d : ByteArray) : wS a d = setD (mS1 7) 3 (by decide) (wD a d) := by
 unfold wS setDS
 rw [dif_pos]
theorem w_small {a : Nat} {d : ByteArray} (h : a + d.size ≤ 256) : (wD a d).size ≤ 256 := by
 rw [w_size]
 split <;> omega
theorem w_may {a : Nat} {d : ByteArray} (h : a + d.size ≤ 256) : mayB (wS a d) = true :=
 may_view.2 (Vw.setDS (may_view.1 mb1_7) (c := ⟨7, 0, 0, 0, 0, ⟨#[]⟩, ⟨#[]⟩, ⟨#[]⟩⟩) (k := 3) rfl (w_small h))
theorem w_bd {a : Nat} {d : ByteArray} (h : a + d.size ≤ 256) : Bd (wS a d) := by
 rw [w_set]
 exact md1_7.setDat (by decide) (by have := w_small h; omega)
theorem w_bad {o : Int} {d : ByteArray} (h : ¬ (0 ≤ o ∧ o ≤ 256 ∧ d.size ≤ 256)) : playR (mS1 7) ⟨5, 0, 0, o, 0, ⟨#[]⟩, ⟨#[]⟩, d⟩ headI = (mS1 7, ansC 9) := by
 have hf : fileR (mS1 7) ⟨5, 0, 0, o, 0, ⟨#[]⟩, ⟨#[]⟩, d⟩ = .ok 3 := rfl
 have e : doR (mS1 7) ⟨5, 0, 0, o, 0, ⟨#[]⟩, ⟨#[]⟩, d⟩ headI = writeR (mS1 7) ⟨5, 0, 0, o, 0, ⟨#[]⟩, ⟨#[]⟩, d⟩ := by unfold doR; simp
 unfold playR
 rw [if_pos ⟨mb1_7, Int.le_refl _, mt1⟩, e]
 unfold writeR
 rw [hf]
 dsimp only
 rw [if_neg (fun x => h ⟨x.1.1, x.1.2, x.2⟩)]
 rfl
theorem w_full {a : Nat} {d : ByteArray} (ha : a ≤ 256) (hd : d.size ≤ 256) (h : 256 < a + d.size) : playR (mS1 7) ⟨5, 0, 0, (a : Int), 0, ⟨#[]⟩, ⟨#[]⟩, d⟩ headI = (mS1 7, ansC 5) := by
 have hf : fileR (mS1 7) ⟨5, 0, 0, (a : Int), 0, ⟨#[]⟩, ⟨#[]⟩, d⟩ = .ok 3 := rfl
 have e : doR (mS1 7) ⟨5, 0, 0, (a : Int), 0, ⟨#[]⟩, ⟨#[]⟩, d⟩ headI = writeR (mS1 7) ⟨5, 0, 0, (a : Int), 0, ⟨#[]⟩, ⟨#[]⟩, d⟩ := by unfold doR; simp
 unfold playR
 rw [if_pos ⟨mb1_7, Int.le_refl _, mt1⟩, e]
 unfold writeR
 rw [hf]
 dsimp only
 rw [if_pos ⟨⟨by omega, by omega⟩, hd⟩, if_pos (by rw [Int.toNat_natCast]; exact h)]
 rfl
theorem w_none {a : Nat} {d : ByteArray} (ha : a ≤ 256) (hd : d.size = 0) : playR (mS1 7) ⟨5, 0, 0, (a : Int), 0, ⟨#[]⟩, ⟨#[]⟩, d⟩ headI = (mS1 7, ansC 0) := by
 have hf : fileR (mS1 7) ⟨5, 0, 0, (a : Int), 0, ⟨#[]⟩, ⟨#[]⟩, d⟩ = .ok 3 := rfl
 have e : doR (mS1 7) ⟨5, 0, 0, (a : Int), 0, ⟨#[]⟩, ⟨#[]⟩, d⟩ headI = writeR (mS1 7) ⟨5, 0, 0, (a : Int), 0, ⟨#[]⟩, ⟨#[]⟩, d⟩ := by unfold doR; simp
 unfold playR
 rw [if_pos ⟨mb1_7, Int.le_refl _, mt1⟩, e]
 unfold writeR
 rw [hf]
 dsimp only
 rw [if_pos ⟨⟨by omega, by omega⟩, by omega⟩, if_neg (by rw [Int.toNat_natCast]; omega), if_pos hd]
 rfl
theorem w_some {a : Nat} {d : ByteArray} (h : a + d.size ≤ 256) (hd : ¬ d.size = 0) : playR (mS1 7) ⟨5, 0, 0, (a : Int), 0, ⟨#[]⟩, ⟨#[]⟩, d⟩ headI = (wS a d, ⟨0, 0, (d.size : Int), false, ⟨#[]⟩, []⟩) := by
 have hf : fileR (mS1 7) ⟨5, 0, 0, (a : Int), 0, ⟨#[]⟩, ⟨#[]⟩, d⟩ = .ok 3 := rfl
 have e : doR (mS1 7) ⟨5, 0, 0, (a : Int), 0, ⟨#[]⟩, ⟨#[]⟩, d⟩ headI = writeR (mS1 7) ⟨5, 0, 0, (a : Int), 0, ⟨#[]⟩, ⟨#[]⟩, d⟩ := by unfold doR; simp
 unfold playR
 rw [if_pos ⟨mb1_7, Int.le_refl _, mt1⟩, e]
 unfold writeR
 rw [hf]
 dsimp only
 rw [if_pos ⟨⟨by omega, by omega⟩, by omega⟩, if_neg (by rw [Int.toNat_natCast]; omega), if_neg hd, Int.toNat_natCast]
 show _ = (setDS (mS1 7) 3 (wD a d), _)
 unfold wD
 rw [if_neg hd]
 rfl
theorem w_read {a f n : Nat} {d : ByteArray} (h : a + d.size ≤ 256) (hf : f ≤ 256) (hn : n ≤ 256) : playR (wS a d) ⟨4, 0, 0, (f : Int), (n : Int), ⟨#[]⟩, ⟨#[]⟩, ⟨#[]⟩⟩ headI = (wS a d, ⟨0, 0, 0, false, (wD a d).extract (min f (wD a d).size) (min (f + n) (wD a d).size), []⟩) := by
 have hf' : fileR (wS a d) ⟨4, 0, 0, (f : Int), (n : Int), ⟨#[]⟩, ⟨#[]⟩, ⟨#[]⟩⟩ = .ok 3 := by rw [w_set]; rfl
 have hd : dataAt (wS a d) 3 = wD a d := by rw [w_set]; rfl
 have hm : (0 : Int) < ((wS a d).made.length : Int) := by rw [w_set]; exact mt1
 have e : doR (wS a d) ⟨4, 0, 0, (f : Int), (n : Int), ⟨#[]⟩, ⟨#[]⟩, ⟨#[]⟩⟩ headI = readR (wS a d) ⟨4, 0, 0, (f : Int), (n : Int), ⟨#[]⟩, ⟨#[]⟩, ⟨#[]⟩⟩ := by unfold doR; simp
 unfold playR
 rw [if_pos ⟨w_may h, Int.le_refl _, hm⟩, e]
 unfold readR
 rw [hf']
 dsimp only
 rw [if_pos ⟨⟨by omega, by omega⟩, by omega, by omega⟩, hd, Int.toNat_natCast, Int.toNat_natCast]
 rfl
theorem w_long {a : Nat} {d : ByteArray} (h : a + d.size ≤ 256) : playR (wS a d) ⟨7, 0, 0, 0, 0, ⟨#[]⟩, ⟨#[]⟩, ⟨#[]⟩⟩ headI = (wS a d, ⟨0, 0, ((wD a d).size : Int), false, ⟨#[]⟩, []⟩) := by
 have hf' : fileR (wS a d) ⟨7, 0, 0, 0, 0, ⟨#[]⟩, ⟨#[]⟩, ⟨#[]⟩⟩ = .ok 3 := by rw [w_set]; rfl
 have hd : dataAt (wS a d) 3 = wD a d := by rw [w_set]; rfl
 have hm : (0 : Int) < ((wS a d).made.length : Int) := by rw [w_set]; exact mt1
 have e : doR (wS a d) ⟨7, 0, 0, 0, 0, ⟨#[]⟩, ⟨#[]⟩, ⟨#[]⟩⟩ headI = sizeR (wS a d) ⟨7, 0, 0, 0, 0, ⟨#[]⟩, ⟨#[]⟩, ⟨#[]⟩⟩ := by unfold doR; simp
 unfold playR
 rw [if_pos ⟨w_may h, Int.le_refl _, hm⟩, e]
 unfold sizeR
 rw [hf']
 dsimp only
 rw [hd]
 rfl
theorem w_same {a : Nat} {d : ByteArray} (hd : d.size = 0) : wS a d = mS1 7 := by
 rw [w_set]
 unfold wD
 rw [if_pos hd]
 rfl
theorem sized_at {j k : Nat} (h : j < k) : (sizedL (dataAt (mS1 7) 3) k)[j]? = some (if j < 10 then 48 + (j : Int) else 0) := by
 have hd : byI (dataAt (mS1 7) 3) = [48, 49, 50, 51, 52, 53, 54, 55, 56, 57] := by kernel_rfl
 unfold sizedL
 rw [hd, w_ten]
 by_cases h10 : j < 10
 ·
  rw [List.getElem?_append_left (by simp; omega), List.getElem?_take_of_lt h, if_pos h10]
  have hc : j = 0 ∨ j = 1 ∨ j = 2 ∨ j = 3 ∨ j = 4 ∨ j = 5 ∨ j = 6 ∨ j = 7 ∨ j = 8 ∨ j = 9 := by omega
  rcases hc with rfl | rfl | rfl | rfl | rfl | rfl | rfl | rfl | rfl | rfl <;> rfl
 · rw [List.getElem?_append_right (by simp; omega), List.getElem?_replicate, if_pos (by simp; omega), if_neg h10]
def wB (a : Nat) (d : ByteArray) (p : Nat) : Int := if a ≤ p ∧ p < a + d.size then (((d.data[p - a]?).getD 0).toNat : Int) else if p < 10 then 48 + (p : Int) else 0
theorem w_byte {a p : Nat} {d : ByteArray} (h : p < (wD a d).size) : (((wD a d)[p]'h).toNat : Int) = wB a d p := by
 have h2 : (wD a d).data[p]? = some ((wD a d)[p]'h) := by
  rw [Array.getElem?_eq_getElem (by exact h)]
  rfl
 have hs := w_size a d
 by_cases hd : d.size = 0
 ·
  have h1 : wD a d = tD 10 := by
   unfold wD
   rw [if_pos hd]
   kernel_rfl
  rw [if_pos hd] at hs
  have h9 : p < (tD 10).size := by rw [t_size]; omega
  have h3 := t_byte (k := 10) (j := p) (by omega) h9
  have h4 : (wD a d)[p]'h = (tD 10)[p]'h9 := by simp only [h1]
  rw [h4, h3]
  unfold wB
  rw [if_neg (show ¬ (a ≤ p ∧ p < a + d.size) by omega)]
 ·
  rw [if_neg hd] at hs
  have h1 : (wD a d).data[p]? = ((writeL (dataAt (mS1 7) 3) d a)[p]?).map fun n => UInt8.ofNat n.toNat := by
   unfold wD
   rw [if_neg hd]
   unfold strOfNums
   simp
  rw [h2] at h1
  have hx : (writeL (dataAt (mS1 7) 3) d a)[p]? = some (wB a d p) := by
   unfold writeL
   rw [w_ten]
   have hl : ((sizedL (dataAt (mS1 7) 3) (max 10 (a + d.size))).take a).length = a := by rw [List.length_take, sizedL_length]; omega
   by_cases q1 : p < a
   ·
    rw [List.append_assoc, List.getElem?_append_left (by omega), List.getElem?_take_of_lt q1, sized_at (by omega)]
    unfold wB
    rw [if_neg (show ¬ (a ≤ p ∧ p < a + d.size) by omega)]
   ·
    rw [List.append_assoc, List.getElem?_append_right (by omega), hl]
    by_cases q2 : p < a + d.size
    ·
     rw [List.getElem?_append_left (by rw [byI_length]; omega)]
     unfold byI wB
     rw [if_pos ⟨by omega, q2⟩, List.getElem?_map]
     have h8 : p - a < d.data.size := by show p - a < d.size; omega
     obtain ⟨v, hv⟩ : ∃ v, d.data[p - a]? = some v := ⟨_, Array.getElem?_eq_getElem h8⟩
     simp [hv]
    ·
     rw [List.getElem?_append_right (by rw [byI_length]; omega), byI_length, List.getElem?_drop, show a + d.size + (p - a - d.size) = p by omega, sized_at (by omega)]
     unfold wB
     rw [if_neg (show ¬ (a ≤ p ∧ p < a + d.size) by omega)]
  rw [hx] at h1
  simp only [Option.map_some, Option.some.injEq] at h1
  rw [h1]
  have hb : 0 ≤ wB a d p ∧ wB a d p < 256 := by
   unfold wB
   split
   ·
    have := (((d.data[p - a]?).getD 0)).toNat_lt
    omega
   · split <;> omega
  rw [UInt8.toNat_ofNat_of_lt' (by show _ < 256; omega)]
  omega
end Go.Proofs.YtffncojcnbhblaaGreatDoor
