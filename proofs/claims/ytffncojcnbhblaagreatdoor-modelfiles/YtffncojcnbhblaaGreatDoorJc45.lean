/-
  Joined of my texts Kw Kx Tz Fz.
-/
import Derived.Test.YtffncojcnbhblaaGreatDoorJc44
import Derived.Test.YtffncojcnbhblaaGreatDoorJc28
set_option linter.unusedVariables false
set_option linter.unusedSimpArgs false
set_option maxRecDepth 100000
set_option maxHeartbeats 8000000
namespace Go.Proofs.YtffncojcnbhblaaGreatDoor
open Go.RowKit
def bare (x : Ino) : Int × Bool × List En := (x.num, x.dir, x.ents)
def Alike (L L' : List Ino) : Prop := L.map bare = L'.map bare
theorem Alike.len {L L' : List Ino} (h : Alike L L') : L.length = L'.length := by
 have := congrArg List.length h
 simpa using this
theorem Alike.get {L L' : List Ino} (h : Alike L L') {k : Nat} (hk : k < L.length) (hk' : k < L'.length) : (L[k]).num = (L'[k]).num ∧ (L[k]).dir = (L'[k]).dir ∧ (L[k]).ents = (L'[k]).ents := by
 have e := congrArg (fun l => l[k]?) h
 simp only [List.getElem?_map, List.getElem?_eq_getElem hk, List.getElem?_eq_getElem hk', Option.map_some, Option.some.injEq] at e
 exact ⟨congrArg (fun t => t.1) e, congrArg (fun t => t.2.1) e, congrArg (fun t => t.2.2) e⟩
theorem Alike.symm {L L' : List Ino} (h : Alike L L') : Alike L' L := Eq.symm h
theorem at_bare (L : List Ino) (z : Int) : atR L z = (L.map bare).findIdx? fun t => t.1 == z := by
 unfold atR
 rw [List.findIdx?_map]
 rfl
theorem Alike.at {L L' : List Ino} (h : Alike L L') (z : Int) : atR L z = atR L' z := by rw [at_bare, at_bare, h]
theorem Alike.dirOf {L L' : List Ino} (h : Alike L L') (z : Int) : dirOf L z = dirOf L' z := by
 rw [look_dir, look_dir]
 unfold look
 rw [h.at z]
 rcases ha : atR L' z with _ | k
 · rfl
 ·
  obtain ⟨hk', -⟩ := at_get ha
  have hk : k < L.length := by rw [h.len]; exact hk'
  simp [hk, hk', (h.get hk hk').2.1]
theorem Alike.entsOf {L L' : List Ino} (h : Alike L L') (z : Int) : entsOf L z = entsOf L' z := by
 rw [look_ents, look_ents]
 unfold look
 rw [h.at z]
 rcases ha : atR L' z with _ | k
 · rfl
 ·
  obtain ⟨hk', -⟩ := at_get ha
  have hk : k < L.length := by rw [h.len]; exact hk'
  simp [hk, hk', (h.get hk hk').2.2]
theorem Alike.kids {L L' : List Ino} (h : Alike L L') (z : Int) : kids L z = kids L' z := by
 unfold Go.Proofs.YtffncojcnbhblaaGreatDoor.kids kidsE
 rw [h.entsOf z]
 congr 1
 refine List.filter_congr fun e _ => ?_
 exact h.dirOf e.2
theorem Alike.rch {L L' : List Ino} (h : Alike L L') {z : Int} (r : Rch L z) : Rch L' z := by
 induction r with
 | root => exact Rch.root
 | kid _ hz ih => exact Rch.kid ih (by rw [← h.kids]; exact hz)
theorem Alike.entN {L L' : List Ino} (h : Alike L L') (z : Int) : entN L z = entN L' z := by
 have e : ∀ M : List Ino, Go.Proofs.YtffncojcnbhblaaGreatDoor.entN M z = ((M.map bare).map fun t => cnt t.2.2 z).sum := fun M => by
  unfold Go.Proofs.YtffncojcnbhblaaGreatDoor.entN
  rw [List.map_map]
  rfl
 rw [e, e, h]
theorem Alike.adj {L L' : List Ino} (h : Alike L L') (ha : adj ltI L = true) : adj ltI L' = true := by
 rw [adj_iff] at ha ⊢
 intro j hj
 have hl := h.len
 have h1 := ha j (by omega)
 have g0 := h.get (k := j) (by omega) (by omega)
 have g1 := h.get (k := j + 1) (by omega) hj
 unfold ltI at h1 ⊢
 rw [← g0.1, ← g1.1]
 exact h1
theorem Alike.mem {L L' : List Ino} (h : Alike L L') {x' : Ino} (hx : x' ∈ L') : ∃ x ∈ L, x.num = x'.num ∧ x.dir = x'.dir ∧ x.ents = x'.ents := by
 obtain ⟨k, hk', rfl⟩ := List.getElem_of_mem hx
 have hk : k < L.length := by rw [h.len]; exact hk'
 exact ⟨L[k], List.getElem_mem hk, h.get hk hk'⟩
theorem Alike.entsB {L L' : List Ino} (h : Alike L L') (E : List En) : entsB L E = entsB L' E := by
 have : entB L = entB L' := funext fun e => by unfold entB; rw [h.at]
 unfold Go.Proofs.YtffncojcnbhblaaGreatDoor.entsB
 rw [this]
theorem Vw.alike {S : Sta} (v : Vw S) {L' : List Ino} (h : Alike S.ino L') (hd : ∀ x ∈ L', if x.dir then x.data.toList.isEmpty = true else x.data.size ≤ 256) : Vw ⟨L', S.opn, S.made⟩ := by
 refine ⟨v.made, h.adj v.row, ?_, fun x hx hn => ?_, fun x hx => ?_, v.opn, fun d hq => ?_, fun x hx hn => ?_, fun z hz => ?_⟩
 ·
  obtain ⟨x, hx, n1, d1⟩ := v.root
  obtain ⟨h0, rfl⟩ := List.getElem?_eq_some_iff.1 hx
  have h0' : 0 < L'.length := by rw [← h.len]; exact h0
  obtain ⟨e1, e2, -⟩ := h.get h0 h0'
  exact ⟨L'[0], List.getElem?_eq_getElem h0', by rw [← e1]; exact n1, by rw [← e2]; exact d1⟩
 ·
  obtain ⟨y, hy, e1, -, -⟩ := h.mem hx
  have := v.gv y hy (by rw [e1]; exact hn)
  rw [e1] at this
  exact this
 ·
  obtain ⟨y, hy, e1, e2, e3⟩ := h.mem hx
  have g := v.ino y hy
  have q := hd x hx
  unfold inoB at g ⊢
  rw [e2, e3] at g
  cases hxd : x.dir with
  | true =>
   rw [hxd] at g q
   simp only [if_true, Bool.and_eq_true] at g q ⊢
   exact ⟨q, by rw [← h.entsB]; exact g.2⟩
  | false =>
   rw [hxd] at g q
   simp only [Bool.false_eq_true, if_false, Bool.and_eq_true, decide_eq_true_eq] at g q ⊢
   exact ⟨g.1, q⟩
 ·
  have g := v.des d hq
  unfold desB at g ⊢
  dsimp only
  rw [← h.at]
  rw [Bool.and_eq_true] at g ⊢
  refine ⟨g.1, ?_⟩
  have g2 := g.2
  rcases ha : atR S.ino d.2.2 with _ | k
  · rw [ha] at g2; exact g2
  ·
   rw [ha] at g2
   obtain ⟨hk, -⟩ := at_get ha
   have hk' : k < L'.length := by rw [← h.len]; exact hk
   have e2 := (h.get hk hk').2.1
   simp only [List.getElem?_eq_getElem hk, List.getElem?_eq_getElem hk'] at g2 ⊢
   simpa [e2] using g2
 ·
  obtain ⟨y, hy, e1, e2, -⟩ := h.mem hx
  have g := v.held y hy (by rw [e1]; exact hn)
  unfold helB at g ⊢
  rw [e1, e2] at g
  dsimp only
  rw [← h.entN]
  exact g
 ·
  have hz' : Go.Proofs.YtffncojcnbhblaaGreatDoor.dirOf S.ino z = true := by rw [h.dirOf]; exact hz
  exact h.rch (v.fnd z hz')
theorem alike_set (L : List Ino) {k : Nat} (hk : k < L.length) (y : Ino) (hy : bare y = bare L[k]) : Alike L (L.set k y) := by
 unfold Alike
 rw [List.map_set, hy]
 have : bare L[k] = (L.map bare)[k]'(by simpa using hk) := by simp
 rw [this, List.set_getElem_self]
theorem Vw.data {S : Sta} (v : Vw S) {k : Nat} (hk : k < S.ino.length) (hf : (S.ino[k]).dir = false) {d : ByteArray} (hd : d.size ≤ 256) : Vw (setD S k hk d) := by
 refine v.alike (alike_set S.ino hk (withD (S.ino[k]) d) rfl) fun x hx => ?_
 rcases List.mem_or_eq_of_mem_set hx with h1 | rfl
 ·
  have g := v.ino x h1
  unfold inoB at g
  cases hxd : x.dir with
  | true => rw [hxd] at g; simp only [if_true, Bool.and_eq_true] at g ⊢; exact g.1
  | false => rw [hxd] at g; simp only [Bool.false_eq_true, if_false, Bool.and_eq_true, decide_eq_true_eq] at g ⊢; exact g.2
 ·
  have : (withD (S.ino[k]) d).dir = false := hf
  rw [this]
  simp only [Bool.false_eq_true, if_false]
  exact hd
theorem fd_get {D : List Ds} {c f : Int} {j : Nat} (h : fdP D c f = some j) : ∃ hj : j < D.length, (D[j]).1 = c ∧ (D[j]).2.1 = f := by
 unfold fdP at h
 rw [List.findIdx?_eq_some_iff_getElem] at h
 obtain ⟨hj, h1, -⟩ := h
 simp only [Bool.and_eq_true, beq_iff_eq] at h1
 exact ⟨hj, h1⟩
theorem des_file {S : Sta} {d : Ds} (h : desB S d = true) : ∃ k, atR S.ino d.2.2 = some k ∧ ∃ hk : k < S.ino.length, (S.ino[k]).dir = false := by
 unfold desB at h
 rw [Bool.and_eq_true] at h
 have h2 := h.2
 rcases ha : atR S.ino d.2.2 with _ | k
 · rw [ha] at h2; cases h2
 ·
  obtain ⟨hk, -⟩ := at_get ha
  rw [ha] at h2
  exact ⟨k, rfl, hk, by simpa [hk] using h2⟩
theorem Vw.file {S : Sta} (v : Vw S) {c : Cal} {k : Nat} (h : fileR S c = .ok k) : ∃ hk : k < S.ino.length, (S.ino[k]).dir = false := by
 unfold fileR at h
 rcases hf : fdP S.opn c.core c.fd with _ | j
 · rw [hf] at h; cases h
 ·
  rw [hf] at h
  obtain ⟨hj, -, -⟩ := fd_get hf
  have e : desNum S.opn j = (S.opn[j]).2.2 := by unfold desNum; simp [hj]
  obtain ⟨k', ha, hk, hd⟩ := des_file (v.des _ (List.getElem_mem hj))
  simp only [e, ha] at h
  cases h
  exact ⟨hk, hd⟩
theorem Vw.setDS {S : Sta} (v : Vw S) {c : Cal} {k : Nat} (h : fileR S c = .ok k) {d : ByteArray} (hd : d.size ≤ 256) : Vw (setDS S k d) := by
 obtain ⟨hk, hf⟩ := v.file h
 unfold Go.Proofs.YtffncojcnbhblaaGreatDoor.setDS
 rw [dif_pos hk]
 exact v.data hk hf hd
theorem mt1 : (0 : Int) < ((mS1 7).made.length : Int) := by decide
def gF (D E : ByteArray) : Sta := ⟨[⟨1, true, [(⟨#[100]⟩, 2), (⟨#[101]⟩, 10), (⟨#[102]⟩, 18), (⟨#[103]⟩, 18)], ⟨#[]⟩⟩, ⟨2, true, [(⟨#[104]⟩, 26)], ⟨#[]⟩⟩, ⟨10, true, [], ⟨#[]⟩⟩, ⟨18, false, [], E⟩, ⟨26, false, [], D⟩], [(0, 0, 18), (0, 1, 26)], [4]⟩
theorem gf_open : playR (mS1 7) ⟨2, 0, 0, 0, 0, ⟨#[47, 100, 47, 104]⟩, ⟨#[]⟩, ⟨#[]⟩⟩ headI = (gF ⟨#[]⟩ ⟨#[48, 49, 50, 51, 52, 53, 54, 55, 56, 57]⟩, ⟨0, 1, 0, false, ⟨#[]⟩, []⟩) := by kernel_rfl
theorem gf_made (D E : ByteArray) : (0 : Int) < ((gF D E).made.length : Int) := by show (0 : Int) < 1; decide
theorem gf_set (D E : ByteArray) : gF D E = setDS (setDS (gF ⟨#[]⟩ ⟨#[48, 49, 50, 51, 52, 53, 54, 55, 56, 57]⟩) 4 D) 3 E := rfl
theorem gf_may0 : mayB (gF ⟨#[]⟩ ⟨#[48, 49, 50, 51, 52, 53, 54, 55, 56, 57]⟩) = true := by kernel_rfl
theorem gf_may {D E : ByteArray} (hD : D.size ≤ 256) (hE : E.size ≤ 256) : mayB (gF D E) = true := by
 rw [gf_set]
 exact may_view.2 (Vw.setDS (Vw.setDS (may_view.1 gf_may0) (c := ⟨7, 0, 1, 0, 0, ⟨#[]⟩, ⟨#[]⟩, ⟨#[]⟩⟩) (k := 4) rfl hD) (c := ⟨7, 0, 0, 0, 0, ⟨#[]⟩, ⟨#[]⟩, ⟨#[]⟩⟩) (k := 3) rfl hE)
theorem gf_bd0 : Bd (gF ⟨#[]⟩ ⟨#[48, 49, 50, 51, 52, 53, 54, 55, 56, 57]⟩) := bd_of (by kernel_rfl)
theorem gf_bd {D E : ByteArray} (hD : D.size ≤ 256) (hE : E.size ≤ 256) : Bd (gF D E) := by
 have h1 : Bd (gF D ⟨#[48, 49, 50, 51, 52, 53, 54, 55, 56, 57]⟩) := gf_bd0.setDat (k := 4) (by decide) (d := D) (by omega)
 exact h1.setDat (k := 3) (by show 3 < 5; decide) (d := E) (by omega)
theorem gf_links (D E : ByteArray) : linksR (gF D E).ino 2 = 1 := rfl
def fD (X d : ByteArray) (o : Nat) : ByteArray := if d.size ≤ 256 ∧ o + d.size ≤ 256 ∧ d.size ≠ 0 then strOfNums (writeL X d o) else X
def wA (o : Nat) (d : ByteArray) : Ans := if d.size ≤ 256 then (if 256 < o + d.size then ansC 5 else if d.size = 0 then ansC 0 else ⟨0, 0, (d.size : Int), false, ⟨#[]⟩, []⟩) else ansC 9
theorem fD_size {X d : ByteArray} {o : Nat} (hX : X.size ≤ 256) : (fD X d o).size ≤ 256 := by
 unfold fD
 split
 · rw [strOfNums_size, writeL_length]; omega
 · exact hX
theorem wA_code {o : Nat} {d : ByteArray} (ho : o ≤ 15) (h : ¬ (wA o d).code = 0) : 200 < d.size := by
 unfold wA at h
 by_cases h1 : d.size ≤ 256
 ·
  rw [if_pos h1] at h
  by_cases h2 : 256 < o + d.size
  · omega
  ·
   rw [if_neg h2] at h
   by_cases h3 : d.size = 0
   · rw [if_pos h3] at h; exact absurd rfl h
   · rw [if_neg h3] at h; exact absurd rfl h
 · omega
theorem wA_fits {o : Nat} {d : ByteArray} (h : (wA o d).code = 0) : o + d.size ≤ 256 := by
 unfold wA at h
 by_cases h1 : d.size ≤ 256
 ·
  rw [if_pos h1] at h
  by_cases h2 : 256 < o + d.size
  · rw [if_pos h2] at h; exact absurd h (by show ¬ (5 : Int) = 0; decide)
  · omega
 · rw [if_neg h1] at h; exact absurd h (by show ¬ (9 : Int) = 0; decide)
theorem by_back (d : ByteArray) : (byI d).map (fun n => UInt8.ofNat n.toNat) = d.data.toList := by
 unfold byI
 rw [List.map_map]
 have : (fun n : Int => UInt8.ofNat n.toNat) ∘ (fun b : UInt8 => (b.toNat : Int)) = id := by funext b; simp
 rw [this, List.map_id]
theorem wr_back {X d : ByteArray} {o : Nat} (h : o + d.size ≤ 256) : (fD X d o).extract (min o (fD X d o).size) (min (o + d.size) (fD X d o).size) = d := by
 by_cases h0 : d.size = 0
 ·
  have e : min o (fD X d o).size = min (o + d.size) (fD X d o).size := by rw [h0, Nat.add_zero]
  rw [e]
  have hs : ((fD X d o).extract (min (o + d.size) (fD X d o).size) (min (o + d.size) (fD X d o).size)).size = 0 := by rw [ByteArray.size_extract]; omega
  have e1 : ∀ t : ByteArray, t.size = 0 → t = ⟨#[]⟩ := fun t ht => ByteArray.ext (Array.eq_empty_of_size_eq_zero ht)
  rw [e1 _ hs, e1 _ h0]
 ·
  have hc : d.size ≤ 256 ∧ o + d.size ≤ 256 ∧ d.size ≠ 0 := ⟨by omega, h, h0⟩
  have e : fD X d o = strOfNums (writeL X d o) := by unfold fD; rw [if_pos hc]
  rw [e]
  have hs : (strOfNums (writeL X d o)).size = max X.size (o + d.size) := by rw [strOfNums_size, writeL_length]
  rw [hs, Nat.min_eq_left (by omega), Nat.min_eq_left (by omega)]
  apply ByteArray.ext
  apply Array.ext'
  rw [ByteArray.data_extract, Array.toList_extract]
  have hd : (strOfNums (writeL X d o)).data.toList = (writeL X d o).map fun n => UInt8.ofNat n.toNat := strOfNums_data _
  rw [hd]
  unfold writeL
  have l1 : ((sizedL X (max X.size (o + d.size))).take o).length = o := by rw [List.length_take, sizedL_length]; omega
  rw [List.map_append, List.map_append, by_back, List.append_assoc]
  simp only [List.extract_eq_take_drop]
  have l2 : (((sizedL X (max X.size (o + d.size))).take o).map fun n => UInt8.ofNat n.toNat).length = o := by rw [List.length_map, l1]
  have l3 : d.data.toList.length = o + d.size - o := by rw [Array.length_toList]; show d.data.size = _; have : d.size = d.data.size := rfl; omega
  rw [List.drop_append_of_le_length (by omega), List.drop_eq_nil_of_le (by omega), List.nil_append, ← l3, List.take_left]
theorem f_w1 {D E : ByteArray} (hD : D.size ≤ 256) (hE : E.size ≤ 256) {o : Nat} (ho : o ≤ 15) (a : ByteArray) : playR (gF D E) ⟨5, 0, 1, (o : Int), 0, ⟨#[]⟩, ⟨#[]⟩, a⟩ headI = (gF (fD D a o) E, wA o a) := by
 have hf : fileR (gF D E) ⟨5, 0, 1, (o : Int), 0, ⟨#[]⟩, ⟨#[]⟩, a⟩ = .ok 4 := rfl
 have hd : dataAt (gF D E) 4 = D := rfl
 have e : doR (gF D E) ⟨5, 0, 1, (o : Int), 0, ⟨#[]⟩, ⟨#[]⟩, a⟩ headI = writeR (gF D E) ⟨5, 0, 1, (o : Int), 0, ⟨#[]⟩, ⟨#[]⟩, a⟩ := by unfold doR; simp
 unfold playR
 rw [if_pos ⟨gf_may hD hE, Int.le_refl _, gf_made D E⟩, e]
 unfold writeR
 rw [hf]
 dsimp only
 by_cases h1 : a.size ≤ 256
 ·
  by_cases h2 : 256 < o + a.size
  ·
   have eD : fD D a o = D := if_neg (by omega)
   have eA : wA o a = ansC 5 := by unfold wA; rw [if_pos h1, if_pos h2]
   rw [eD, eA, if_pos ⟨⟨by omega, by omega⟩, h1⟩, if_pos (by simpa using h2)]
   rfl
  ·
   by_cases h3 : a.size = 0
   ·
    have eD : fD D a o = D := if_neg (by omega)
    have eA : wA o a = ansC 0 := by unfold wA; rw [if_pos h1, if_neg h2, if_pos h3]
    rw [eD, eA, if_pos ⟨⟨by omega, by omega⟩, h1⟩, if_neg (by simpa using h2), if_pos h3]
    rfl
   ·
    have eD : fD D a o = strOfNums (writeL D a o) := if_pos (by omega)
    have eA : wA o a = ⟨0, 0, (a.size : Int), false, ⟨#[]⟩, []⟩ := by unfold wA; rw [if_pos h1, if_neg h2, if_neg h3]
    rw [eD, eA, if_pos ⟨⟨by omega, by omega⟩, h1⟩, if_neg (by simpa using h2), if_neg h3, hd]
    rfl
 ·
  have eD : fD D a o = D := if_neg (by omega)
  have eA : wA o a = ansC 9 := by unfold wA; rw [if_neg h1]
  rw [eD, eA, if_neg (fun x => h1 x.2)]
  rfl
theorem f_w2 {D E : ByteArray} (hD : D.size ≤ 256) (hE : E.size ≤ 256) {o : Nat} (ho : o ≤ 15) (b : ByteArray) : playR (gF D E) ⟨5, 0, 0, 0, 0, ⟨#[]⟩, ⟨#[]⟩, b⟩ headI = (gF D (fD E b 0), wA 0 b) := by
 have hf : fileR (gF D E) ⟨5, 0, 0, 0, 0, ⟨#[]⟩, ⟨#[]⟩, b⟩ = .ok 3 := rfl
 have hd : dataAt (gF D E) 3 = E := rfl
 have e : doR (gF D E) ⟨5, 0, 0, 0, 0, ⟨#[]⟩, ⟨#[]⟩, b⟩ headI = writeR (gF D E) ⟨5, 0, 0, 0, 0, ⟨#[]⟩, ⟨#[]⟩, b⟩ := by unfold doR; simp
 unfold playR
 rw [if_pos ⟨gf_may hD hE, Int.le_refl _, gf_made D E⟩, e]
 unfold writeR
 rw [hf]
 dsimp only
 by_cases h1 : b.size ≤ 256
 ·
  by_cases h2 : 256 < 0 + b.size
  ·
   have eD : fD E b 0 = E := if_neg (by omega)
   have eA : wA 0 b = ansC 5 := by unfold wA; rw [if_pos h1, if_pos h2]
   rw [eD, eA, if_pos ⟨⟨by omega, by omega⟩, h1⟩, if_pos (by simpa using h2)]
   rfl
  ·
   by_cases h3 : b.size = 0
   ·
    have eD : fD E b 0 = E := if_neg (by omega)
    have eA : wA 0 b = ansC 0 := by unfold wA; rw [if_pos h1, if_neg h2, if_pos h3]
    rw [eD, eA, if_pos ⟨⟨by omega, by omega⟩, h1⟩, if_neg (by simpa using h2), if_pos h3]
    rfl
   ·
    have eD : fD E b 0 = strOfNums (writeL E b 0) := if_pos (by omega)
    have eA : wA 0 b = ⟨0, 0, (b.size : Int), false, ⟨#[]⟩, []⟩ := by unfold wA; rw [if_pos h1, if_neg h2, if_neg h3]
    rw [eD, eA, if_pos ⟨⟨by omega, by omega⟩, h1⟩, if_neg (by simpa using h2), if_neg h3, hd]
    rfl
 ·
  have eD : fD E b 0 = E := if_neg (by omega)
  have eA : wA 0 b = ansC 9 := by unfold wA; rw [if_neg h1]
  rw [eD, eA, if_neg (fun x => h1 x.2)]
  rfl
theorem f_r1 {D E : ByteArray} (hD : D.size ≤ 256) (hE : E.size ≤ 256) {o n : Nat} (ho : o ≤ 15) (hn : n ≤ 256) : playR (gF D E) ⟨4, 0, 1, (o : Int), (n : Int), ⟨#[]⟩, ⟨#[]⟩, ⟨#[]⟩⟩ headI = (gF D E, ⟨0, 0, 0, false, D.extract (min o D.size) (min (o + n) D.size), []⟩) := by
 have hf : fileR (gF D E) ⟨4, 0, 1, (o : Int), (n : Int), ⟨#[]⟩, ⟨#[]⟩, ⟨#[]⟩⟩ = .ok 4 := rfl
 have hd : dataAt (gF D E) 4 = D := rfl
 have e : doR (gF D E) ⟨4, 0, 1, (o : Int), (n : Int), ⟨#[]⟩, ⟨#[]⟩, ⟨#[]⟩⟩ headI = readR (gF D E) ⟨4, 0, 1, (o : Int), (n : Int), ⟨#[]⟩, ⟨#[]⟩, ⟨#[]⟩⟩ := by unfold doR; simp
 unfold playR
 rw [if_pos ⟨gf_may hD hE, Int.le_refl _, gf_made D E⟩, e]
 unfold readR
 rw [hf]
 dsimp only
 rw [if_pos ⟨⟨by omega, by omega⟩, by omega, by omega⟩, hd]
 simp only [Int.toNat_natCast, Int.toNat_zero]
 rfl
theorem f_r2 {D E : ByteArray} (hD : D.size ≤ 256) (hE : E.size ≤ 256) {o n : Nat} (ho : o ≤ 15) (hn : n ≤ 256) : playR (gF D E) ⟨4, 0, 0, 0, (n : Int), ⟨#[]⟩, ⟨#[]⟩, ⟨#[]⟩⟩ headI = (gF D E, ⟨0, 0, 0, false, E.extract (min 0 E.size) (min (0 + n) E.size), []⟩) := by
 have hf : fileR (gF D E) ⟨4, 0, 0, 0, (n : Int), ⟨#[]⟩, ⟨#[]⟩, ⟨#[]⟩⟩ = .ok 3 := rfl
 have hd : dataAt (gF D E) 3 = E := rfl
 have e : doR (gF D E) ⟨4, 0, 0, 0, (n : Int), ⟨#[]⟩, ⟨#[]⟩, ⟨#[]⟩⟩ headI = readR (gF D E) ⟨4, 0, 0, 0, (n : Int), ⟨#[]⟩, ⟨#[]⟩, ⟨#[]⟩⟩ := by unfold doR; simp
 unfold playR
 rw [if_pos ⟨gf_may hD hE, Int.le_refl _, gf_made D E⟩, e]
 unfold readR
 rw [hf]
 dsimp only
 rw [if_pos ⟨⟨by omega, by omega⟩, by omega, by omega⟩, hd]
 simp only [Int.toNat_natCast, Int.toNat_zero]
 rfl
end Go.Proofs.YtffncojcnbhblaaGreatDoor
