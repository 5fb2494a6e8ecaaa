/-
  Joined of my texts Un Rn Pk Ch Ca.
-/
import Derived.Test.YtffncojcnbhblaaGreatDoorJd20
import Derived.Test.YtffncojcnbhblaaGreatDoorJd23
import Derived.Test.YtffncojcnbhblaaGreatDoorJd21
import Derived.Test.YtffncojcnbhblaaGreatDoorJd22
import Derived.Test.YtffncojcnbhblaaGreatDoorJd24
import Derived.Defers
import Derived.Recover
import Derived.Test.YtffncojcnbhblaaGreatDoorTk
set_option linter.unusedVariables false
set_option linter.unusedSimpArgs false
set_option maxRecDepth 100000
set_option maxHeartbeats 8000000
namespace Go.Proofs.YtffncojcnbhblaaGreatDoor
open Go.RowKit
@[reducible] def putR (S : Sta) (k : Nat) (hk : k < S.ino.length) (t : ByteArray) (nu : Int) : Sta := setE S k hk (insR ltE (S.ino[k]).ents (t, nu))
def entNum (E : List En) (i : Nat) : Int := ((E[i]?).map Prod.snd).getD 0
def desNum (D : List Ds) (j : Nat) : Int := ((D[j]?).map fun d => d.2.2).getD 0
def dataAt (S : Sta) (k : Nat) : ByteArray := ((S.ino[k]?).map Ino.data).getD ⟨#[]⟩
def dataOf (L : List Ino) (z : Int) : ByteArray := match atR L z with
 | none => ⟨#[]⟩
 | some k => (L[k]?.map Ino.data).getD ⟨#[]⟩
def setDS (S : Sta) (k : Nat) (d : ByteArray) : Sta := if hk : k < S.ino.length then setD S k hk d else S
def setES (S : Sta) (k : Nat) (E : List En) : Sta := if hk : k < S.ino.length then setE S k hk E else S
def takeS (S : Sta) (d : Int) (t : ByteArray) : Sta := match atR S.ino d with
 | none => S
 | some k => match plR (entsOf S.ino d) t with
  | none => S
  | some i => sweepS (setES S k ((entsOf S.ino d).eraseIdx i)) (entNum (entsOf S.ino d) i)
def openR (S : Sta) (c : Cal) (pick : List Int → Int) : Except Int (Sta × Ans) :=
 if (findR S.ino c.path).2 ≠ 0 then .error (findR S.ino c.path).2 else
 if dirOf S.ino (findR S.ino c.path).1 then .error 8 else
 if freeR S.opn c.core = [] then .error 10 else
 .ok (⟨S.ino, insR ltD S.opn (c.core, pick (freeR S.opn c.core), (findR S.ino c.path).1), S.made⟩, ⟨0, pick (freeR S.opn c.core), 0, false, ⟨#[]⟩, []⟩)
def closeR (S : Sta) (c : Cal) : Except Int (Sta × Ans) := match fdP S.opn c.core c.fd with
 | none => .error 4
 | some j => .ok (sweepS (shutS S j) (desNum S.opn j), ansC 0)
def fileR (S : Sta) (c : Cal) : Except Int Nat := match fdP S.opn c.core c.fd with
 | none => .error 4
 | some j => match atR S.ino (desNum S.opn j) with
  | none => .error 4
  | some k => .ok k
def readR (S : Sta) (c : Cal) : Except Int (Sta × Ans) := match fileR S c with
 | .error e => .error e
 | .ok k => if (0 ≤ c.off ∧ c.off ≤ 256) ∧ 0 ≤ c.num ∧ c.num ≤ 256 then .ok (S, ⟨0, 0, 0, false, (dataAt S k).extract (min c.off.toNat (dataAt S k).size) (min (c.off.toNat + c.num.toNat) (dataAt S k).size), []⟩) else .error 9
def writeR (S : Sta) (c : Cal) : Except Int (Sta × Ans) := match fileR S c with
 | .error e => .error e
 | .ok k => if (0 ≤ c.off ∧ c.off ≤ 256) ∧ c.data.size ≤ 256 then
   (if 256 < c.off.toNat + c.data.size then .error 5 else if c.data.size = 0 then .ok (S, ansC 0) else .ok (setDS S k (strOfNums (writeL (dataAt S k) c.data c.off.toNat)), ⟨0, 0, (c.data.size : Int), false, ⟨#[]⟩, []⟩))
  else .error 9
def truncR (S : Sta) (c : Cal) : Except Int (Sta × Ans) := match fileR S c with
 | .error e => .error e
 | .ok k => if 0 ≤ c.num ∧ c.num ≤ 256 then .ok (setDS S k (strOfNums (sizedL (dataAt S k) c.num.toNat)), ansC 0) else .error 9
def sizeR (S : Sta) (c : Cal) : Except Int (Sta × Ans) := match fileR S c with
 | .error e => .error e
 | .ok k => .ok (S, ⟨0, 0, ((dataAt S k).size : Int), false, ⟨#[]⟩, []⟩)
def fsyncR (S : Sta) (c : Cal) : Except Int (Sta × Ans) := match fdP S.opn c.core c.fd with
 | none => .error 4
 | some _ => .ok (S, ansC 0)
def linkR (S : Sta) (c : Cal) : Except Int (Sta × Ans) :=
 if (findR S.ino c.path).2 ≠ 0 then .error (findR S.ino c.path).2 else
 if dirOf S.ino (findR S.ino c.path).1 then .error 8 else
 match spotR S.ino c.path2 with
 | .error e => .error e
 | .ok (d, t) => if (plR (entsOf S.ino d) t).isSome then .error 2 else
  if 4 ≤ nFull (entsOf S.ino d) d t 0 ⟨#[]⟩ then .error 5 else .ok (putS S d (t, (findR S.ino c.path).1), ansC 0)
def unlinkR (S : Sta) (c : Cal) : Except Int (Sta × Ans) := match spotR S.ino c.path with
 | .error e => .error e
 | .ok (d, t) => match plR (entsOf S.ino d) t with
  | none => .error 1
  | some i => if dirOf S.ino (entNum (entsOf S.ino d) i) then .error 8 else .ok (takeS S d t, ansC 0)
def rmdirR (S : Sta) (c : Cal) : Except Int (Sta × Ans) := match spotR S.ino c.path with
 | .error e => .error e
 | .ok (d, t) => match plR (entsOf S.ino d) t with
  | none => .error 1
  | some i => if dirOf S.ino (entNum (entsOf S.ino d) i) then (if entsOf S.ino (entNum (entsOf S.ino d) i) = [] then .ok (takeS S d t, ansC 0) else .error 3) else .error 7
def renameR (S : Sta) (c : Cal) : Except Int (Sta × Ans) := match spotR S.ino c.path with
 | .error e => .error e
 | .ok (d1, t1) => match plR (entsOf S.ino d1) t1 with
  | none => .error 1
  | some i1 => match spotR S.ino c.path2 with
   | .error e => .error e
   | .ok (d, t) => if belowR c.path c.path2 then .error 9 else
    if (plR (entsOf S.ino d) t).isSome then .error 2 else
    if 4 ≤ nFull (entsOf S.ino d) d t d1 t1 then .error 5 else .ok (takeS (putS S d (t, entNum (entsOf S.ino d1) i1)) d1 t1, ansC 0)
def listR (S : Sta) (c : Cal) : Except Int (Sta × Ans) :=
 if (findR S.ino c.path).2 ≠ 0 then .error (findR S.ino c.path).2 else
 if dirOf S.ino (findR S.ino c.path).1 then .ok (S, ⟨0, 0, 0, false, ⟨#[]⟩, (entsOf S.ino (findR S.ino c.path).1).map Prod.fst⟩) else .error 7
def statR (S : Sta) (c : Cal) : Except Int (Sta × Ans) :=
 if (findR S.ino c.path).2 ≠ 0 then .error (findR S.ino c.path).2 else
 .ok (S, ⟨0, 0, ((dataOf S.ino (findR S.ino c.path).1).size : Int), dirOf S.ino (findR S.ino c.path).1, ⟨#[]⟩, []⟩)
def linksC (S : Sta) (c : Cal) : Except Int (Sta × Ans) :=
 if (findR S.ino c.path).2 ≠ 0 then .error (findR S.ino c.path).2 else
 if dirOf S.ino (findR S.ino c.path).1 then .error 8 else .ok (S, ⟨0, 0, ((linksR S.ino (findR S.ino c.path).1 : Nat) : Int), false, ⟨#[]⟩, []⟩)
theorem des_num {D : List Ds} {j : Nat} (h : j < D.length) : desNum D j = (D[j]).2.2 := by unfold desNum; rw [List.getElem?_eq_getElem h]; rfl
theorem data_at {S : Sta} {k : Nat} (h : k < S.ino.length) : dataAt S k = (S.ino[k]).data := by unfold dataAt; rw [List.getElem?_eq_getElem h]; rfl
theorem data_of {L : List Ino} {z : Int} {k : Nat} (ha : atR L z = some k) (h : k < L.length) : dataOf L z = (L[k]).data := by unfold dataOf; rw [ha]; simp [h]
theorem dir_of {L : List Ino} {z : Int} {k : Nat} (ha : atR L z = some k) (h : k < L.length) : dirOf L z = (L[k]).dir := by unfold dirOf; rw [ha]; simp [h]
theorem Wel.found {S : Sta} (h : Wel S) {s : ByteArray} (hc : (findR S.ino s).2 = 0) : ∃ k, ∃ hk : k < S.ino.length, findR S.ino s = ((findR S.ino s).1, 0) ∧ atR S.ino (findR S.ino s).1 = some k ∧ (S.ino[k]).num = (findR S.ino s).1 := by
 have he : findR S.ino s = ((findR S.ino s).1, 0) := by rw [← hc]
 have := find_found h.clo he
 rcases ha : atR S.ino (findR S.ino s).1 with _ | k
 · rw [ha] at this; cases this
 ·
  obtain ⟨hk, hn⟩ := at_get ha
  exact ⟨k, hk, he, rfl, hn⟩
theorem Wel.spot {S : Sta} (h : Wel S) {s : ByteArray} {d : Int} {t : ByteArray} (hs : spotR S.ino s = .ok (d, t)) : ∃ k, ∃ hk : k < S.ino.length, atR S.ino d = some k ∧ entsOf S.ino d = (S.ino[k]).ents := by
 obtain ⟨k, hk, ha, -, -⟩ := dir_at (spot_dir hs)
 exact ⟨k, hk, ha, ents_at ha hk⟩
theorem Wel.ent {S : Sta} (h : Wel S) {k : Nat} (hk : k < S.ino.length) {i : Nat} (hi : i < (S.ino[k]).ents.length) : ∃ j, ∃ hj : j < S.ino.length, atR S.ino ((S.ino[k]).ents[i]).2 = some j := by
 have := h.clo.ent k hk _ (List.getElem_mem hi)
 rcases ha : atR S.ino ((S.ino[k]).ents[i]).2 with _ | j
 · rw [ha] at this; cases this
 ·
  obtain ⟨hj, -⟩ := at_get ha
  exact ⟨j, hj, rfl⟩
theorem Wel.fd {S : Sta} (h : Wel S) {j : Nat} (hj : j < S.opn.length) : ∃ k, ∃ hk : k < S.ino.length, atR S.ino (S.opn[j]).2.2 = some k := by
 obtain ⟨-, -, -, -, k, hk, ha, -⟩ := h.fds _ (List.getElem_mem hj)
 exact ⟨k, hk, ha⟩
theorem setDS_in {S : Sta} {k : Nat} (hk : k < S.ino.length) (d : ByteArray) : setDS S k d = setD S k hk d := by unfold setDS; rw [dif_pos hk]
theorem k_read {w0 w : World} {B : Nat} {c : Cal} {pk v1 v2 v3 : Value} {ev : List Value} {S : Sta} (h : Cb w0 w B c pk v1 v2 v3 ev S) (hw : Wel S) :
  Calls Tryz.prog 106 #[.pointer (some ⟨B, 0, none⟩)] w (Out w0 w B c pk v1 v2 v3 ev S (readR S c)) := by
 unfold readR
 rcases hf : fdP S.opn c.core c.fd with _ | j
 ·
  have e : fileR S c = .error 4 := by unfold fileR; rw [hf]
  rw [e]
  exact p_read_none h hf
 obtain ⟨hj, -⟩ := idx_get hf
 obtain ⟨k, hk, ha⟩ := hw.fd hj
 have e : fileR S c = .ok k := by unfold fileR; rw [hf]; simp only [des_num hj, ha]
 rw [e]
 simp only [data_at hk]
 by_cases ho : 0 ≤ c.off ∧ c.off ≤ 256
 ·
  by_cases hn : 0 ≤ c.num ∧ c.num ≤ 256
  ·
   rw [if_pos ⟨ho, hn⟩]
   exact p_read h hf hj ha hk (a := c.off.toNat) (m := c.num.toNat) (by omega) (by omega) (by omega) (by omega)
  ·
   rw [if_neg (fun x => hn x.2)]
   exact p_read_num h hf hj ha hk ho hn
 ·
  rw [if_neg (fun x => ho x.1)]
  exact p_read_off h hf hj ha hk ho
theorem k_write {w0 w : World} {B : Nat} {c : Cal} {pk v1 v2 v3 : Value} {ev : List Value} {S : Sta} (h : Cb w0 w B c pk v1 v2 v3 ev S) (hw : Wel S) (hz : c.data.size ≤ 9223372036854775807) :
  Calls Tryz.prog 107 #[.pointer (some ⟨B, 0, none⟩)] w (Out w0 w B c pk v1 v2 v3 ev S (writeR S c)) := by
 unfold writeR
 rcases hf : fdP S.opn c.core c.fd with _ | j
 ·
  have e : fileR S c = .error 4 := by unfold fileR; rw [hf]
  rw [e]
  exact p_write_none h hf
 obtain ⟨hj, -⟩ := idx_get hf
 obtain ⟨k, hk, ha⟩ := hw.fd hj
 have e : fileR S c = .ok k := by unfold fileR; rw [hf]; simp only [des_num hj, ha]
 rw [e]
 simp only [data_at hk]
 by_cases ho : 0 ≤ c.off ∧ c.off ≤ 256
 ·
  by_cases hn : c.data.size ≤ 256
  ·
   rw [if_pos ⟨ho, hn⟩]
   by_cases hq : 256 < c.off.toNat + c.data.size
   ·
    rw [if_pos hq]
    exact p_write_full h hf hj ha hk (a := c.off.toNat) (by omega) (by omega) hn hq
   ·
    rw [if_neg hq]
    by_cases h0 : c.data.size = 0
    ·
     rw [if_pos h0]
     exact p_write_zero h hf hj ha hk (a := c.off.toNat) (by omega) (by omega) h0
    ·
     rw [if_neg h0, setDS_in hk]
     exact p_write h hf hj ha hk (a := c.off.toNat) (by omega) (by omega) (by omega) (by omega)
  ·
   rw [if_neg (fun x => hn x.2)]
   exact p_write_size h hf hj ha hk hz ho (by omega)
 ·
  rw [if_neg (fun x => ho x.1)]
  exact p_write_off h hf hj ha hk hz ho
theorem k_stat {w0 w : World} {B : Nat} {c : Cal} {pk v1 v2 v3 : Value} {ev : List Value} {S : Sta} (h : Cb w0 w B c pk v1 v2 v3 ev S) (hw : Wel S) :
  Calls Tryz.prog 115 #[.pointer (some ⟨B, 0, none⟩)] w (Out w0 w B c pk v1 v2 v3 ev S (statR S c)) := by
 unfold statR
 by_cases hc : (findR S.ino c.path).2 = 0
 rotate_left
 ·
  rw [if_pos hc]
  exact p_stat_bad h (num := (findR S.ino c.path).1) rfl hc
 rw [if_neg (fun x => x hc)]
 obtain ⟨f, hf0, hf, ha, hn⟩ := hw.found hc
 rw [data_of ha hf0, dir_of ha hf0]
 exact p_stat h hf ha hf0
theorem k_list {w0 w : World} {B : Nat} {c : Cal} {pk v1 v2 v3 : Value} {ev : List Value} {S : Sta} (h : Cb w0 w B c pk v1 v2 v3 ev S) (hw : Wel S) :
  Calls Tryz.prog 114 #[.pointer (some ⟨B, 0, none⟩)] w (Out w0 w B c pk v1 v2 v3 ev S (listR S c)) := by
 unfold listR
 by_cases hc : (findR S.ino c.path).2 = 0
 rotate_left
 ·
  rw [if_pos hc]
  exact p_list_bad h (num := (findR S.ino c.path).1) rfl hc
 rw [if_neg (fun x => x hc)]
 obtain ⟨f, hf0, hf, ha, hn⟩ := hw.found hc
 rw [dir_of ha hf0, ents_at ha hf0]
 rcases hd : (S.ino[f]).dir with _ | _
 · exact p_list_file h hf ha hf0 hd
 · exact p_list_of h hf ha hf0 hd (by have := hw.en _ (List.getElem_mem hf0); omega)
theorem k_create {w0 w : World} {B : Nat} {c : Cal} {pk v1 v2 v3 : Value} {ev : List Value} {S : Sta} (h : Cb w0 w B c pk v1 v2 v3 ev S) (hw : Wel S) {i : Nat} (hc : c.core = (i : Int)) (hi : i < S.made.length) (dir : Bool) :
  Calls Tryz.prog 103 #[.pointer (some ⟨B, 0, none⟩), .bool dir] w (Out w0 w B c pk v1 v2 v3 ev S (createR S c i dir)) := by
 refine p_create h (hw.fit hc hi) dir fun S' v hr => ?_
 unfold createR at hr
 rcases hs : spotR S.ino c.path with code | ⟨d, t⟩
 · rw [hs] at hr; cases hr
 rw [hs] at hr
 simp only at hr
 split at hr
 · cases hr
 split at hr
 · cases hr
 simp only [Except.ok.injEq, Prod.mk.injEq] at hr
 obtain ⟨k, hk, hat, he⟩ := hw.spot hs
 rw [← hr.1]
 have hfr := hw.fresh hi
 rw [← hc] at hfr
 have hg : S.made.getD i 0 = S.made[i] := by rw [List.getD_eq_getElem?_getD, List.getElem?_eq_getElem hi]; rfl
 have hmg := hw.mg _ (List.getElem_mem hi)
 have h8 := hw.m8
 obtain ⟨x, hx⟩ : ∃ x : Ino, (⟨2 + c.core + 8 * S.made.getD i 0, dir, [], ⟨#[]⟩⟩ : Ino) = x := ⟨_, rfl⟩
 have hxn : x.num = 2 + c.core + 8 * S.made.getD i 0 := by rw [← hx]
 have hxe : x.ents = [] := by rw [← hx]
 have hxd : x.data = ⟨#[]⟩ := by rw [← hx]
 rw [hx]
 obtain ⟨hk9, hdn⟩ := at_get hat
 have hne : x.num ≠ d := fun e => by
  have := hfr _ (List.getElem_mem hk)
  rw [hdn, ← hxn] at this
  exact this e.symm
 obtain ⟨j, hj1, hj, hj2⟩ := at_ins hat hne hk
 have b1 : Bd ⟨insR ltI S.ino x, S.opn, S.made.set i (S.made.getD i 0 + 1)⟩ := by
  have b0 := h.bd.putIno (x := x) (by have := hw.few; omega) hxe hxd (by rw [hxn, hg, hc]; omega)
  exact ⟨b0.n1, b0.n2, by simpa using b0.n3, b0.n4, b0.w1, b0.d1, b0.e1⟩
 rw [putS_at (S := ⟨insR ltI S.ino x, S.opn, S.made.set i (S.made.getD i 0 + 1)⟩) hj1 hj]
 refine b1.setEnt hj ?_ ?_
 ·
  rw [insR_length]
  have e9 : ((insR ltI S.ino x)[j]).ents.length ≤ 32 := by rw [hj2]; exact hw.en _ (List.getElem_mem hk)
  show ((insR ltI S.ino x)[j]).ents.length + 1 ≤ _
  omega
 ·
  intro e he2
  unfold insR at he2
  simp only [List.mem_append, List.mem_cons] at he2
  have old : ∀ q ∈ ((insR ltI S.ino x)[j]).ents, q.1.size ≤ 140737488351232 := fun q hq => by rw [hj2] at hq; exact h.bd.e1 _ (List.getElem_mem hk) q hq
  rcases he2 with h1 | h1 | h1
  · exact old e (List.mem_of_mem_take h1)
  · rw [h1]; show t.size ≤ _; have := (spot_name hs).2; omega
  · exact old e (List.mem_of_mem_drop h1)
theorem k_least {w0 w : World} {B : Nat} {c : Cal} {v1 v2 v3 : Value} {ev : List Value} {S : Sta} (h : Cb w0 w B c (.func (.func 22) #[] #[]) v1 v2 v3 ev S) (hw : Wel S) :
  Calls Tryz.prog 104 #[.pointer (some ⟨B, 0, none⟩)] w (Out w0 w B c (.func (.func 22) #[] #[]) v1 v2 v3 ev S (openR S c headI)) := by
 unfold openR
 by_cases hc : (findR S.ino c.path).2 = 0
 rotate_left
 ·
  rw [if_pos hc]
  exact p_open_bad h (num := (findR S.ino c.path).1) rfl hc
 rw [if_neg (fun x => x hc)]
 obtain ⟨f, hf0, hf, ha, hn⟩ := hw.found hc
 rw [dir_of ha hf0]
 rcases hd : (S.ino[f]).dir with _ | _
 rotate_left
 · exact p_open_dir h hf ha hf0 hd
 rw [if_neg (by simp)]
 by_cases hn2 : freeR S.opn c.core = []
 ·
  rw [if_pos hn2]
  exact p_open_full h hf ha hf0 hd hn2
 rw [if_neg hn2, ← hn]
 exact p_open_least h hf ha hf0 hd (List.length_pos_iff.2 hn2) hw.da (by have := hw.few2; omega)
theorem k_told {w0 w : World} {X : Nat} {B : Nat} {c : Cal} {v1 v2 v3 : Value} {ev : List Value} {S : Sta} (h : Cb w0 w B c (.func (.func 25) #[] #[.pointer (some ⟨X, 0, none⟩)]) v1 v2 v3 ev S) (hw : Wel S) {z : Int} (hX : w0.cell? ⟨X, 1, none⟩ = some (.int .i64 z)) :
  Calls Tryz.prog 104 #[.pointer (some ⟨B, 0, none⟩)] w (Out w0 w B c (.func (.func 25) #[] #[.pointer (some ⟨X, 0, none⟩)]) v1 v2 v3 ev S (openR S c (fun xs => toldI xs z))) := by
 unfold openR
 by_cases hc : (findR S.ino c.path).2 = 0
 rotate_left
 ·
  rw [if_pos hc]
  exact p_open_bad h (num := (findR S.ino c.path).1) rfl hc
 rw [if_neg (fun x => x hc)]
 obtain ⟨f, hf0, hf, ha, hn⟩ := hw.found hc
 rw [dir_of ha hf0]
 rcases hd : (S.ino[f]).dir with _ | _
 rotate_left
 · exact p_open_dir h hf ha hf0 hd
 rw [if_neg (by simp)]
 by_cases hn2 : freeR S.opn c.core = []
 ·
  rw [if_pos hn2]
  exact p_open_full h hf ha hf0 hd hn2
 rw [if_neg hn2, ← hn]
 exact p_open_told h hf ha hf0 hd (List.length_pos_iff.2 hn2) hw.da (by have := hw.few2; omega) hX
theorem catch_idle (R : Nat) (w : World) : CallsD Tryz.prog 66 #[.pointer (some ⟨R, 0, none⟩)] .returning w fun e u' w' => e = .returned (.tuple #[]) ∧ u' = .returning ∧ w' = w := by
 refine callsD_of_wpS Tryz.func66 rfl fun c₀ cs hu => ?_
 apply wpS_seq
 apply wpS_region
 simp [wpOpsS, go_sem, recoverD, hu, Tryz.ntmps66, Exit.thenS]
 refine wpS_of_wp ?_
 go_wp2_with fail
 cases c₀
 simp_all [bodyPostS, results, Tryz.results66]
theorem catch_thrown (R : Nat) (code : Int) (older : List PanicEntry) {w : World} {c0 c1 c2 c3 c4 c5 : Value} (hb : w.heap[R]? = some (.cells #[c0, c1, c2, c3, c4, c5] 31 (0, 0))) :
  CallsD Tryz.prog 66 #[.pointer (some ⟨R, 0, none⟩)] (.panicking ({ v := .iface 106 (.int .i64 code), recovered := false } :: older)) w fun e u' w' =>
   e = .returned (.tuple #[]) ∧ u' = .panicking ({ v := .iface 106 (.int .i64 code), recovered := true } :: older) ∧ w' = laidR w R (.int .i64 code) (.int .i64 0) (.int .i64 0) (.bool false) (.string ⟨#[]⟩) (.slice none 0 0) := by
 have g0 : w.cell? ⟨R, 0, none⟩ = some c0 := cellB hb
 have g1 : w.cell? ⟨R, 1, none⟩ = some c1 := cellB hb
 have g2 : w.cell? ⟨R, 2, none⟩ = some c2 := cellB hb
 have g3 : w.cell? ⟨R, 3, none⟩ = some c3 := cellB hb
 have g4 : w.cell? ⟨R, 4, none⟩ = some c4 := cellB hb
 have g5 : w.cell? ⟨R, 5, none⟩ = some c5 := cellB hb
 obtain ⟨z0, z1, z2, z3, z4, z5⟩ := fz6 hb
 have HB : Hid (_) := hb
 have hta : ∀ w, (Instr.typeAssert (.iface 106 (.int .i64 code)) 20 106 true).run Tryz.prog w = .ok (.tuple #[.int .i64 code, .bool true]) w := fun w => by kernel_rfl
 clear hb
 refine callsD_of_wpS Tryz.func66 rfl fun c₀ cs hu => ?_
 apply wpS_seq
 apply wpS_region
 simp [wpOpsS, go_sem, recoverD, hu, Tryz.ntmps66, Exit.thenS]
 refine wpS_of_wp ?_
 go_wp2_with fail
 simp [bodyPostS, results, Tryz.results66]
theorem s4_kept {w w' : World} {B i : Nat} {p : Pl} {S : Sta} (h : w.cell? ⟨B, 1, none⟩ = some (.int .i64 (i : Int)) ∧ w.cell? ⟨B, 8, none⟩ = some (.slice p.a1 S.ino.length p.c1) ∧ w.cell? ⟨B, 9, none⟩ = some (.slice p.a2 S.opn.length p.c2) ∧ w.cell? ⟨B, 10, none⟩ = some (.slice p.a3 S.made.length p.c3)) (k : Kept [] w w') : w'.cell? ⟨B, 1, none⟩ = some (.int .i64 (i : Int)) ∧ w'.cell? ⟨B, 8, none⟩ = some (.slice p.a1 S.ino.length p.c1) ∧ w'.cell? ⟨B, 9, none⟩ = some (.slice p.a2 S.opn.length p.c2) ∧ w'.cell? ⟨B, 10, none⟩ = some (.slice p.a3 S.made.length p.c3) := ⟨k.cell h.1 (by simp), k.cell h.2.1 (by simp), k.cell h.2.2.1 (by simp), k.cell h.2.2.2 (by simp)⟩
def OnlyN (X : Act → World → Prop) : Exit → Act → World → Prop
 | .normal, a, w => X a w
 | _, _, _ => False
theorem wp_onlyN {P : Program} {c : Code} {a : Act} {w : World} {Q' : Exit → Act → World → Prop} (h : c.wp P (OnlyN (Q' .normal)) a w) : c.wp P Q' a w :=
 Code.wp_mono (fun e a w h => by
  cases e
  case normal => exact h
  all_goals exact h.elim) h
theorem onlyN_normal {X : Act → World → Prop} {a : Act} {w : World} : OnlyN X .normal a w = X a w := rfl
def ansR (S : Sta) : Except Int (Sta × Ans) → Sta × Ans
 | .error code => (S, ansC code)
 | .ok x => x
theorem p_caught {w0 w : World} {B : Nat} {c : Cal} {pk v1 v2 v3 : Value} {ev : List Value} {S : Sta} (h : Cb w0 w B c pk v1 v2 v3 ev S) (hm : mayB S = true) {i : Nat} (hci : c.core = (i : Int)) (hil : i < S.made.length) {r : Except Int (Sta × Ans)}
  (hdo : ∀ W, Cb w0 W B c pk v1 v2 v3 ev S → Calls Tryz.prog 68 #[.pointer (some ⟨B, 0, none⟩)] W (Out w0 W B c pk v1 v2 v3 ev S r)) :
  Calls Tryz.prog 38 #[.pointer (some ⟨B, 0, none⟩)] w (Oks w0 w B c pk v1 v2 v3 ev (ansR S r)) := by
 obtain ⟨W1, R, HWR, HKR, HRb⟩ := boxR w #[.int .i64 0, .int .i64 0, .int .i64 0, .bool false, .string ⟨#[]⟩, .slice none 0 0] 31
 have hmf : ∀ (fn : Fn) (first cap : Array Value) (w : World), (Instr.makeFunc fn first cap).run Tryz.prog w = .ok (.func fn first cap) w := fun _ _ _ _ => rfl
 have HC1 : Hid (Cb w0 W1 B c pk v1 v2 v3 ev S) := h.kept HKR.out
 have HRo : Hid (Off [R] v1 v2 v3 ev ∧ R ≠ B) := h.new (Nat.le_of_eq HWR.out.2)
 have HRw : Hid (w.heap.size ≤ R) := Nat.le_of_eq HWR.out.2
 have HRl : Hid (w0.heap.size ≤ R) := by have := h.k.size; rw [← HWR.out.2]; exact this
 obtain ⟨p, e1, e2, e3, hrd, f1, f3⟩ := HC1.out.rd
 have HM : Hid (∀ W, Kept [] W1 W → Calls Tryz.prog 19 #[.agg #[.slice p.a1 S.ino.length p.c1, .slice p.a2 S.opn.length p.c2, .slice p.a3 S.made.length p.c3]] W fun e w' => e = .returned (.bool true) ∧ Kept [] W w') := fun W hW => by
  have := p_may (hrd.sv.kept hW) (hrd.tab.kept hW) (fun x hx => Nat.le_trans (h.bd.d1 x hx) (by omega))
  rw [hm] at this
  exact this
 have HS : Hid (W1.cell? ⟨B, 1, none⟩ = some (.int .i64 (i : Int)) ∧ W1.cell? ⟨B, 8, none⟩ = some (.slice p.a1 S.ino.length p.c1) ∧ W1.cell? ⟨B, 9, none⟩ = some (.slice p.a2 S.opn.length p.c2) ∧ W1.cell? ⟨B, 10, none⟩ = some (.slice p.a3 S.made.length p.c3)) := ⟨by have := hrd.c1; rw [hci] at this; exact this, hrd.c8, hrd.c9, hrd.c10⟩
 have HDo : Hid (_) := hdo
 have t1 : decide ((i : Int) < 0) = false := by simp
 have t2 : decide ((i : Int) ≥ (S.made.length : Int)) = false := by simpa using hil
 have t3 : decide (S.made.length ≤ i) = false := by simpa using hil
 have HKw : Hid (Kept [] w W1) := HKR.out
 clear h hm hci hil hdo e1 e2 e3 f1 f3 hrd HKR
 go_enter_defers Tryz.func38, Tryz.ntmps38
 go_upto_region 2 with fail
 rw [HWR.out.1, HWR.out.2]
 clear HWR
 refine wp_onlyN ?_
 refine wp_region_held_drew (S := fun w' => w'.cell? ⟨B, 1, none⟩ = some (.int .i64 (i : Int)) ∧ w'.cell? ⟨B, 8, none⟩ = some (.slice p.a1 S.ino.length p.c1) ∧ w'.cell? ⟨B, 9, none⟩ = some (.slice p.a2 S.opn.length p.c2) ∧ w'.cell? ⟨B, 10, none⟩ = some (.slice p.a3 S.made.length p.c3)) (by kernel_rfl) ?_ (fun hHeld => ?_)
 · exact HS.out
 refine tkA 0 rfl ?_
 refine tkA 1 rfl ?_
 refine tkA 2 rfl ?_
 refine tkA 3 rfl ?_
 refine wpAnyH_ready (rs := [4]) (by kernel_rfl) (by simp) ?_
 refine AllReadyH.cons rfl (fun K hK => ?_) AllReadyH.nil
 go_simp
 refine (HM.out _ (Kept.refl _ _).drew).mono ?_
 rintro e w4 ⟨rfl, k4⟩
 have z4 := s4_kept hHeld k4
 have HK4 : Hid (Kept [] W1 w4) := (Kept.refl _ _).drew.trans k4 (by simp)
 clear k4
 go_wp2_with fail
 refine hK.out _ _ ?_ (fun hHeld => ?_)
 · exact z4
 clear hK K
 try simp only [Act.put, List.setIfInBounds_toArray, List.set_cons_zero, List.set_cons_succ, List.getElem_toArray, List.getElem_cons_zero, List.getElem_cons_succ]
 refine tkA 5 rfl ?_
 refine tkA 6 rfl ?_
 refine tkA 7 rfl ?_
 refine tkA 8 rfl ?_
 refine tkA 9 rfl ?_
 refine tkA 10 rfl ?_
 refine tkA 11 rfl ?_
 refine tkA 12 rfl ?_
 refine tkA 13 rfl ?_
 refine tkA 14 rfl ?_
 refine tkA 15 rfl ?_
 refine tkA 16 rfl ?_
 refine tkA 17 rfl ?_
 refine tkA 18 rfl ?_
 refine tkA 19 rfl ?_
 refine tkA 20 rfl ?_
 refine tkA 21 rfl ?_
 refine tkA 22 rfl ?_
 refine tkA 23 rfl ?_
 refine tkA 24 rfl ?_
 refine tkA 25 rfl ?_
 refine tkA 26 rfl ?_
 refine tkA 27 rfl ?_
 refine wpAnyH_ready (rs := [28]) (by kernel_rfl) (by simp) ?_
 refine AllReadyH.cons rfl (fun K hK => ?_) AllReadyH.nil
 go_simp
 refine (p_if_no 9 _).mono ?_
 rintro e w5 ⟨rfl, hw5⟩
 subst hw5
 go_wp2_with fail
 refine hK.out _ _ ?_ (fun hHeld => ?_)
 · exact hHeld
 clear hK K
 try simp only [Act.put, List.setIfInBounds_toArray, List.set_cons_zero, List.set_cons_succ, List.getElem_toArray, List.getElem_cons_zero, List.getElem_cons_succ]
 refine wpAnyH_done (by kernel_rfl) ?_ _
 rw [onlyN_normal]
 have HC5 : Hid (_) := HC1.out.kept HK4.out
 have HRb5 : Hid (_) := (HK4.out.block _ (lt_of_heap HRb.out) (by simp)).trans HRb.out
 have HKw5 : Hid (Kept [] w w5) := HKw.out.trans HK4.out (by simp)
 clear z4 HC1 HRb HK4 HKw HS t1 t2 t3 HM
 go_wp2_with fail
 refine (HDo.out w5 HC5.out).mono ?_
 rintro e w6 hout
 rcases r with code | ⟨S', v⟩
 ·
  obtain ⟨rfl, u1, u2, u3, eu, hcb, hfr⟩ := hout
  have h6 := hfr.2 R (lt_of_heap HRb5.out) HRo.out.2 HRo.out.1
  have HB6 : Hid (_) := h6.1.trans HRb5.out
  have HE : Hid (Oks w0 w B c pk v1 v2 v3 ev (ansR S (.error code)) (.returned (ansV (ansC code) (.slice none 0 0))) (laidR w6 R (.int .i64 code) (.int .i64 0) (.int .i64 0) (.bool false) (.string ⟨#[]⟩) (.slice none 0 0))) := Oks.laid HKw5.out HRl.out HRw.out (lt_of_heap HRb5.out) HRo.out (Sr.nil _ _) (fun b e => by cases e) hcb hfr _ _ _ _ _ _
  clear hcb hfr h6 HC5 HRb5
  refine leaves_cons (f := 66) (args := #[.pointer (some ⟨R, 0, none⟩)]) (by simp) (by simp [go_sem]) ?_
  refine (catch_thrown R code [] HB6.out).mono ?_
  rintro e u' w'' ⟨rfl, rfl, rfl⟩
  exact ⟨_, results_cell_row rfl _ _ R 31 #[.int .i64 code, .int .i64 0, .int .i64 0, .bool false, .string ⟨#[]⟩, .slice none 0 0] (0, 0) _ rfl (block_res HB6.out _ _ _ _ _ _) Tryz.underlying31 rfl (by kernel_rfl), HE.out⟩
 ·
  obtain ⟨x, l, k, u1, u2, u3, eu, rfl, hsr, hof, hcb, hfr⟩ := hout
  obtain ⟨a, b, n, d, t, ns⟩ := v
  have h6 := hfr.2 R (lt_of_heap HRb5.out) HRo.out.2 HRo.out.1
  have hb6 : w6.heap[R]? = _ := h6.1.trans HRb5.out
  have HE : Hid (Oks w0 w B c pk v1 v2 v3 ev (ansR S (.ok (S', ⟨a, b, n, d, t, ns⟩))) (.returned (.agg #[.int .i64 a, .int .i64 b, .int .i64 n, .bool d, .string t, .slice x l k])) (laidR w6 R (.int .i64 a) (.int .i64 b) (.int .i64 n) (.bool d) (.string t) (.slice x l k))) := Oks.laid HKw5.out HRl.out HRw.out (lt_of_heap HRb5.out) HRo.out hsr hof hcb hfr _ _ _ _ _ _
  have HB6 : Hid (_) := hb6
  obtain ⟨g0, g1, g2, g3, g4, g5⟩ := cz6 hb6
  obtain ⟨z0, z1, z2, z3, z4, z5⟩ := fz6 hb6
  clear hcb hfr h6 HC5 HRb5 hb6 hsr hof
  dsimp only [ansV]
  go_wp2_with fail
  (try simp only [Exit.inBlock, Exit.then])
  refine leaves_cons (f := 66) (args := #[.pointer (some ⟨R, 0, none⟩)]) (by simp) (by simp [go_sem]) ?_
  refine (catch_idle R _).mono ?_
  rintro e u' w'' ⟨rfl, rfl, rfl⟩
  exact ⟨_, results_cell_row rfl _ _ R 31 #[.int .i64 a, .int .i64 b, .int .i64 n, .bool d, .string t, .slice x l k] (0, 0) _ rfl (block_res HB6.out _ _ _ _ _ _) Tryz.underlying31 rfl (by kernel_rfl), HE.out⟩
end Go.Proofs.YtffncojcnbhblaaGreatDoor
