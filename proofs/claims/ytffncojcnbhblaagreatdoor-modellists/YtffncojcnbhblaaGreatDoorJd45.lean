/-
  Joined of my texts La Gz.
-/
import Derived.Test.YtffncojcnbhblaaGreatDoorJd44
set_option linter.unusedVariables false
set_option linter.unusedSimpArgs false
set_option maxRecDepth 100000
set_option maxHeartbeats 8000000
namespace Go.Proofs.YtffncojcnbhblaaGreatDoor
open Go.RowKit
theorem Vw.creates {S : Sta} (v : Vw S) (hw : Wel S) {c : Cal} {i : Nat} (hc : c.core = (i : Int)) (hi : i < S.made.length) {dir : Bool} {x : Sta × Ans} (h : createR S c i dir = .ok x) : Vw x.1 := by
 unfold createR at h
 rcases hs : spotR S.ino c.path with code | ⟨d, t⟩
 · rw [hs] at h; cases h
 rw [hs] at h
 simp only at h
 split at h
 · cases h
 rename_i hp
 split at h
 · cases h
 rename_i hq
 cases h
 obtain ⟨k, hk, hat, he⟩ := hw.spot hs
 have hfr := hw.fresh hi
 have hg : S.made.getD i 0 = S.made[i] := by rw [List.getD_eq_getElem?_getD, List.getElem?_eq_getElem hi]; rfl
 have hmg := hw.mg _ (List.getElem_mem hi)
 have h8 := hw.m8
 obtain ⟨y, hy⟩ : ∃ y : Ino, (⟨2 + c.core + 8 * S.made.getD i 0, dir, [], ⟨#[]⟩⟩ : Ino) = y := ⟨_, rfl⟩
 have hyn : y.num = 2 + (i : Int) + 8 * S.made.getD i 0 := by rw [← hy, hc]
 have hye : y.ents = [] := by rw [← hy]
 have hyd : y.data = ⟨#[]⟩ := by rw [← hy]
 obtain ⟨hk9, hdn⟩ := at_get hat
 have hne : y.num ≠ d := fun e => by
  have := hfr _ (List.getElem_mem hk)
  rw [hdn, ← hyn] at this
  exact this e.symm
 obtain ⟨j, hj1, hj, hj2⟩ := at_ins hat hne hk
 have e2 : 2 + c.core + 8 * S.made.getD i 0 = y.num := by rw [hyn, hc]
 dsimp only
 rw [hy, e2, putS_at (S := ⟨insR ltI S.ino y, S.opn, S.made.set i (S.made.getD i 0 + 1)⟩) hj1 hj]
 have hdd : (S.ino[k]).dir = true := by
  have := spot_dir hs
  rw [dir_of hat hk] at this
  exact this
 rw [he] at hp hq
 have hq' : nFull (S.ino[k]).ents d t 0 ⟨#[]⟩ < 4 ∧ S.made.getD i 0 < 32 := by omega
 have := v.create hi (by omega) (g := S.made.getD i 0) hg.symm (by omega) hq'.2 hyn hye hyd (fun z hz => by rw [hyn]; exact hfr z hz) (List.getElem_mem hk) hdd (spot_name hs).1 (by simpa using hp) (by rw [hdn]; exact hq'.1) hj hj2
 unfold setE
 dsimp only
 rw [hj2]
 exact this
def pL (E : List En) : List Ino := [⟨1, true, [(⟨#[100]⟩, 2), (⟨#[101]⟩, 10), (⟨#[102]⟩, 18), (⟨#[103]⟩, 18)], ⟨#[]⟩⟩, ⟨2, true, [(⟨#[104]⟩, 26)], ⟨#[]⟩⟩, ⟨10, true, E, ⟨#[]⟩⟩, ⟨18, false, [], ⟨#[48, 49, 50, 51, 52, 53, 54, 55, 56, 57]⟩⟩, ⟨26, false, [], ⟨#[]⟩⟩]
def gL (E : List En) (I : List Ino) (m : Int) : Sta := ⟨pL E ++ I, [(0, 0, 18)], [m]⟩
theorem gl_start : mS1 7 = gL [] [] 4 := by kernel_rfl
theorem gl_up (E : List En) (I : List Ino) : walkR (pL E ++ I) 1 [⟨#[101]⟩] = (10, 0) := by kernel_rfl
theorem gl_ents (E : List En) (I : List Ino) : entsOf (pL E ++ I) 10 = E := rfl
theorem gl_in (E : List En) (I : List Ino) (t : ByteArray) : walkR (pL E ++ I) 1 [⟨#[101]⟩, t] = match plR E t with
 | none => (0, 1)
 | some i => ((E[i]?.map Prod.snd).getD 0, 0) := by kernel_rfl
theorem at_e : chk ⟨#[101]⟩ = 0 := by kernel_rfl
theorem e_path {t : ByteArray} (h : chk t = 0) : parseR (⟨#[47, 101, 47]⟩ ++ t) = ([⟨#[101]⟩, t], 0) := by
 have hj : joinL [⟨#[101]⟩, t] = ⟨#[47, 101, 47]⟩ ++ t := by
  show ⟨#[47]⟩ ++ (⟨#[101]⟩ ++ (⟨#[47]⟩ ++ (t ++ ⟨#[]⟩))) = _
  rw [app_nil, ← app_assoc, ← app_assoc]
  rfl
 have hm : allMay [⟨#[101]⟩, t] = true := by
  unfold allMay
  simp [at_e, h]
 have hp : printR [⟨#[101]⟩, t] = (⟨#[47, 101, 47]⟩ ++ t, 0) := by
  unfold printR
  rw [if_neg (by rw [hm]; decide), if_neg (by show ¬ 4 < 2; decide)]
  unfold joinP
  rw [if_neg (by simp), hj]
 have := (parse_print (l := [⟨#[101]⟩, t]) (by rw [hp])).1
 rw [hp] at this
 exact this
theorem e_find {t : ByteArray} (h : chk t = 0) (L : List Ino) : findR L (⟨#[47, 101, 47]⟩ ++ t) = walkR L 1 [⟨#[101]⟩, t] := by
 unfold findR
 rw [e_path h]
 rfl
theorem e_spot {t : ByteArray} (h : chk t = 0) (E : List En) (I : List Ino) : spotR (pL E ++ I) (⟨#[47, 101, 47]⟩ ++ t) = .ok (10, t) := by
 unfold spotR
 rw [e_path h]
 show (if codeR 0 ≠ 0 then _ else if (2 : Nat) = 0 then _ else if (walkR (pL E ++ I) 1 [⟨#[101]⟩]).2 ≠ 0 then _ else if dirOf (pL E ++ I) (walkR (pL E ++ I) 1 [⟨#[101]⟩]).1 then Except.ok ((walkR (pL E ++ I) 1 [⟨#[101]⟩]).1, t) else _) = _
 rw [gl_up]
 rfl
theorem ins_behind {P I : List Ino} {x : Ino} (h : ∀ y ∈ P, ltI y x = true) : insR ltI (P ++ I) x = P ++ insR ltI I x := by
 have hw : whereR ltI (P ++ I) x = P.length + whereR ltI I x := by
  unfold whereR
  induction P with
  | nil => simp
  | cons y P ih =>
   have h1 := h y (by simp)
   have h2 := ih (fun z hz => h z (by simp [hz]))
   rw [List.cons_append, List.findIdx_cons, h2, List.length_cons, h1]
   show (bif false then 0 else _) = _
   simp
   omega
 unfold insR
 rw [hw, List.take_append, List.drop_append]
 have e1 : P.take (P.length + whereR ltI I x) = P := List.take_of_length_le (by omega)
 have e2 : P.drop (P.length + whereR ltI I x) = [] := List.drop_eq_nil_of_le (by omega)
 rw [e1, e2, show P.length + whereR ltI I x - P.length = whereR ltI I x by omega]
 simp
theorem pl_below {E : List En} {z : Int} (hz : 26 < z) : ∀ y ∈ pL E, ltI y ⟨z, false, [], ⟨#[]⟩⟩ = true := by
 intro y hy
 unfold pL at hy
 simp only [List.mem_cons, List.not_mem_nil, or_false] at hy
 unfold ltI
 rcases hy with rfl | rfl | rfl | rfl | rfl <;> (simp; omega)
theorem e_create {t : ByteArray} (h : chk t = 0) {E : List En} {I : List Ino} {m : Int} (hm4 : 4 ≤ m) :
  createR (gL E I m) ⟨0, 0, 0, 0, 0, (⟨#[47, 101, 47]⟩ ++ t), ⟨#[]⟩, ⟨#[]⟩⟩ 0 false = if (plR E t).isSome then .error 2 else if 4 ≤ nFull E 10 t 0 ⟨#[]⟩ ∨ 32 ≤ m then .error 5 else
   .ok (gL (insR ltE E (t, 2 + 0 + 8 * m)) (insR ltI I ⟨2 + 0 + 8 * m, false, [], ⟨#[]⟩⟩) (m + 1), ansC 0) := by
 have hs := e_spot h E I
 unfold createR
 show (match spotR (pL E ++ I) (⟨#[47, 101, 47]⟩ ++ t) with | .error code => Except.error code | .ok (d, t) => _) = _
 rw [hs]
 show (if (plR (entsOf (pL E ++ I) 10) t).isSome then _ else if 4 ≤ nFull (entsOf (pL E ++ I) 10) 10 t 0 ⟨#[]⟩ ∨ 32 ≤ m then _ else Except.ok (putS ⟨insR ltI (pL E ++ I) ⟨2 + 0 + 8 * m, false, [], ⟨#[]⟩⟩, [(0, 0, 18)], [m + 1]⟩ 10 (t, 2 + 0 + 8 * m), ansC 0)) = _
 rw [gl_ents, ins_behind (pl_below (by omega))]
 rfl
theorem gl_play {E : List En} {I : List Ino} {m : Int} (hm : mayB (gL E I m) = true) (c : Cal) (h0 : c.core = 0) : playR (gL E I m) c headI = ansR (gL E I m) (doR (gL E I m) c headI) := by
 unfold playR
 rw [if_pos ⟨hm, by rw [h0]; omega, by rw [h0]; show (0 : Int) < 1; decide⟩]
theorem e_made {t : ByteArray} (h : chk t = 0) {E : List En} {I : List Ino} {m : Int} (hm4 : 4 ≤ m) (hm : mayB (gL E I m) = true) (hc : (playR (gL E I m) ⟨0, 0, 0, 0, 0, (⟨#[47, 101, 47]⟩ ++ t), ⟨#[]⟩, ⟨#[]⟩⟩ headI).2.code = 0) :
  ∃ E' I', (playR (gL E I m) ⟨0, 0, 0, 0, 0, (⟨#[47, 101, 47]⟩ ++ t), ⟨#[]⟩, ⟨#[]⟩⟩ headI).1 = gL E' I' (m + 1) ∧ E'.length = E.length + 1 ∧ mayB (gL E' I' (m + 1)) = true := by
 have e : doR (gL E I m) ⟨0, 0, 0, 0, 0, (⟨#[47, 101, 47]⟩ ++ t), ⟨#[]⟩, ⟨#[]⟩⟩ headI = createR (gL E I m) ⟨0, 0, 0, 0, 0, (⟨#[47, 101, 47]⟩ ++ t), ⟨#[]⟩, ⟨#[]⟩⟩ 0 false := by unfold doR; simp
 rw [gl_play hm _ rfl, e, e_create h hm4] at hc ⊢
 by_cases h1 : (plR E t).isSome = true
 · rw [if_pos h1] at hc; exact absurd hc (by show ¬ (2 : Int) = 0; decide)
 ·
  rw [if_neg h1] at hc ⊢
  by_cases h2 : 4 ≤ nFull E 10 t 0 ⟨#[]⟩ ∨ 32 ≤ m
  · rw [if_pos h2] at hc; exact absurd hc (by show ¬ (5 : Int) = 0; decide)
  ·
   rw [if_neg h2] at hc ⊢
   refine ⟨_, _, rfl, insR_length, ?_⟩
   have hcr := e_create h (E := E) (I := I) hm4
   rw [if_neg h1, if_neg h2] at hcr
   exact may_view.2 (Vw.creates (may_view.1 hm) (wel_of hm) (i := 0) rfl (by show 0 < 1; decide) hcr)
theorem e_list {E : List En} {I : List Ino} {m : Int} (hm : mayB (gL E I m) = true) : playR (gL E I m) ⟨12, 0, 0, 0, 0, ⟨#[47, 101]⟩, ⟨#[]⟩, ⟨#[]⟩⟩ headI = (gL E I m, ⟨0, 0, 0, false, ⟨#[]⟩, E.map Prod.fst⟩) := by
 have e : doR (gL E I m) ⟨12, 0, 0, 0, 0, ⟨#[47, 101]⟩, ⟨#[]⟩, ⟨#[]⟩⟩ headI = listR (gL E I m) ⟨12, 0, 0, 0, 0, ⟨#[47, 101]⟩, ⟨#[]⟩, ⟨#[]⟩⟩ := by unfold doR; simp
 have hf : findR (gL E I m).ino ⟨#[47, 101]⟩ = (10, 0) := by kernel_rfl
 rw [gl_play hm _ rfl, e]
 unfold listR
 show ansR _ (if (findR (gL E I m).ino ⟨#[47, 101]⟩).2 ≠ 0 then _ else if dirOf (gL E I m).ino (findR (gL E I m).ino ⟨#[47, 101]⟩).1 then Except.ok (_, ⟨0, 0, 0, false, ⟨#[]⟩, (entsOf (gL E I m).ino (findR (gL E I m).ino ⟨#[47, 101]⟩).1).map Prod.fst⟩) else _) = _
 rw [hf]
 rfl
theorem e_nodir {E : List En} {I : List Ino} {m : Int} (hm : mayB (gL E I m) = true) : (playR (gL E I m) ⟨12, 0, 0, 0, 0, ⟨#[47, 102]⟩, ⟨#[]⟩, ⟨#[]⟩⟩ headI).2.code = 7 := by
 have e : doR (gL E I m) ⟨12, 0, 0, 0, 0, ⟨#[47, 102]⟩, ⟨#[]⟩, ⟨#[]⟩⟩ headI = listR (gL E I m) ⟨12, 0, 0, 0, 0, ⟨#[47, 102]⟩, ⟨#[]⟩, ⟨#[]⟩⟩ := by unfold doR; simp
 have hf : findR (gL E I m).ino ⟨#[47, 102]⟩ = (18, 0) := by kernel_rfl
 rw [gl_play hm _ rfl, e]
 unfold listR
 show (ansR _ (if (findR (gL E I m).ino ⟨#[47, 102]⟩).2 ≠ 0 then _ else if dirOf (gL E I m).ino (findR (gL E I m).ino ⟨#[47, 102]⟩).1 then Except.ok (_, ⟨0, 0, 0, false, ⟨#[]⟩, (entsOf (gL E I m).ino (findR (gL E I m).ino ⟨#[47, 102]⟩).1).map Prod.fst⟩) else _)).2.code = _
 rw [hf]
 rfl
theorem e_nobody {E : List En} {I : List Ino} {m : Int} (hm : mayB (gL E I m) = true) : (playR (gL E I m) ⟨12, 0, 0, 0, 0, ⟨#[47, 113]⟩, ⟨#[]⟩, ⟨#[]⟩⟩ headI).2.code = 1 := by
 have e : doR (gL E I m) ⟨12, 0, 0, 0, 0, ⟨#[47, 113]⟩, ⟨#[]⟩, ⟨#[]⟩⟩ headI = listR (gL E I m) ⟨12, 0, 0, 0, 0, ⟨#[47, 113]⟩, ⟨#[]⟩, ⟨#[]⟩⟩ := by unfold doR; simp
 have hf : findR (gL E I m).ino ⟨#[47, 113]⟩ = (0, 1) := by kernel_rfl
 rw [gl_play hm _ rfl, e]
 unfold listR
 show (ansR _ (if (findR (gL E I m).ino ⟨#[47, 113]⟩).2 ≠ 0 then Except.error (findR (gL E I m).ino ⟨#[47, 113]⟩).2 else _)).2.code = _
 rw [hf]
 rfl
theorem e_stat {E : List En} {I : List Ino} {m : Int} (hm : mayB (gL E I m) = true) {i : Nat} (hi : i < E.length) {t : ByteArray} (ht : (E[i]).1 = t) : (playR (gL E I m) ⟨13, 0, 0, 0, 0, (⟨#[47, 101, 47]⟩ ++ t), ⟨#[]⟩, ⟨#[]⟩⟩ headI).2.code = 0 := by
 have hc : chk t = 0 := by
  rw [← ht]
  exact (wel_of hm).nm ⟨10, true, E, ⟨#[]⟩⟩ (by show _ ∈ pL E ++ I; unfold pL; simp) _ (List.getElem_mem hi)
 have hp : (plR E t).isSome = true := by
  unfold plR
  rw [List.findIdx?_isSome, List.any_eq_true]
  exact ⟨E[i], List.getElem_mem hi, by rw [ht]; simp⟩
 obtain ⟨k, hk⟩ := Option.isSome_iff_exists.1 hp
 have hf : (findR (gL E I m).ino (⟨#[47, 101, 47]⟩ ++ t)).2 = 0 := by
  rw [e_find hc]
  show (walkR (pL E ++ I) 1 [⟨#[101]⟩, t]).2 = 0
  rw [gl_in, hk]
 have e : doR (gL E I m) ⟨13, 0, 0, 0, 0, (⟨#[47, 101, 47]⟩ ++ t), ⟨#[]⟩, ⟨#[]⟩⟩ headI = statR (gL E I m) ⟨13, 0, 0, 0, 0, (⟨#[47, 101, 47]⟩ ++ t), ⟨#[]⟩, ⟨#[]⟩⟩ := by unfold doR; simp
 rw [gl_play hm _ rfl, e]
 unfold statR
 rw [if_neg (by show ¬ (findR (gL E I m).ino (⟨#[47, 101, 47]⟩ ++ t)).2 ≠ 0; rw [hf]; simp)]
 rfl
theorem e_rise {E : List En} {I : List Ino} {m : Int} (hm : mayB (gL E I m) = true) : (∀ i (hi : i + 1 < E.length), below (E[i]).1 (E[i + 1]).1 = true) ∧ (∀ i (hi : i < E.length), (E[i]).1.size ≤ 12) ∧ E.length ≤ 32 := by
 have hx : (⟨10, true, E, ⟨#[]⟩⟩ : Ino) ∈ (gL E I m).ino := by show _ ∈ pL E ++ I; unfold pL; simp
 have hw := wel_of hm
 refine ⟨fun i hi => ?_, fun i hi => ?_, hw.en _ hx⟩
 · exact adj_iff.1 (hw.ea _ hx) i hi
 · exact (chk_size (hw.nm _ hx _ (List.getElem_mem hi))).1
end Go.Proofs.YtffncojcnbhblaaGreatDoor
