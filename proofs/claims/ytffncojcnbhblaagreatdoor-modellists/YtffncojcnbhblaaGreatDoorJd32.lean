/-
  Joined of my texts Qg Yc Yd.
-/
import Derived.Test.YtffncojcnbhblaaGreatDoorJd30
import Derived.Test.YtffncojcnbhblaaGreatDoorJd4
import Derived.BigQuiet
import Derived.Deep.CutRange
import Derived.Deep.CutBlock
import Derived.Test.YtffncojcnbhblaaGreatDoorJd31
import Derived.Test.YtffncojcnbhblaaGreatDoorJd14
import Derived.Test.YtffncojcnbhblaaGreatDoorJd15
import Derived.Deep.RegionHeld3
set_option linter.unusedVariables false
set_option linter.unusedSimpArgs false
set_option maxRecDepth 100000
set_option maxHeartbeats 8000000
namespace Go.Proofs.YtffncojcnbhblaaGreatDoor
open Go.RowKit
def segsR (s : ByteArray) (f j : Nat) : List ByteArray := if j ≤ s.size then segs s f j else []
theorem segsR_on {s : ByteArray} {f j : Nat} (h : j < s.size) (e : at8 s j ≠ 47) : segsR s f j = segsR s f (j + 1) := by
 unfold segsR
 rw [if_pos (by omega), if_pos (by omega), segs_on h e]
theorem segsR_cut {s : ByteArray} {f j : Nat} (h : j ≤ s.size) (e : j < s.size → at8 s j = 47) : segsR s f j = s.extract f j :: segsR s (j + 1) (j + 1) := by
 unfold segsR
 rw [if_pos h]
 rcases Nat.lt_or_ge j s.size with h1 | h1
 · rw [if_pos (by omega), segs_stroke h1 (e h1)]
 ·
  have : j = s.size := by omega
  subst this
  rw [if_neg (by omega), segs_end (by omega)]
theorem f_code (e : Int) (he : codes e) (w : World) : Calls Tryz.prog 125 #[.int .i64 e] w fun r w' => r = .returned (.int .i64 (codeR e)) ∧ w' = w := by
 rcases he with rfl | rfl | rfl | rfl
 ·
  go_enter Tryz.func125, Tryz.ntmps125
  go_wp2_with fail
  go_ret
  exact ⟨rfl, rfl⟩
 ·
  go_enter Tryz.func125, Tryz.ntmps125
  go_wp2_with fail
  go_ret
  exact ⟨rfl, rfl⟩
 ·
  go_enter Tryz.func125, Tryz.ntmps125
  go_wp2_with fail
  go_ret
  exact ⟨rfl, rfl⟩
 ·
  go_enter Tryz.func125, Tryz.ntmps125
  go_wp2_with fail
  go_ret
  exact ⟨rfl, rfl⟩
theorem first_piece {p : ByteArray} {l : List ByteArray} (h : chk p = 0) : firstErr (p :: l) = firstErr l := by rw [firstErr, if_pos h]
theorem f_parse (s : ByteArray) (w : World) : Calls Tryz.prog 124 #[.string s] w (Parsed s w) := by
 by_cases hl : 64 < s.size
 ·
  have i0 : (64 : Int) < (s.size : Int) := by omega
  have HP : Hid (parseR s = ([], 1101)) := by show parseR s = _; unfold parseR; rw [if_pos hl]
  go_enter Tryz.func124, Tryz.ntmps124
  go_wp2_with fail
  go_ret2
  exact Parsed.mk HP.out (Sr.nil _ _) (Kept.refl _ _)
 have i0 : ¬ (64 : Int) < (s.size : Int) := by omega
 by_cases h0 : s.size = 0
 ·
  have HP : Hid (parseR s = ([], 1100)) := by show parseR s = _; unfold parseR; rw [if_neg hl, if_pos (Or.inl h0)]
  have t1 : s.toList.isEmpty = true := by
   rw [List.isEmpty_iff]
   apply List.eq_nil_of_length_eq_zero
   rw [ByteArray.toList_eq]; simpa using h0
  go_enter Tryz.func124, Tryz.ntmps124
  go_wp2_with fail
  go_ret2
  exact Parsed.mk HP.out (Sr.nil _ _) (Kept.refl _ _)
 have hpos : 0 < s.size := by omega
 have i1 : (0 : Int) < (s.size : Int) := by omega
 have t1 : s.toList.isEmpty = false := by
  rw [← Bool.not_eq_true, List.isEmpty_iff]
  intro e
  have : s.toList.length = s.size := by rw [ByteArray.toList_eq]; simp
  rw [e] at this
  simp at this
  omega
 have hv := at8_val hpos
 by_cases h47 : at8 s 0 ≠ 47
 ·
  have HP : Hid (parseR s = ([], 1100)) := by show parseR s = _; unfold parseR; rw [if_neg hl, if_pos (Or.inr h47)]
  have hv1 : ¬ (s[0]'hpos).toNat = 47 := by rw [hv]; exact h47
  have hv2 : ¬ ((s[0]'hpos).toNat : Int) = 47 := by omega
  clear hv
  go_enter Tryz.func124, Tryz.ntmps124
  go_wp2_with fail
  go_ret2
  exact Parsed.mk HP.out (Sr.nil _ _) (Kept.refl _ _)
 have h47 : at8 s 0 = 47 := by omega
 rw [h47] at hv
 have hv1 : (s[0]'hpos).toNat = 47 := hv
 have hv2 : ((s[0]'hpos).toNat : Int) = 47 := by omega
 by_cases h1 : s.size = 1
 ·
  have HP : Hid (parseR s = ([], 0)) := by show parseR s = _; unfold parseR; rw [if_neg hl, if_neg (by omega), if_pos h1]
  have es : s = ⟨#[47]⟩ := bytes_ext (by rw [one_47]; exact h1) fun i hi => by
   have : i = 0 := by omega
   subst this
   rw [at8_47]; omega
  have t2 : (s.toList == [47]) = true := by rw [ByteArray.toList_eq, es]; rfl
  clear es
  go_enter Tryz.func124, Tryz.ntmps124
  go_wp2_with fail
  go_ret2
  exact Parsed.mk HP.out (Sr.nil _ _) (Kept.refl _ _)
 have t2 : (s.toList == [47]) = false := by
  rw [← Bool.not_eq_true, beq_iff_eq]
  intro e
  have : s.toList.length = s.size := by rw [ByteArray.toList_eq]; simp
  rw [e] at this
  simp at this
  omega
 have HR : Hid (∀ xs, xs = segs s 1 1 → parseR s = if firstErr xs ≠ 0 then ([], firstErr xs) else if 4 < xs.length then ([], 1102) else (xs, 0)) := by
  show ∀ xs, _
  intro xs hx
  subst hx
  unfold parseR
  rw [if_neg hl, if_neg (by omega), if_neg h1]
 have hs64 : s.size ≤ 64 := by omega
 have h2 : 1 ≤ s.size := by omega
 have hlen := segs_len s 64 1 1 (by omega)
 have HL : Hid (segsR s 1 1 = segs s 1 1) := if_pos h2
 clear hl h0 h47 h1 hv
 go_enter Tryz.func124, Tryz.ntmps124
 go_wp2_with fail
 go_loopw [4, 5, 6] (fun v f i wr => ∃ (j fr : Nat) (a : Option Addr) (n c : Nat), v = .slice a n c ∧ f = .int .i64 (fr : Int) ∧ i = .int .i64 (j : Int) ∧ fr ≤ j ∧ j ≤ s.size + 1 ∧ Hid (∃ xs, Sr wr w.heap.size (.slice a n c) xs ∧ n = xs.length ∧ xs ++ segsR s fr j = segs s 1 1 ∧ firstErr (segsR s fr j) = firstErr (segs s 1 1) ∧ xs.length ≤ j) ∧ Hid (Kept [] w wr)) (fun _ _ i _ => (s.size + 1 - intOf i).toNat)
 case atStart => exact ⟨1, 1, _, _, _, rfl, rfl, rfl, by omega, by omega, ⟨[], Sr.nil _ _, rfl, HL.out, by rw [HL.out], by simp⟩, Kept.refl _ _⟩
 case round =>
  obtain ⟨j, fr, a, n, c, rfl, rfl, rfl, hfj, hj, HX, HK⟩ := hrel
  by_cases hle : j ≤ s.size
  ·
   have k1 : (j : Int) ≤ (s.size : Int) := by omega
   by_cases hon : j < s.size ∧ at8 s j ≠ 47
   ·
    have k2 : (j : Int) < (s.size : Int) := by omega
    have k3 := hon.1
    have u1 := at8_val hon.1
    have u2 : ¬ (s[j]'k3).toNat = 47 := by rw [u1]; exact hon.2
    have u3 : ¬ ((s[j]'k3).toNat : Int) = 47 := by omega
    have HX2 : Hid (∃ xs, Sr wr w.heap.size (.slice a n c) xs ∧ n = xs.length ∧ xs ++ segsR s fr (j + 1) = segs s 1 1 ∧ firstErr (segsR s fr (j + 1)) = firstErr (segs s 1 1) ∧ xs.length ≤ j + 1) := by
     obtain ⟨xs, q1, q2, q3, q4, q5⟩ := HX.out
     have e := segsR_on (f := fr) hon.1 hon.2
     exact ⟨xs, q1, q2, by rw [← e]; exact q3, by rw [← e]; exact q4, by omega⟩
    clear u1 hon HX
    go_wp2_with fail
    go_roundw
    case rel => exact ⟨j + 1, fr, _, _, _, rfl, rfl, by go_num, by omega, by omega, HX2.out, HK.out⟩
    case measure => simp [intOf]; omega
   ·
    obtain ⟨xs, q1, q2, q3, q4, q5⟩ := HX.out
    have e := segsR_cut (f := fr) hle (fun h => by omega)
    rw [e] at q3 q4
    have hck := f_check (s.extract fr j) wr (by rw [ByteArray.size_extract]; omega)
    have hany := chk_any (s.extract fr j)
    have k4 : (fr : Int) ≤ (j : Int) := by omega
    by_cases hc : chk (s.extract fr j) = 0
    ·
     rw [first_piece hc] at q4
     rw [hc] at hck
     have HC : Hid (_) := hck
     obtain ⟨v', w', hr, h5, h6⟩ := append_text q1 HK.out.size (s.extract fr j) (by omega) 29
     have HE : Hid (Sr w' w.heap.size v' (xs ++ [s.extract fr j]) ∧ xs ++ [s.extract fr j] ++ segsR s (j + 1) (j + 1) = segs s 1 1 ∧ firstErr (segsR s (j + 1) (j + 1)) = firstErr (segs s 1 1) ∧ (xs ++ [s.extract fr j]).length ≤ j + 1 ∧ Kept [] w w') := ⟨h5, by rw [List.append_assoc]; exact q3, q4, by rw [List.length_append, List.length_singleton]; omega, HK.out.trans h6 fun x hx => Or.inr (q1.block x (by simpa using hx)).1⟩
     have HA : Hid (_) := hr
     obtain ⟨va, vc, hva, -⟩ := h5.read
     obtain ⟨m, hm⟩ : ∃ m, (xs ++ [s.extract fr j]).length = m := ⟨_, rfl⟩
     rw [hm] at hva
     subst hva
     have HM : Hid (m = (xs ++ [s.extract fr j]).length) := hm.symm
     clear q1 q2 q3 q4 q5 e hck hany hc h5 h6 hr HX hm
     by_cases hend : j < s.size
     ·
      have k2 : (j : Int) < (s.size : Int) := by omega
      have u2 : (s[j]'hend).toNat = 47 := by rw [at8_val hend]; omega
      have u3 : ((s[j]'hend).toNat : Int) = 47 := by omega
      clear hon
      go_wp2_with fail
      refine Calls.mono HC.out ?_
      rintro e w2 ⟨rfl, hw2⟩
      have hw3 := hw2.symm
      subst hw3
      go_wp2_with (at_builtin; refine wpList_append_run _ rfl _ _ 29 29 rfl _ _ rfl rfl _ _ HA.out ?_)
      go_roundw
      case rel => exact ⟨j + 1, j + 1, _, _, _, rfl, by go_num, by go_num, by omega, by omega, ⟨_, HE.out.1, HM.out, HE.out.2.1, HE.out.2.2.1, HE.out.2.2.2.1⟩, HE.out.2.2.2.2⟩
      case measure => simp [intOf]; omega
     ·
      have k2 : ¬ (j : Int) < (s.size : Int) := by omega
      clear hon
      go_wp2_with fail
      refine Calls.mono HC.out ?_
      rintro e w2 ⟨rfl, hw2⟩
      have hw3 := hw2.symm
      subst hw3
      go_wp2_with (at_builtin; refine wpList_append_run _ rfl _ _ 29 29 rfl _ _ rfl rfl _ _ HA.out ?_)
      go_roundw
      case rel => exact ⟨j + 1, j + 1, _, _, _, rfl, by go_num, by go_num, by omega, by omega, ⟨_, HE.out.1, HM.out, HE.out.2.1, HE.out.2.2.1, HE.out.2.2.2.1⟩, HE.out.2.2.2.2⟩
      case measure => simp [intOf]; omega
    ·
     rw [firstErr, if_neg hc] at q4
     have hany2 : chk (s.extract fr j) = 801 ∨ chk (s.extract fr j) = 800 := by omega
     clear hany
     rcases hany2 with hc8 | hc8
     ·
      have HE : Hid (parseR s = ([], 1101)) := by
       show parseR s = _
       rw [if_pos hc8] at q4
       rw [HR.out _ rfl, ← q4, if_pos (by omega)]
      rw [hc8] at hck
      have HC : Hid (_) := hck
      clear q1 q2 q3 q4 q5 e hck hc hc8 HX
      by_cases hend : j < s.size
      ·
       have k2 : (j : Int) < (s.size : Int) := by omega
       have u2 : (s[j]'hend).toNat = 47 := by rw [at8_val hend]; omega
       have u3 : ((s[j]'hend).toNat : Int) = 47 := by omega
       clear hon
       go_wp2_with fail
       refine Calls.mono HC.out ?_
       rintro e w2 ⟨rfl, hw2⟩
       have hw3 := hw2.symm
       subst hw3
       go_wp2_with fail
       go_ret2
       exact Parsed.mk HE.out (Sr.nil _ _) HK.out
      ·
       have k2 : ¬ (j : Int) < (s.size : Int) := by omega
       clear hon
       go_wp2_with fail
       refine Calls.mono HC.out ?_
       rintro e w2 ⟨rfl, hw2⟩
       have hw3 := hw2.symm
       subst hw3
       go_wp2_with fail
       go_ret2
       exact Parsed.mk HE.out (Sr.nil _ _) HK.out
     ·
      have HE : Hid (parseR s = ([], 1100)) := by
       show parseR s = _
       rw [if_neg (by omega)] at q4
       rw [HR.out _ rfl, ← q4, if_pos (by omega)]
      rw [hc8] at hck
      have HC : Hid (_) := hck
      clear q1 q2 q3 q4 q5 e hck hc hc8 HX
      by_cases hend : j < s.size
      ·
       have k2 : (j : Int) < (s.size : Int) := by omega
       have u2 : (s[j]'hend).toNat = 47 := by rw [at8_val hend]; omega
       have u3 : ((s[j]'hend).toNat : Int) = 47 := by omega
       clear hon
       go_wp2_with fail
       refine Calls.mono HC.out ?_
       rintro e w2 ⟨rfl, hw2⟩
       have hw3 := hw2.symm
       subst hw3
       go_wp2_with fail
       go_ret2
       exact Parsed.mk HE.out (Sr.nil _ _) HK.out
      ·
       have k2 : ¬ (j : Int) < (s.size : Int) := by omega
       clear hon
       go_wp2_with fail
       refine Calls.mono HC.out ?_
       rintro e w2 ⟨rfl, hw2⟩
       have hw3 := hw2.symm
       subst hw3
       go_wp2_with fail
       go_ret2
       exact Parsed.mk HE.out (Sr.nil _ _) HK.out
  ·
   have k1 : ¬ (j : Int) ≤ (s.size : Int) := by omega
   obtain ⟨xs, q1, q2, q3, q4, q5⟩ := HX.out
   have e : segsR s fr j = [] := if_neg hle
   rw [e] at q3 q4
   rw [List.append_nil] at q3
   have HS : Hid (Sr wr w.heap.size (.slice a n c) xs) := q1
   by_cases h4 : 4 < n
   ·
    have k2 : (4 : Int) < (n : Int) := by omega
    have HE : Hid (parseR s = ([], 1102)) := by
     show parseR s = _
     rw [HR.out xs q3, q3, ← q4, if_neg (by simp [firstErr]), if_pos (by rw [← q3]; omega)]
    clear q1 q2 q3 q4 q5 e HX
    go_wp2_with fail
    go_ret2
    exact Parsed.mk HE.out (Sr.nil _ _) HK.out
   ·
    have k2 : ¬ (4 : Int) < (n : Int) := by omega
    have HE : Hid (parseR s = (xs, 0)) := by
     show parseR s = _
     rw [HR.out xs q3, q3, ← q4, if_neg (by simp [firstErr]), if_neg (by rw [← q3]; omega)]
    clear q1 q2 q3 q4 q5 e HX
    go_wp2_with fail
    go_ret2
    exact Parsed.mk HE.out HS.out HK.out
theorem ent_pl (E : List En) (s : ByteArray) : entR E s = (match plR E s with | none => 0 | some i => ((E[i]?).map Prod.snd).getD 0) := by
 unfold entR plR
 induction E with
 | nil => rfl
 | cons e E ih =>
  rw [List.find?_cons, List.findIdx?_cons]
  cases he : (e.1.toList == s.toList) with
  | true => simp
  | false =>
   simp only [Bool.false_eq_true, if_false]
   rw [ih]
   cases List.findIdx? (fun e => e.1.toList == s.toList) E with
   | none => rfl
   | some i => simp
structure Tw (w0 w : World) (X : Nat) (p : Pl) (S : Sta) (u : Value) (xs : List Int) : Prop where
 k : Kept [] w0 w
 hx : w.heap[X]? = some (sbox p S)
 ow : Own w w0.heap.size u xs
 ux : u.ownBlock ≠ some X
theorem Tw.kept {w0 w w' : World} {X : Nat} {p : Pl} {S : Sta} {u : Value} {xs : List Int} (h : Tw w0 w X p S u xs) (k : Kept [] w w') : Tw w0 w' X p S u xs :=
 ⟨h.k.trans k (by simp), (k.block X (lt_of_heap h.hx) (by simp)).trans h.hx, h.ow.kept k, h.ux⟩
theorem Tw.append {w0 w : World} {X : Nat} {p : Pl} {S : Sta} {u : Value} {xs : List Int} (h : Tw w0 w X p S u xs) (z : Int) (hn : xs.length + 1 ≤ 17592186044416) (ty : TypeId) :
  ∃ u' w', (Builtin.append_ #[25, 25] ty #[u, .slice (some ⟨w.heap.size, 0, none⟩) 1 1]).run Tryz.prog (w.alloc (.cells #[.int .i64 z] 3)) = .ok u' w' ∧ Tw w0 w' X p S u' (xs ++ [z]) := by
 have hka : Kept [] w (w.alloc (.cells #[.int .i64 z] 3)) := (Kept.refl [] w).alloc _
 have h1 := h.kept hka
 obtain ⟨u', w', hr, h2, h3⟩ := append_row h1.ow (Nat.le_trans h.k.size hka.size) w.heap.size 0 1 1 [z] rfl (fun i hi => by
  have : i = 0 := by simp at hi; exact hi
  subst this
  exact (cell_new w #[.int .i64 z] 3 0).trans rfl) hn ty
 have hob : ∀ g, u.ownBlock = some g → w0.heap.size ≤ g := fun g hg => (h.ow.block g hg).1
 have hkeep : ∀ g, g < (w.alloc (.cells #[.int .i64 z] 3)).heap.size → u.ownBlock ≠ some g → w'.heap[g]? = (w.alloc (.cells #[.int .i64 z] 3)).heap[g]? := fun g hg hne => (((Kept.refl u.ownBlock.toList (w.alloc (.cells #[.int .i64 z] 3))).grown h3.grown fun x hx => Or.inl (by rw [hx]; simp)).block g hg (by simpa using hne))
 refine ⟨u', w', hr, h1.k.grown h3.grown fun g hg => Or.inr (hob g hg), (hkeep X (lt_of_heap h1.hx) h.ux).trans h1.hx, h2, fun e => ?_⟩
 rcases h3.at_ X e with h4 | h4
 · exact h.ux h4
 · have := lt_of_heap h1.hx; omega
theorem Tw.cells {w0 w : World} {X : Nat} {p : Pl} {S : Sta} {u : Value} {xs : List Int} (h : Tw w0 w X p S u xs) : w.cell? ⟨X, 0, none⟩ = some (.slice p.a1 S.ino.length p.c1) ∧ w.cell? ⟨X, 1, none⟩ = some (.slice p.a2 S.opn.length p.c2) ∧ w.cell? ⟨X, 2, none⟩ = some (.slice p.a3 S.made.length p.c3) := ⟨cellB h.hx, cellB h.hx, cellB h.hx⟩
theorem tc_kept {w w' : World} {X b i : Nat} {p : Pl} {S : Sta} {t : ByteArray} (h : w.cell? ⟨X, 0, none⟩ = some (.slice p.a1 S.ino.length p.c1) ∧ w.cell? ⟨X, 1, none⟩ = some (.slice p.a2 S.opn.length p.c2) ∧ w.cell? ⟨X, 2, none⟩ = some (.slice p.a3 S.made.length p.c3) ∧ w.cell? ⟨b, i, none⟩ = some (.string t)) (k : Kept [] w w') :
  w'.cell? ⟨X, 0, none⟩ = some (.slice p.a1 S.ino.length p.c1) ∧ w'.cell? ⟨X, 1, none⟩ = some (.slice p.a2 S.opn.length p.c2) ∧ w'.cell? ⟨X, 2, none⟩ = some (.slice p.a3 S.made.length p.c3) ∧ w'.cell? ⟨b, i, none⟩ = some (.string t) :=
 ⟨k.cell h.1 (by simp), k.cell h.2.1 (by simp), k.cell h.2.2.1 (by simp), k.cell h.2.2.2 (by simp)⟩
theorem r_walk {w : World} {p : Pl} {S : Sta} (h : Sv w p S) (hc : Clo S.ino) (hz : ∀ x ∈ S.ino, ∀ e ∈ x.ents, e.2 ≠ 0) {names : List ByteArray} {a : Option Addr} {n0 c : Nat} (hn0 : n0 = names.length) (hs : Ss w a names) (hl : names.length ≤ 1000) :
  Calls Tryz.prog 126 #[sval p S, .slice a n0 c] w fun e w' => ∃ ua ul uc, e = .returned (.tuple #[.int .i64 (walkR S.ino 1 names).1, .int .i64 (walkR S.ino 1 names).2, .slice ua ul uc]) ∧ Kept [] w w' := by
 subst hn0
 obtain ⟨W0, X, HW, HB⟩ := boxS h
 have HX0 : Hid (W0.heap[X]? = some (sbox p S)) := by show _ = _; rw [← HW.out.1, ← HW.out.2]; exact Go.heap_alloc_new _ _
 have HSv : Hid (Sv w p S) := h
 have HSs : Hid (Ss w a names) := hs
 have HC : Hid (Clo S.ino) := hc
 have HZ : Hid (_) := hz
 have HR : Hid (∃ r, walkR S.ino 1 names = r) := ⟨_, rfl⟩
 have HXl : Hid (w.heap.size ≤ X) := by show _ ≤ _; have := HW.out.2; omega
 obtain ⟨R, hR⟩ := HR.out
 rw [hR]
 have HRR : Hid (_) := hR
 clear h hs hc hz HR hR
 go_enter Tryz.func126, Tryz.ntmps126
 go_upto_region 1 with fail
 rw [HW.out.1, HW.out.2]
 clear HW
 go_wp2_with fail
 go_loopw [7, 8, 9] (fun at_ th i wr => ∃ (n : Nat) (num : Int) (ua : Option Addr) (uc : Nat) (xs : List Int), at_ = .int .i64 num ∧ th = .slice ua xs.length uc ∧ i = .int .i64 (n : Int) ∧ n ≤ names.length ∧ xs.length ≤ n ∧ Hid (Tw w wr X p S (.slice ua xs.length uc) xs ∧ walkR S.ino num (names.drop n) = R ∧ (atR S.ino num).isSome = true)) (fun _ _ i _ => (names.length - intOf i).toNat)
 case atStart => exact ⟨0, 1, none, 0, [], rfl, rfl, rfl, by omega, by simp, ⟨HB.out.k, HX0.out, Own.nil _ _, by simp [Value.ownBlock]⟩, HRR.out, HC.out.root⟩
 case round =>
  clear HB HX0
  obtain ⟨n, num, ua, uc, xs, rfl, rfl, rfl, hn, hxl, HJ⟩ := hrel
  by_cases hlt : n < names.length
  ·
   have i0 : (0 : Int) ≤ (n : Int) := by omega
   have i1 : (n : Int) < (names.length : Int) := by omega
   obtain ⟨x0, x1, x2⟩ := HJ.out.1.cells
   obtain ⟨k, hk⟩ := Option.isSome_iff_exists.1 HJ.out.2.2
   obtain ⟨hkl, -⟩ := at_get hk
   have HK : Hid (atR S.ino num = some k ∧ k < S.ino.length) := ⟨hk, hkl⟩
   have HDr : Hid (walkR S.ino num (tx names n :: names.drop (n + 1)) = R) := by have := HJ.out.2.1; rw [drop_tx hlt] at this; exact this
   have k0 : (0 : Int) ≤ (k : Int) := by omega
   have k1 : (k : Int) < (S.ino.length : Int) := by omega
   clear hk
   go_wp2_with fail
   refine (r_at (HSv.out.kept HJ.out.1.k) num).mono ?_
   rintro e w1 ⟨rfl, kk1⟩
   rw [HK.out.1]
   unfold ixI
   dsimp only
   have H1 : Hid (_) := HJ.out.1.kept kk1
   clear x0 x1 x2 kk1 HJ
   obtain ⟨x0, x1, x2⟩ := H1.out.cells
   obtain ⟨b, o, ae, ce, ha, -, h1, -⟩ := (HSv.out.kept H1.out.k).ino k hkl
   rw [ha] at x0
   have HA : Hid (_) := ha
   clear ha
   rcases hd : (S.ino[k]).dir with _ | _
   ·
    rw [hd] at h1
    have HE : Hid (R = (0, 7)) := by rw [← HDr.out]; exact walk_file HK.out.1 hkl hd
    clear hd
    go_wp2_with fail
    go_ret3
    first | exact ⟨⟨ua, xs.length, uc, (by rw [HE.out]; rfl)⟩, H1.out.k⟩ | exact ⟨ua, xs.length, uc, (by rw [HE.out]; rfl), H1.out.k⟩
   ·
    rw [hd] at h1
    have HD : Hid (_) := hd
    clear hd
    obtain ⟨u', w2, hr, h2⟩ := H1.out.append num (by omega) 25
    obtain ⟨ua', uc', hu', -⟩ := row_form h2.ow
    have hu2 : u' = .slice ua' (xs ++ [num]).length uc' := hu'
    subst hu2
    have HAp : Hid (_) := hr
    have H2 : Hid (_) := h2
    clear hr h2 hu'
    go_wp2_with (at_builtin; refine wpList_append_run _ rfl _ _ 25 25 rfl _ _ rfl rfl _ _ HAp.out ?_)
    clear x0 x1 x2 h1 HAp H1
    obtain ⟨x0, x1, x2⟩ := H2.out.cells
    obtain ⟨g, og, rfl, t0⟩ := (HSs.out.kept H2.out.k).2 n hlt
    obtain ⟨t, ht⟩ : ∃ t, tx names n = t := ⟨_, rfl⟩
    have HTt : Hid (_) := ht
    rw [ht] at t0 HDr
    clear ht
    have HC0 : Hid (w2.drew.cell? ⟨X, 0, none⟩ = some (.slice p.a1 S.ino.length p.c1) ∧ w2.drew.cell? ⟨X, 1, none⟩ = some (.slice p.a2 S.opn.length p.c2) ∧ w2.drew.cell? ⟨X, 2, none⟩ = some (.slice p.a3 S.made.length p.c3) ∧ w2.drew.cell? ⟨g, og + n, none⟩ = some (.string t)) := tc_kept ⟨x0, x1, x2, t0⟩ (Kept.refl _ _).drew
    have H2d : Hid (_) := H2.out.kept (Kept.refl _ _).drew
    clear x0 x1 x2 t0
    go_region_held3 (fun w' => w'.cell? ⟨X, 0, none⟩ = some (.slice p.a1 S.ino.length p.c1) ∧ w'.cell? ⟨X, 1, none⟩ = some (.slice p.a2 S.opn.length p.c2) ∧ w'.cell? ⟨X, 2, none⟩ = some (.slice p.a3 S.made.length p.c3) ∧ w'.cell? ⟨g, og + n, none⟩ = some (.string t)) (first | exact HC0.out | exact z4 | go_keep)
     (first
      | (go_at_call 90; refine (r_entry (HSv.out.kept H2d.out.k) num t).mono ?_; rintro e w3 ⟨rfl, k3⟩; have z4 := tc_kept HC0.out k3))
    have H3 : Hid (_) := H2d.out.kept k3
    have HEn : Hid (entryR S.ino num t = (match plR (S.ino[k]).ents t with | none => 0 | some i => (((S.ino[k]).ents[i]?).map Prod.snd).getD 0)) := by
     show _ = _
     unfold entryR
     rw [HK.out.1]
     simp only [List.getElem?_eq_getElem hkl, Option.map_some, Option.getD_some]
     exact ent_pl _ _
    clear z4 HC0 H2d H2 k3
    rcases hp : plR (S.ino[k]).ents t with _ | i
    ·
     rw [hp] at HEn
     have HE : Hid (R = (0, 1)) := by rw [← HDr.out]; exact walk_miss HK.out.1 hkl HD.out hp
     rw [HEn.out]
     clear hp
     go_wp2_with fail
     go_ret3
     first
      | exact ⟨⟨ua', xs.length + 1, uc', (by rw [HE.out]; rfl)⟩, H3.out.k⟩
      | exact ⟨ua', xs.length + 1, uc', (by rw [HE.out]; rfl), H3.out.k⟩
    ·
     obtain ⟨hi, -⟩ := idx_get hp
     rw [hp] at HEn
     simp only [List.getElem?_eq_getElem hi, Option.map_some, Option.getD_some] at HEn
     have hnz : ((S.ino[k]).ents[i]).2 ≠ 0 := HZ.out _ (List.getElem_mem hkl) _ (List.getElem_mem hi)
     have HN : Hid (walkR S.ino ((S.ino[k]).ents[i]).2 (names.drop (n + 1)) = R ∧ (atR S.ino ((S.ino[k]).ents[i]).2).isSome = true) := ⟨by rw [← HDr.out, walk_on HK.out.1 hkl HD.out hp hi], HC.out.ent k hkl _ (List.getElem_mem hi)⟩
     rw [HEn.out]
     obtain ⟨z, hzz⟩ : ∃ z, ((S.ino[k]).ents[i]).2 = z := ⟨_, rfl⟩
     rw [hzz] at hnz HN ⊢
     have hz0 : (z == 0) = false := by simpa using hnz
     clear hp hzz
     go_wp2_with fail
     go_roundw
     case rel => exact ⟨n + 1, z, ua', uc', xs ++ [num], rfl, by simp, by go_num, by omega, by simp; omega, H3.out, HN.out.1, HN.out.2⟩
     case measure => simp [intOf]; omega
  ·
   have i1 : ¬ (n : Int) < (names.length : Int) := by omega
   have HE : Hid (R = (num, 0)) := by
    rw [← HJ.out.2.1, List.drop_eq_nil_of_le (by omega)]
    rfl
   go_wp2_with fail
   go_ret3
   first | exact ⟨⟨ua, xs.length, uc, (by rw [HE.out]; rfl)⟩, HJ.out.1.k⟩ | exact ⟨ua, xs.length, uc, (by rw [HE.out]; rfl), HJ.out.1.k⟩
theorem Bx.block {w0 w : World} {X : Nat} {p : Pl} {S : Sta} (h : Bx w0 w X p S) : w.cell? ⟨X, 0, none⟩ = some (.slice p.a1 S.ino.length p.c1) ∧ w.cell? ⟨X, 1, none⟩ = some (.slice p.a2 S.opn.length p.c2) ∧ w.cell? ⟨X, 2, none⟩ = some (.slice p.a3 S.made.length p.c3) := ⟨h.x0, h.x1, h.x2⟩
theorem r_find {w : World} {p : Pl} {S : Sta} (h : Sv w p S) (hc : Clo S.ino) (hz : ∀ x ∈ S.ino, ∀ e ∈ x.ents, e.2 ≠ 0) (s : ByteArray) :
  Calls Tryz.prog 93 #[sval p S, .string s] w fun e w' => e = .returned (.tuple #[.int .i64 (findR S.ino s).1, .int .i64 (findR S.ino s).2]) ∧ Kept [] w w' := by
 obtain ⟨W0, X, HW, HB⟩ := boxS h
 have HSv : Hid (Sv w p S) := h
 have HC : Hid (Clo S.ino) := hc
 have HZ : Hid (_) := hz
 obtain ⟨R, hR⟩ : ∃ R, findR S.ino s = R := ⟨_, rfl⟩
 rw [hR]
 have HR : Hid (_) := hR
 clear h hc hz hR
 go_enter Tryz.func93, Tryz.ntmps93
 go_upto_region 1 with fail
 rw [HW.out.1, HW.out.2]
 clear HW
 go_wp2_with fail
 refine (f_parse s W0).mono ?_
 rintro e w1 ⟨v, rfl, hS, hk⟩
 have HS : Hid (Sr w1 W0.heap.size v (parseR s).1 ∧ Kept [] w w1) := ⟨hS, HB.out.k.trans hk (by simp)⟩
 have HB1 : Hid (_) := HB.out.kept hk
 have HCo : Hid (_) := parse_code s
 obtain ⟨x, hx⟩ : ∃ x, (parseR s).2 = x := ⟨_, rfl⟩
 have HX : Hid (_) := hx
 obtain ⟨a, c, hv, hss, -⟩ := hS.read
 rw [hx] at HCo ⊢
 subst hv
 have HSs : Hid (Ss w1 a (parseR s).1) := hss
 have hl4 := parse_few s
 clear hS hk hx hss HB
 by_cases hx0 : x = 0
 ·
  subst hx0
  obtain ⟨x0, x1, x2⟩ := HB1.out.block
  have HE : Hid (R = walkR S.ino 1 (parseR s).1) := by
   show _ = _
   rw [← HR.out]
   unfold findR
   rw [HX.out, if_pos (show codeR 0 = 0 from rfl)]
  go_wp2_with fail
  refine (r_walk (HSv.out.kept HS.out.2) HC.out HZ.out rfl HSs.out (by have := hl4.1; omega)).mono ?_
  rintro e w2 ⟨ua, ul, uc, rfl, k2⟩
  go_wp2_with fail
  go_ret2
  exact ⟨by rw [HE.out]; rfl, HS.out.2.trans k2 (by simp)⟩
 ·
  have hxn : (x != 0) = true := by simpa using hx0
  have HE : Hid (R = (0, codeR x)) := by
   show _ = _
   rw [← HR.out]
   unfold findR
   rw [HX.out, if_neg]
   rcases HCo.out with e | e | e | e
   · exact absurd e hx0
   · rw [e]; decide
   · rw [e]; decide
   · rw [e]; decide
  go_wp2_with fail
  refine (f_code x HCo.out w1).mono ?_
  rintro e w2 ⟨rfl, hw⟩
  subst hw
  go_wp2_with fail
  go_ret2
  exact ⟨by rw [HE.out]; rfl, HS.out.2⟩
theorem pc_kept {w w' : World} {X b i : Nat} {a1 : Option Addr} {p : Pl} {S : Sta} {v : Value} (h : w.cell? ⟨X, 0, none⟩ = some (.slice a1 S.ino.length p.c1) ∧ w.cell? ⟨X, 1, none⟩ = some (.slice p.a2 S.opn.length p.c2) ∧ w.cell? ⟨X, 2, none⟩ = some (.slice p.a3 S.made.length p.c3) ∧ w.cell? ⟨b, i, none⟩ = some v) (k : Kept [] w w') :
  w'.cell? ⟨X, 0, none⟩ = some (.slice a1 S.ino.length p.c1) ∧ w'.cell? ⟨X, 1, none⟩ = some (.slice p.a2 S.opn.length p.c2) ∧ w'.cell? ⟨X, 2, none⟩ = some (.slice p.a3 S.made.length p.c3) ∧ w'.cell? ⟨b, i, none⟩ = some v :=
 ⟨k.cell h.1 (by simp), k.cell h.2.1 (by simp), k.cell h.2.2.1 (by simp), k.cell h.2.2.2 (by simp)⟩
theorem r_parent {w : World} {p : Pl} {S : Sta} (h : Sv w p S) (hc : Clo S.ino) (hz : ∀ x ∈ S.ino, ∀ e ∈ x.ents, e.2 ≠ 0) (s : ByteArray) {d : Int} {t : ByteArray} (hsp : spotR S.ino s = .ok (d, t)) :
  Calls Tryz.prog 89 #[sval p S, .string s] w fun e w' => e = .returned (.tuple #[.int .i64 d, .string t, .int .i64 0]) ∧ Kept [] w w' := by
 obtain ⟨W0, X, HW, HB⟩ := boxS h
 have HSv : Hid (Sv w p S) := h
 have HC : Hid (Clo S.ino) := hc
 have HZ : Hid (_) := hz
 have HP : Hid (codeR (parseR s).2 = 0 ∧ (parseR s).1.length ≠ 0 ∧ walkR S.ino 1 ((parseR s).1.take ((parseR s).1.length - 1)) = (d, 0) ∧ dirOf S.ino d = true ∧ tx (parseR s).1 ((parseR s).1.length - 1) = t) := by
  unfold spotR at hsp
  split at hsp
  · cases hsp
  split at hsp
  · cases hsp
  split at hsp
  · cases hsp
  split at hsp
  ·
   rename_i a1 a2 a3 a4
   simp only [Except.ok.injEq, Prod.mk.injEq] at hsp
   refine ⟨by simpa using a1, a2, Prod.ext hsp.1 (by simpa using a3), by rw [← hsp.1]; exact a4, hsp.2⟩
  · cases hsp
 have hl4 := parse_few s
 obtain ⟨L, hL⟩ : ∃ L, (parseR s).1 = L := ⟨_, rfl⟩
 have HL : Hid (_) := hL
 rw [hL] at HP hl4
 clear h hc hz hsp hL
 go_enter Tryz.func89, Tryz.ntmps89
 go_upto_region 1 with fail
 rw [HW.out.1, HW.out.2]
 clear HW
 go_wp2_with fail
 refine (f_parse s W0).mono ?_
 rintro e w1 ⟨v, rfl, hS, hk⟩
 have HS : Hid (Kept [] w w1) := HB.out.k.trans hk (by simp)
 have HB1 : Hid (_) := HB.out.kept hk
 have hx0 : (parseR s).2 = 0 := by
  have h1 := HP.out.1
  rcases parse_code s with e | e | e | e
  · exact e
  · rw [e] at h1; exact absurd h1 (by decide)
  · rw [e] at h1; exact absurd h1 (by decide)
  · rw [e] at h1; exact absurd h1 (by decide)
 rw [hx0]
 rw [HL.out] at hS
 obtain ⟨a, c, hv, hss, -⟩ := hS.read
 have hcap := hS
 subst hv
 have HSs : Hid (Ss w1 a L ∧ L.length ≤ c) := ⟨hss, by rcases hcap.2 with ⟨e1, e2⟩ | ⟨g, cap, cur, e1, -, -, e4, -⟩; (rw [Value.slice.injEq] at e1; omega); (rw [Value.slice.injEq] at e1; omega)⟩
 have l0 : ¬ (L.length : Int) = 0 := by have := HP.out.2.1; omega
 have l0b : ((L.length : Int) == 0) = false := by simpa using l0
 have l1 : (0 : Int) ≤ (L.length : Int) - 1 := by have := HP.out.2.1; omega
 have l2 : (L.length : Int) - 1 ≤ (c : Int) := by have := HSs.out.2; omega
 have l3 : (L.length : Int) - 1 < (L.length : Int) := by omega
 have l4 : IntKind.i64.wrap ((L.length : Int) - 1) = (((L.length - 1 : Nat) : Nat) : Int) := by rw [IntKind.wrap_i64]; have := HP.out.2.1; omega
 obtain ⟨b0, o0, ha0, t0⟩ := hss.2 (L.length - 1) (by have := HP.out.2.1; omega)
 subst ha0
 obtain ⟨m, hm⟩ : ∃ m, L.length - 1 = m := ⟨_, rfl⟩
 have HM : Hid (L.length = m + 1) := by have := HP.out.2.1; show _ = _; omega
 have HPw : Hid (walkR S.ino 1 (L.take m) = (d, 0) ∧ dirOf S.ino d = true ∧ tx L m = t) := by have := HP.out; rw [hm] at this; exact this.2.2
 rw [hm] at t0 l4
 rw [HPw.out.2.2] at t0
 have l5 : (m : Int) < (L.length : Int) := by have := HM.out; omega
 have l6 : (m : Int) ≤ (c : Int) := by have := HSs.out.2; have := HM.out; omega
 have l7 : (0 : Int) ≤ (m : Int) := by omega
 have HT0 : Hid (w1.cell? ⟨b0, o0 + m, none⟩ = some (.string t)) := t0
 clear hS hk hss hcap hx0 hm HB
 obtain ⟨x0, x1, x2⟩ := HB1.out.block
 go_upto_region 6 with fail
 have HC0 : Hid (w1.drew.cell? ⟨X, 0, none⟩ = some (.slice p.a1 S.ino.length p.c1) ∧ w1.drew.cell? ⟨X, 1, none⟩ = some (.slice p.a2 S.opn.length p.c2) ∧ w1.drew.cell? ⟨X, 2, none⟩ = some (.slice p.a3 S.made.length p.c3) ∧ w1.drew.cell? ⟨b0, o0 + m, none⟩ = some (.string t)) := pc_kept ⟨x0, x1, x2, t0⟩ (Kept.refl _ _).drew
 clear x0 x1 x2 t0
 have HWk : Hid (∀ W, Kept [] w1 W → Calls Tryz.prog 126 #[.agg #[.slice p.a1 S.ino.length p.c1, .slice p.a2 S.opn.length p.c2, .slice p.a3 S.made.length p.c3], .slice (some ⟨b0, o0, none⟩) m c] W fun e w' => ∃ ua ul uc, e = .returned (.tuple #[.int .i64 d, .int .i64 0, .slice ua ul uc]) ∧ Kept [] W w') := fun W k => by
  have := r_walk (HSv.out.kept (HS.out.trans k (by simp))) HC.out HZ.out (names := L.take m) (n0 := m) (c := c) (by rw [List.length_take]; have := HM.out; omega) ((HSs.out.1.kept k).take m) (by rw [List.length_take]; have := hl4.1; omega)
  rw [HPw.out.1] at this
  exact this
 go_region_held3 (fun w' => w'.cell? ⟨X, 0, none⟩ = some (.slice p.a1 S.ino.length p.c1) ∧ w'.cell? ⟨X, 1, none⟩ = some (.slice p.a2 S.opn.length p.c2) ∧ w'.cell? ⟨X, 2, none⟩ = some (.slice p.a3 S.made.length p.c3) ∧ w'.cell? ⟨b0, o0 + m, none⟩ = some (.string t)) (first | exact HC0.out | exact z4 | go_keep)
  (first
   | (go_at_call 126; refine (HWk.out _ (Kept.refl _ _).drew).mono ?_; rintro e w2 ⟨ua, ul, uc, rfl, k2⟩; have z4 := pc_kept HC0.out k2))
 have HK2 : Hid (Kept [] w1 w2) := ((Kept.refl _ _).drew).trans k2 (by simp)
 have HB2 : Hid (_) := HB1.out.kept HK2.out
 clear z4 k2 HC0 HWk
 obtain ⟨k, hk⟩ : ∃ k, atR S.ino d = some k := by
  have := HPw.out.2.1
  unfold dirOf at this
  rcases hh : atR S.ino d with _ | k
  · rw [hh] at this; cases this
  · exact ⟨k, rfl⟩
 obtain ⟨hkl, -⟩ := at_get hk
 have hdir : (S.ino[k]).dir = true := by
  have := HPw.out.2.1
  unfold dirOf at this
  rw [hk] at this
  simpa [List.getElem?_eq_getElem hkl] using this
 obtain ⟨b, o, ae, ce, ha, -, h1, -⟩ := HB2.out.sv.ino k hkl
 rw [hdir] at h1
 obtain ⟨x0, x1, x2⟩ := HB2.out.block
 rw [ha] at x0
 have k0 : (0 : Int) ≤ (k : Int) := by omega
 have k1 : (k : Int) < (S.ino.length : Int) := by omega
 have HAt : Hid (∀ W, Sv W p S → Calls Tryz.prog 94 #[.agg #[.slice (some ⟨b, o, none⟩) S.ino.length p.c1, .slice p.a2 S.opn.length p.c2, .slice p.a3 S.made.length p.c3], .int .i64 d] W fun e w' => e = .returned (.int .i64 (k : Int)) ∧ Kept [] W w') := fun W hW => by
  have := r_at hW d
  unfold sval at this
  rw [ha, hk] at this
  exact this
 have HA : Hid (_) := ha
 clear ha hk hdir
 go_upto_region 9 with fail
 have HC1 : Hid (w2.drew.cell? ⟨X, 0, none⟩ = some (.slice (some ⟨b, o, none⟩) S.ino.length p.c1) ∧ w2.drew.cell? ⟨X, 1, none⟩ = some (.slice p.a2 S.opn.length p.c2) ∧ w2.drew.cell? ⟨X, 2, none⟩ = some (.slice p.a3 S.made.length p.c3) ∧ w2.drew.cell? ⟨b, o + k * 4 + 1, none⟩ = some (.bool true)) := pc_kept ⟨x0, x1, x2, h1⟩ (Kept.refl _ _).drew
 clear x0 x1 x2 h1
 go_region_held3 (fun w' => w'.cell? ⟨X, 0, none⟩ = some (.slice (some ⟨b, o, none⟩) S.ino.length p.c1) ∧ w'.cell? ⟨X, 1, none⟩ = some (.slice p.a2 S.opn.length p.c2) ∧ w'.cell? ⟨X, 2, none⟩ = some (.slice p.a3 S.made.length p.c3) ∧ w'.cell? ⟨b, o + k * 4 + 1, none⟩ = some (.bool true)) (first | exact HC1.out | exact z5 | go_keep)
  (first
   | (go_at_call 94; refine (HAt.out _ (HB2.out.sv.kept (Kept.refl _ _).drew)).mono ?_; rintro e w3 ⟨rfl, k3⟩; have z5 := pc_kept HC1.out k3))
 have HK3 : Hid (Kept [] w2 w3) := ((Kept.refl _ _).drew).trans k3 (by simp)
 clear z5 k3 HC1
 have t3 := HK3.out.cell (HK2.out.cell HT0.out (by simp)) (by simp)
 go_wp2_with fail
 go_quiet (fail)
 go_wp2
 go_ret3
 exact ⟨rfl, ((HS.out.trans HK2.out (by simp)).trans HK3.out (by simp)).drewN _⟩
end Go.Proofs.YtffncojcnbhblaaGreatDoor
