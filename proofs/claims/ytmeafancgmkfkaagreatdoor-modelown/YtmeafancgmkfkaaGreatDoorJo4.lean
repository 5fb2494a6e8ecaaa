/-
  Joined of my texts Pt Pv De Er Sd.
-/
import Derived.Test.YtmeafancgmkfkaaGreatDoorJo3
import Derived.Test.YtmeafancgmkfkaaGreatDoorJo1
import Derived.OwnWalk
import Derived.Deep.AppendLies
import Derived.BigQuiet
namespace Go.Proofs.YtmeafancgmkfkaaGreatDoor
open Go.RowKit
set_option linter.unusedVariables false
theorem tx_at {xs : List ByteArray} {i : Nat} (h : i < xs.length) : xs[i]? = some (tx xs i) := by
 unfold tx
 rw [List.getD_eq_getElem?_getD, List.getElem?_eq_getElem h]
 rfl
theorem It.turnF {w0 W W' : World} {s : ByteArray} {j : Nat} {F : List Nat} (h : It w0 W s j) (k : Kept F W W') (hF : ∀ x ∈ F, w0.heap.size < x) : It w0 W' s j :=
 ⟨h.kept.trans k (fun x hx => Or.inr (by have := hF x hx; omega)), (k.block _ (lt_of_heap h.here) (fun hm => by have := hF _ hm; omega)).trans h.here⟩
theorem iterTo_other {W : World} {b k : Nat} {s : ByteArray} {j : Nat} (h : k ≠ b) : (iterTo W b s j).heap[k]? = W.heap[k]? := by
 show (W.heap.setIfInBounds b _)[k]? = _
 rw [Array.getElem?_setIfInBounds, if_neg (by omega)]
theorem Sr.slice {w : World} {H : Nat} {v : Value} {xs : List ByteArray} (h : Sr w H v xs) : ∃ a n c, v = .slice a n c := by
 obtain ⟨a, c, rfl, -⟩ := h.read
 exact ⟨_, _, _, rfl⟩
set_option maxRecDepth 100000 in
theorem p_cut (s : ByteArray) (w : World) (hs : s.size ≤ 64) :
   Calls Tryz.prog 71 #[.string s] w fun e w' => ∃ v, e = .returned v ∧ Sr w' w.heap.size v (segs s 0 0) ∧ Kept [] w w' := by
 have hs63 : (s.size : Int) ≤ 64 := by omega
 go_enter Tryz.func71, Tryz.ntmps71
 go_wp2_with fail
 go_loopw [3, 4] (fun v f wr => ∃ (j fr : Nat) (a : Option Addr) (n c : Nat), v = .slice a n c ∧ f = .int .i64 (fr : Int) ∧ fr ≤ j ∧ j ≤ s.size ∧ Hid (It w wr s j) ∧ Hid (∃ xs, Sr wr (w.heap.size + 1) (.slice a n c) xs ∧ xs ++ segs s fr j = segs s 0 0 ∧ xs.length ≤ j)) (fun _ _ wr => s.size - wr.iterPos w.heap.size)
 case atStart => exact ⟨0, 0, _, _, _, rfl, rfl, by omega, by omega, It.begin w s, [], Sr.nil _ _, rfl, by simp⟩
 case round =>
   obtain ⟨j, fr, a, n, c, rfl, rfl, hfj, hj, HI, HX⟩ := hrel
   by_cases hlt : j < s.size
   · have hnx := next_at HI.out.here hlt
     have hst := step_le hlt
     obtain ⟨W1, hW1⟩ : ∃ W1, iterTo wr w.heap.size s (j + max (one s j).2 1) = W1 := ⟨_, rfl⟩
     have hI1 : It w W1 s (j + max (one s j).2 1) := by rw [← hW1]; exact HI.out.next _
     rw [hW1] at hnx
     obtain ⟨xs, hS, hseg, hxl⟩ := HX.out
     have hS1 : Sr W1 (w.heap.size + 1) (.slice a n c) xs := hS.same fun k hk => by
       have := (hS.block k hk).1
       rw [← hW1]
       exact iterTo_other (by omega)
     have HP : Hid (wr.iterPos w.heap.size = j) := HI.out.pos
     by_cases h47 : (one s j).1 = 47
     · have HS : Hid (Sr W1 (w.heap.size + 1) (.slice a n c) xs ∧ xs ++ [s.extract fr j] ++ segs s (j + 1) (j + max (one s j).2 1) = segs s 0 0 ∧ xs.length ≤ j) := ⟨hS1, by rw [List.append_assoc, List.singleton_append, ← segs_mark hlt h47]; exact hseg, hxl⟩
       have HJ : Hid (It w W1 s (j + max (one s j).2 1)) := hI1
       have hmx : max (one s j).2 1 = 1 := by rw [(one_stroke h47).2]; rfl
       rw [h47] at hnx
       clear hI1 hW1 HI HX hS hS1 hseg hxl h47
       rw [hmx] at HS HJ hst
       clear hmx
       have hzx : (s.extract fr j).size ≤ 140737488351232 := by rw [ByteArray.size_extract]; omega
       have j1 : (fr : Int) ≤ (j : Int) := by omega
       have j2 : (j : Int) ≤ (s.size : Int) := by omega
       go_wp2_with fail
       refine (s_clone (s.extract fr j) W1 hzx).mono ?_
       rintro e w2 ⟨rfl, hk⟩
       obtain ⟨v', w', hr, h2, h3⟩ := append_text (HS.out.1.kept hk) (by have := HJ.out.kept.size; have := lt_of_heap HJ.out.here; have := hk.size; omega) (s.extract fr j) (by have := HS.out.2.2; omega) 30
       have HE : Hid (It w w' s (j + 1) ∧ ∃ ys, Sr w' (w.heap.size + 1) v' ys ∧ ys ++ segs s (j + 1) (j + 1) = segs s 0 0 ∧ ys.length ≤ j + 1) := ⟨(HJ.out.turn hk).turnF h3 (fun x hx => by
           have := ((HS.out.1.kept hk).block x (by simpa using hx)).1
           omega), _, h2, HS.out.2.1, by rw [List.length_append, List.length_singleton]; have := HS.out.2.2; omega⟩
       have HA : Hid (_) := hr
       obtain ⟨va, vn, vc, hv⟩ := h2.slice
       subst hv
       clear hr h2 h3 hk HS HJ
       go_wp2_with (at_builtin; refine wpList_append_run _ rfl _ _ 30 30 rfl _ _ rfl rfl _ _ HA.out ?_)
       go_roundw
       case rel => exact ⟨j + 1, j + 1, _, _, _, rfl, by go_num, by omega, by omega, HE.out.1, HE.out.2⟩
       case measure =>
         have m1 := HE.out.1.pos
         have m2 := HP.out
         simp only [m1, m2]
         omega
     · have HS : Hid (Sr W1 (w.heap.size + 1) (.slice a n c) xs ∧ xs ++ segs s fr (j + max (one s j).2 1) = segs s 0 0 ∧ xs.length ≤ j + max (one s j).2 1) := ⟨hS1, by rw [← segs_rune hlt h47]; exact hseg, by omega⟩
       have HJ : Hid (It w W1 s (j + max (one s j).2 1)) := hI1
       obtain ⟨r, hr⟩ : ∃ r, (one s j).1 = r := ⟨_, rfl⟩
       rw [hr] at hnx h47
       have hrb : (r == 47) = false := by simpa using h47
       clear hI1 hW1 HI HX hS hS1 hseg hxl hr
       have hps := step_pos s j
       obtain ⟨m, hm⟩ : ∃ m, max (one s j).2 1 = m := ⟨_, rfl⟩
       rw [hm] at HS HJ hst hps
       clear hm
       go_wp2_with fail
       go_roundw
       case rel => exact ⟨j + m, fr, _, _, _, rfl, rfl, by omega, by omega, HJ.out, xs, HS.out⟩
       case measure =>
         have m1 := HJ.out.pos
         have m2 := HP.out
         simp only [m1, m2]
         omega
   · have hnx := next_none HI.out.here hlt
     obtain ⟨xs, hS, hseg, hxl⟩ := HX.out
     have HS : Hid (Sr wr (w.heap.size + 1) (.slice a n c) xs ∧ xs ++ [s.extract fr s.size] = segs s 0 0 ∧ xs.length ≤ j) := ⟨hS, by rw [← segs_end hlt]; exact hseg, hxl⟩
     have HJ : Hid (It w wr s j) := HI.out
     clear HI HX hS hseg hxl
     have hzx : (s.extract fr s.size).size ≤ 140737488351232 := by rw [ByteArray.size_extract]; omega
     have j1 : (fr : Int) ≤ (s.size : Int) := by omega
     go_wp2_with fail
     refine (s_clone (s.extract fr s.size) wr hzx).mono ?_
     rintro e w2 ⟨rfl, hk⟩
     obtain ⟨v', w', hr, h2, h3⟩ := append_text (HS.out.1.kept hk) (by have := HJ.out.kept.size; have := lt_of_heap HJ.out.here; have := hk.size; omega) (s.extract fr s.size) (by have := HS.out.2.2; omega) 30
     have HE : Hid (Sr w' w.heap.size v' (segs s 0 0) ∧ Kept [] w w') := ⟨by
         rw [← HS.out.2.1]
         exact h2.less (by omega), ((HJ.out.turn hk).turnF h3 (fun x hx => by
         have := ((HS.out.1.kept hk).block x (by simpa using hx)).1
         omega)).kept⟩
     have HA : Hid (_) := hr
     obtain ⟨va, vn, vc, hv⟩ := h2.slice
     subst hv
     clear hr h2 h3 hk HS HJ
     go_wp2_with (at_builtin; refine wpList_append_run _ rfl _ _ 30 30 rfl _ _ rfl rfl _ _ HA.out ?_)
     go_ret
     exact ⟨_, rfl, HE.out⟩
def pieceErr (p : ByteArray) : Int := if chk p = 0 then 0 else if chk p = 801 then 1101 else 1100
theorem first_cons (p : ByteArray) (l : List ByteArray) : firstErr (p :: l) = if pieceErr p = 0 then firstErr l else pieceErr p := by
 rw [firstErr]
 unfold pieceErr
 split
 · simp
 split
 · simp
 · simp
set_option maxRecDepth 100000 in
set_option maxHeartbeats 2000000 in
theorem p_piece (s : ByteArray) (w : World) (hT : Tab w) :
   Calls Tryz.prog 72 #[.string s] w fun e w' => e = .returned (.int .i64 (pieceErr s)) ∧ Kept [] w w' := by
 have HC : Hid (_) := n_check s w hT
 have hany := chk_any s
 clear hT
 unfold pieceErr
 obtain ⟨z, hz⟩ : ∃ z, chk s = z := ⟨_, rfl⟩
 rw [hz] at HC hany ⊢
 clear hz
 go_enter Tryz.func72, Tryz.ntmps72
 go_wp2_with fail
 refine Calls.mono HC.out ?_
 rintro e w1 ⟨rfl, hk⟩
 have HK : Hid (_) := hk
 clear hk HC
 rcases hany with rfl | rfl | rfl
 · go_wp2_with fail
   go_ret
   exact ⟨rfl, HK.out⟩
 · go_wp2_with fail
   go_ret
   exact ⟨rfl, HK.out⟩
 · go_wp2_with fail
   go_ret
   exact ⟨rfl, HK.out⟩
theorem first_drop {l : List ByteArray} {j : Nat} (h : j < l.length) : firstErr (l.drop j) = if pieceErr (tx l j) = 0 then firstErr (l.drop (j + 1)) else pieceErr (tx l j) := by
 have : l.drop j = tx l j :: l.drop (j + 1) := by
   rw [List.drop_eq_getElem_cons h]
   congr 1
   have := tx_at h
   rw [List.getElem?_eq_getElem h] at this
   exact Option.some.inj this
 rw [this, first_cons]
def Parsed (s : ByteArray) (w : World) (e : Ending) (w' : World) : Prop :=
 ∃ v, e = .returned (.tuple #[v, .int .i64 (parseR s).2]) ∧ Sr w' w.heap.size v (parseR s).1 ∧ Kept [] w w'
theorem Parsed.mk {s : ByteArray} {w w' : World} {v : Value} {x : Int} {l : List ByteArray} (h : parseR s = (l, x)) (hS : Sr w' w.heap.size v l) (hk : Kept [] w w') : Parsed s w (.returned (.tuple #[v, .int .i64 x])) w' :=
 ⟨v, by rw [h], by rw [h]; exact hS, hk⟩
theorem at8_val {s : ByteArray} {i : Nat} (h : i < s.size) : (s[i]'h).toNat = at8 s i := (at8_get s i h).symm
set_option maxRecDepth 100000 in
set_option maxHeartbeats 4000000 in
theorem p_parse (s : ByteArray) (w : World) (hT : Tab w) : Calls Tryz.prog 53 #[.string s] w (Parsed s w) := by
 by_cases hl : 64 < s.size
 · have i0 : (64 : Int) < (s.size : Int) := by omega
   have HP : Hid (parseR s = ([], 1101)) := by show parseR s = _; unfold parseR; rw [if_pos hl]
   clear hT
   go_enter Tryz.func53, Tryz.ntmps53
   go_wp2_with fail
   go_ret2
   exact Parsed.mk HP.out (Sr.nil _ _) (Kept.refl _ _)
 have i0 : ¬ (64 : Int) < (s.size : Int) := by omega
 by_cases h0 : s.size = 0
 · have HP : Hid (parseR s = ([], 1100)) := by show parseR s = _; unfold parseR; rw [if_neg hl, if_pos (Or.inl h0)]
   have t1 : s.toList.isEmpty = true := by
     rw [List.isEmpty_iff]
     apply List.eq_nil_of_length_eq_zero
     rw [ByteArray.toList_eq]; simpa using h0
   clear hT
   go_enter Tryz.func53, Tryz.ntmps53
   go_wp2_with fail
   go_ret2
   exact Parsed.mk HP.out (Sr.nil _ _) (Kept.refl _ _)
 have hpos : 0 < s.size := by omega
 have i1 : (0 : Int) < (s.size : Int) := by omega
 have t1 : s.toList.isEmpty = false := by
   rw [← Bool.not_eq_true, List.isEmpty_iff]
   intro e
   have : s.toList.length = s.size := by rw [ByteArray.toList_eq]; simp
   rw [e] at this
   simp at this
   omega
 have hv := at8_val hpos
 by_cases h47 : at8 s 0 ≠ 47
 · have HP : Hid (parseR s = ([], 1100)) := by show parseR s = _; unfold parseR; rw [if_neg hl, if_pos (Or.inr h47)]
   have hv1 : ¬ (s[0]'hpos).toNat = 47 := by rw [hv]; exact h47
   have hv2 : ¬ ((s[0]'hpos).toNat : Int) = 47 := by omega
   clear hT hv
   go_enter Tryz.func53, Tryz.ntmps53
   go_wp2_with fail
   go_ret2
   exact Parsed.mk HP.out (Sr.nil _ _) (Kept.refl _ _)
 have h47 : at8 s 0 = 47 := by omega
 rw [h47] at hv
 have hv1 : (s[0]'hpos).toNat = 47 := hv
 have hv2 : ((s[0]'hpos).toNat : Int) = 47 := by omega
 by_cases h1 : s.size = 1
 · have HP : Hid (parseR s = ([], 0)) := by show parseR s = _; unfold parseR; rw [if_neg hl, if_neg (by omega), if_pos h1]
   have t2 : (s.extract 1 s.size).toList.isEmpty = true := by
     rw [List.isEmpty_iff]
     apply List.eq_nil_of_length_eq_zero
     rw [ByteArray.toList_eq]
     show (s.extract 1 s.size).size = 0
     rw [ByteArray.size_extract]; omega
   have i2 : (1 : Int) ≤ (s.size : Int) := by omega
   clear hT
   go_enter Tryz.func53, Tryz.ntmps53
   go_wp2_with fail
   go_ret2
   exact Parsed.mk HP.out (Sr.nil _ _) (Kept.refl _ _)
 have hbz : (s.extract 1 s.size).size ≤ 64 := by rw [ByteArray.size_extract]; omega
 have t2 : (s.extract 1 s.size).toList.isEmpty = false := by
   rw [← Bool.not_eq_true, List.isEmpty_iff]
   intro e
   have : (s.extract 1 s.size).toList.length = (s.extract 1 s.size).size := by rw [ByteArray.toList_eq]; simp
   rw [e, ByteArray.size_extract] at this
   simp at this
   omega
 have i2 : (1 : Int) ≤ (s.size : Int) := by omega
 have HR : Hid (∀ xs, xs = segs s 1 1 → parseR s = if firstErr xs ≠ 0 then ([], firstErr xs) else if 4 < xs.length then ([], 1102) else (xs, 0)) := by
   show ∀ xs, _
   intro xs hx
   subst hx
   unfold parseR
   rw [if_neg hl, if_neg (by omega), if_neg h1]
 have HB : Hid (segs (s.extract 1 s.size) 0 0 = segs s 1 1) := segs_below s (by omega)
 have hlen := segs_len s 64 1 1 (by omega)
 have HT : Hid (Tab w) := hT
 clear hT hl h0 h47 h1
 go_enter Tryz.func53, Tryz.ntmps53
 go_wp2_with fail
 refine (p_cut (s.extract 1 s.size) w hbz).mono ?_
 rintro e w1 ⟨v, rfl, hS, hk⟩
 rw [HB.out] at hS
 obtain ⟨xs, hxs⟩ : ∃ xs, xs = segs s 1 1 := ⟨_, rfl⟩
 rw [← hxs] at hS hlen
 have HR1 : Hid (_) := HR.out xs hxs
 clear HR HB hxs
 obtain ⟨a, c, hva, hread, -⟩ := hS.read
 obtain ⟨n, hn⟩ : ∃ n, xs.length = n := ⟨_, rfl⟩
 rw [hn] at hva
 subst hva
 have HQ : Hid (Sr w1 w.heap.size (.slice a n c) xs ∧ Ss w1 a xs ∧ Kept [] w w1 ∧ Tab w1) := ⟨hS, hread, hk, HT.out.kept hk⟩
 have HN : Hid (n = xs.length) := hn.symm
 rw [hn] at hlen
 clear hS hread hk HT hn hv hv1 hv2 t1 t2 hbz
 go_wp2_with fail
 go_loopw [27] (fun s wr => ∃ (j : Nat), s = .int .i64 (j : Int) ∧ j ≤ n ∧ Hid (Kept [] w1 wr ∧ firstErr (xs.drop j) = firstErr xs)) (fun s _ => (n - intOf s).toNat)
 case atStart => exact ⟨0, rfl, by omega, Kept.refl _ _, rfl⟩
 case round =>
   obtain ⟨j, rfl, hj, HJ⟩ := hrel
   by_cases hlt : j < n
   · have k1 : (j : Int) < (n : Int) := by omega
     obtain ⟨b1, o1, rfl, c1⟩ := (HQ.out.2.1.kept HJ.out.1).2 j (by have := HN.out; omega)
     have hfd := first_drop (l := xs) (j := j) (by have := HN.out; omega)
     have hpc := p_piece (tx xs j) wr (HQ.out.2.2.2.kept HJ.out.1)
     obtain ⟨x, hx⟩ : ∃ x, tx xs j = x := ⟨_, rfl⟩
     rw [hx] at c1 hpc hfd
     have HP : Hid (_) := hpc
     clear hpc hx
     by_cases hp : pieceErr x = 0
     · rw [if_pos hp] at hfd
       have HF : Hid (firstErr (xs.drop (j + 1)) = firstErr xs) := hfd.symm.trans HJ.out.2
       rw [hp] at HP
       clear hfd hp
       go_wp2_with fail
       refine Calls.mono HP.out ?_
       rintro e w2 ⟨rfl, hk⟩
       have HK : Hid (_) := HJ.out.1.trans hk (by simp)
       clear hk
       go_wp2_with fail
       go_roundw
       case rel => exact ⟨j + 1, by go_num, by omega, HK.out, HF.out⟩
       case measure => simp [intOf]; omega
     · rw [if_neg hp] at hfd
       have HF : Hid (pieceErr x = firstErr xs) := hfd.symm.trans HJ.out.2
       obtain ⟨z, hz⟩ : ∃ z, pieceErr x = z := ⟨_, rfl⟩
       rw [hz] at HP HF hp
       have hpb : (z == 0) = false := by simpa using hp
       clear hfd hz
       go_wp2_with fail
       refine Calls.mono HP.out ?_
       rintro e w2 ⟨rfl, hk⟩
       have HK : Hid (_) := HQ.out.2.2.1.trans (HJ.out.1.trans hk (by simp)) (by simp)
       have HE : Hid (parseR s = ([], z)) := by
         show parseR s = _
         rw [HR1.out, ← HF.out, if_pos hp]
       clear hk HP
       go_wp2_with fail
       go_ret2
       exact Parsed.mk HE.out (Sr.nil _ _) (HK.out)
   · have k1 : ¬ (j : Int) < (n : Int) := by omega
     have HF : Hid (firstErr xs = 0) := by
       have := HJ.out.2
       rw [List.drop_of_length_le (by have := HN.out; omega)] at this
       exact this.symm
     have HK : Hid (_) := HQ.out.2.2.1.trans HJ.out.1 (by simp)
     by_cases h4 : 4 < n
     · have k2 : (4 : Int) < (n : Int) := by omega
       have HE : Hid (parseR s = ([], 1102)) := by
         show parseR s = _
         rw [HR1.out, HF.out, if_neg (by simp), if_pos (by have := HN.out; omega)]
       go_wp2_with fail
       go_ret2
       exact Parsed.mk HE.out (Sr.nil _ _) (HK.out)
     · have k2 : ¬ (4 : Int) < (n : Int) := by omega
       have HE : Hid (parseR s = (xs, 0)) := by
         show parseR s = _
         rw [HR1.out, HF.out, if_neg (by simp), if_neg (by have := HN.out; omega)]
       have HS : Hid (Sr wr w.heap.size (.slice a n c) xs) := HQ.out.1.kept HJ.out.1
       go_wp2_with fail
       go_ret2
       exact Parsed.mk HE.out (HS.out) (HK.out)
end Go.Proofs.YtmeafancgmkfkaaGreatDoor

namespace Go.Proofs.YtmeafancgmkfkaaGreatDoor
open Go.RowKit
set_option linter.unusedVariables false
theorem Sr.cap {w : World} {H : Nat} {a : Option Addr} {n c : Nat} {xs : List ByteArray} (h : Sr w H (.slice a n c) xs) : n ≤ c := by
 rcases h.2 with ⟨h1, h2⟩ | ⟨g, cap, cur, h1, hb, hgg, h4, -⟩
 · rw [Value.slice.injEq] at h1; omega
 · rw [Value.slice.injEq] at h1; omega
theorem tx_mem {l : List ByteArray} {j : Nat} (h : j < l.length) : tx l j ∈ l := List.mem_of_getElem? (tx_at h)
set_option maxRecDepth 100000 in
set_option maxHeartbeats 4000000 in
def codes (e : Int) : Prop := e = 0 ∨ e = 1100 ∨ e = 1101 ∨ e = 1102
theorem first_code (l : List ByteArray) : codes (firstErr l) := by
 unfold codes
 induction l with
 | nil => exact Or.inl rfl
 | cons p l ih =>
   rw [firstErr]
   split
   · exact ih
   split
   · simp
   · simp
theorem parse_code (s : ByteArray) : codes (parseR s).2 := by
 unfold parseR
 split
 · simp [codes]
 split
 · simp [codes]
 split
 · simp [codes]
 split
 · exact first_code _
 split
 · simp [codes]
 · simp [codes]
set_option maxRecDepth 100000 in
set_option maxHeartbeats 2000000 in
theorem p_code (e : Int) (he : codes e) (w : World) : Calls Tryz.prog 54 #[.int .i64 e] w fun r w' => r = .returned (.int .i64 (codeR e)) ∧ w' = w := by
 rcases he with rfl | rfl | rfl | rfl
 · go_enter Tryz.func54, Tryz.ntmps54
   go_wp2_with fail
   go_ret
   exact ⟨rfl, rfl⟩
 · go_enter Tryz.func54, Tryz.ntmps54
   go_wp2_with fail
   go_ret
   exact ⟨rfl, rfl⟩
 · go_enter Tryz.func54, Tryz.ntmps54
   go_wp2_with fail
   go_ret
   exact ⟨rfl, rfl⟩
 · go_enter Tryz.func54, Tryz.ntmps54
   go_wp2_with fail
   go_ret
   exact ⟨rfl, rfl⟩
set_option maxRecDepth 100000 in
set_option maxHeartbeats 4000000 in
theorem p_below (a b : ByteArray) (w : World) (hT : Tab w) : Calls Tryz.prog 112 #[.string a, .string b] w fun e w' => e = .returned (.bool (belowR a b)) ∧ Kept [] w w' := by
 have HT : Hid (Tab w) := hT
 clear hT
 obtain ⟨z, hz⟩ : ∃ z, belowR a b = z := ⟨_, rfl⟩
 rw [hz]
 unfold belowR at hz
 have hf := (parse_few a).1
 have hg := (parse_few b).1
 have HA : Hid (_) := p_parse a w HT.out
 obtain ⟨⟨xs, x⟩, hx⟩ : ∃ p, parseR a = p := ⟨_, rfl⟩
 obtain ⟨⟨ys, y⟩, hy⟩ : ∃ p, parseR b = p := ⟨_, rfl⟩
 rw [hx, hy] at hz
 rw [hx] at hf
 rw [hy] at hg
 simp only [] at hz hf hg
 have HX : Hid (parseR a = (xs, x)) := hx
 have HY : Hid (parseR b = (ys, y)) := hy
 have HZ : Hid (_ = z) := hz
 clear hx hy hz
 go_enter Tryz.func112, Tryz.ntmps112
 go_wp2_with fail
 refine Calls.mono HA.out ?_
 rintro e w1 ⟨v, he, hS, hk⟩
 rw [HX.out] at he hS
 simp only [] at he hS
 subst he
 obtain ⟨a1, c1, hv, hread1, -⟩ := hS.read
 obtain ⟨n, hn⟩ : ∃ n, xs.length = n := ⟨_, rfl⟩
 rw [hn] at hv hf
 subst hv
 have HS : Hid (Ss w1 a1 xs ∧ xs.length = n ∧ Kept [] w w1 ∧ Tab w1) := ⟨hread1, hn, hk, HT.out.kept hk⟩
 clear hS hread1 hk HA HT hn
 by_cases hx0 : x = 0
 · subst hx0
   have HB : Hid (_) := p_parse b w1 HS.out.2.2.2
   go_wp2_with fail
   refine Calls.mono HB.out ?_
   rintro e w2 ⟨v, he, hS, hk⟩
   rw [HY.out] at he hS
   simp only [] at he hS
   subst he
   obtain ⟨a2, c2, hv, hread2, -⟩ := hS.read
   obtain ⟨m, hm⟩ : ∃ m, ys.length = m := ⟨_, rfl⟩
   rw [hm] at hv hg
   subst hv
   have HK : Hid (Kept [] w w2) := HS.out.2.2.1.trans hk (by simp)
   have HS2 : Hid (Ss w2 a1 xs ∧ Ss w2 a2 ys ∧ ys.length = m) := ⟨HS.out.1.kept hk, hread2, hm⟩
   have hcap := hS.cap
   clear hS hread2 hk HB hm
   by_cases hy0 : y = 0
   · subst hy0
     by_cases hlt : n < m
     · have k1 : (n : Int) < (m : Int) := by omega
       obtain ⟨b2, o2, rfl, -⟩ := HS2.out.2.1.2 0 (by have := HS2.out.2.2; omega)
       have HE : Hid (decide (xs = ys.take n) = z) := by
         show _ = z
         rw [← HZ.out]
         have h1 := HS.out.2.1
         have h2 := HS2.out.2.2
         simp [h1, h2, hlt]
       have k2 : n ≤ c2 := by omega
       have k3 : (n : Int) ≤ (c2 : Int) := by omega
       have k4 : ¬ c2 = 0 := by omega
       go_wp2_with fail
       refine (slices_equal _ _ _ _ _ _ xs (ys.take n) w2 HS.out.2.1.symm (by have := HS2.out.2.2; rw [List.length_take]; omega) HS2.out.1 (HS2.out.2.1.take n)).mono ?_
       rintro e w3 ⟨rfl, q, rfl⟩
       rw [HE.out]
       go_wp2_with fail
       go_ret
       exact ⟨rfl, HK.out.drewN q⟩
     · have k1 : ¬ (n : Int) < (m : Int) := by omega
       have HE : Hid (false = z) := by
         show _ = z
         rw [← HZ.out]
         have h1 := HS.out.2.1
         have h2 := HS2.out.2.2
         simp [h1, h2, hlt]
       go_wp2_with fail
       go_ret
       exact ⟨ret_bool HE.out, HK.out⟩
   · have hyb : (y == 0) = false := by simpa using hy0
     have HE : Hid (false = z) := by
       show _ = z
       rw [← HZ.out, hyb]
       simp
     go_wp2_with fail
     go_ret
     exact ⟨ret_bool HE.out, HK.out⟩
 · have hxb : (x == 0) = false := by simpa using hx0
   have HE : Hid (false = z) := by
     show _ = z
     rw [← HZ.out, hxb]
     simp
   go_wp2_with fail
   go_ret
   exact ⟨ret_bool HE.out, HS.out.2.2.1⟩
end Go.Proofs.YtmeafancgmkfkaaGreatDoor

namespace Go.Proofs.YtmeafancgmkfkaaGreatDoor
open Go.RowKit
set_option linter.unusedVariables false
def lx : List UInt8 → List UInt8 → Bool
 | [], [] => false
 | [], _ :: _ => true
 | _ :: _, [] => false
 | a :: l, b :: m => decide (a.toNat < b.toNat) || (decide (a.toNat = b.toNat) && lx l m)
theorem lx_cons (a b : UInt8) (l m : List UInt8) : lx (a :: l) (b :: m) = true ↔ a.toNat < b.toNat ∨ (a.toNat = b.toNat ∧ lx l m = true) := by
 rw [lx, Bool.or_eq_true, Bool.and_eq_true, decide_eq_true_eq, decide_eq_true_eq]
theorem lx_irrefl (l : List UInt8) : lx l l = false := by
 induction l with
 | nil => rfl
 | cons a l ih => rw [← Bool.not_eq_true, lx_cons, ih]; simp
theorem lx_trans (l : List UInt8) : ∀ m n, lx l m = true → lx m n = true → lx l n = true := by
 induction l with
 | nil =>
   intro m n h1 h2
   cases m with
   | nil => simp [lx] at h1
   | cons b m => cases n with
     | nil => simp [lx] at h2
     | cons c n => rfl
 | cons a l ih =>
   intro m n h1 h2
   cases m with
   | nil => simp [lx] at h1
   | cons b m => cases n with
     | nil => simp [lx] at h2
     | cons c n =>
       rw [lx_cons] at h1 h2 ⊢
       rcases h1 with h1 | ⟨h1, h3⟩
       · rcases h2 with h2 | ⟨h2, h4⟩
         · exact Or.inl (by omega)
         · exact Or.inl (by omega)
       · rcases h2 with h2 | ⟨h2, h4⟩
         · exact Or.inl (by omega)
         · exact Or.inr ⟨by omega, ih m n h3 h4⟩
theorem lx_tri (l : List UInt8) : ∀ m, l = m ∨ lx l m = true ∨ lx m l = true := by
 induction l with
 | nil => intro m; cases m with
   | nil => exact Or.inl rfl
   | cons b m => exact Or.inr (Or.inl rfl)
 | cons a l ih =>
   intro m
   cases m with
   | nil => exact Or.inr (Or.inr rfl)
   | cons b m =>
     rw [lx_cons, lx_cons]
     rcases Nat.lt_trichotomy a.toNat b.toNat with h | h | h
     · exact Or.inr (Or.inl (Or.inl h))
     · rcases ih m with h1 | h1 | h1
       · exact Or.inl (by rw [UInt8.toNat_inj.1 h, h1])
       · exact Or.inr (Or.inl (Or.inr ⟨h, h1⟩))
       · exact Or.inr (Or.inr (Or.inr ⟨h.symm, h1⟩))
     · exact Or.inr (Or.inr (Or.inl h))
def below (a b : ByteArray) : Bool := lx a.toList b.toList
theorem toList_inj {a b : ByteArray} (h : a.toList = b.toList) : a = b := by
 rw [ByteArray.toList_eq, ByteArray.toList_eq] at h
 apply ByteArray.ext
 exact Array.toList_inj.1 h
theorem below_irrefl (a : ByteArray) : below a a = false := lx_irrefl _
theorem below_trans {a b c : ByteArray} (h : below a b = true) (k : below b c = true) : below a c = true := lx_trans _ _ _ h k
theorem below_tri (a b : ByteArray) : a = b ∨ below a b = true ∨ below b a = true := by
 rcases lx_tri a.toList b.toList with h | h
 · exact Or.inl (toList_inj h)
 · exact Or.inr h
abbrev En := ByteArray × Int
def bkt (s : ByteArray) : Int := hashL (rs s 0) 7 % 8
theorem bkt_range (s : ByteArray) : 0 ≤ bkt s ∧ bkt s < 8 := by unfold bkt; omega
def many (E : List En) (b : Int) (but : ByteArray) : Nat := (E.filter fun e => decide (e.1 ≠ but) && bkt e.1 == b).length
end Go.Proofs.YtmeafancgmkfkaaGreatDoor

namespace Go.Proofs.YtmeafancgmkfkaaGreatDoor
open Go.RowKit
set_option linter.unusedVariables false
def flat (E : List En) : List Value := E.flatMap fun e => [.string e.1, .int .i64 e.2]
theorem flat_length (E : List En) : (flat E).length = E.length * 2 := by
 unfold flat
 induction E with
 | nil => rfl
 | cons x E ih => simp at ih ⊢; omega
theorem flat_append (E F : List En) : flat (E ++ F) = flat E ++ flat F := by simp [flat]
theorem flat_get (E : List En) : ∀ i x, E[i]? = some x → (flat E)[i * 2]? = some (.string x.1) ∧ (flat E)[i * 2 + 1]? = some (.int .i64 x.2) := by
 induction E with
 | nil => intro i x h; simp at h
 | cons y E ih =>
   intro i x h
   cases i with
   | zero => simp at h; subst h; simp [flat]
   | succ i =>
     have := ih i x (by simpa using h)
     have e : flat (y :: E) = .string y.1 :: .int .i64 y.2 :: flat E := by simp [flat]
     rw [e, show (i + 1) * 2 = i * 2 + 1 + 1 by omega]
     simpa using this
theorem flat_one (E : List En) : ∀ u ∈ flat E, u.oneCell' = true := by
 intro u hu
 unfold flat at hu
 rw [List.mem_flatMap] at hu
 obtain ⟨e, _, he⟩ := hu
 simp at he
 rcases he with rfl | rfl <;> rfl
end Go.Proofs.YtmeafancgmkfkaaGreatDoor

namespace Go.Proofs.YtmeafancgmkfkaaGreatDoor
open Go.RowKit
set_option linter.unusedVariables false
abbrev Ds := Int × Int × Int
structure Ino where
 num : Int
 dir : Bool
 ents : List En
 data : ByteArray
structure Sta where
 ino : List Ino
 opn : List Ds
 made : List Int
def EntA (w : World) (a : Option Addr) (E : List En) : Prop :=
 ∀ i (hi : i < E.length), ∃ b o, a = some ⟨b, o, none⟩ ∧ w.cell? ⟨b, o + i * 2, none⟩ = some (.string (E[i]).1) ∧ w.cell? ⟨b, o + i * 2 + 1, none⟩ = some (.int .i64 (E[i]).2)
def InoA (w : World) (a : Option Addr) (L : List Ino) : Prop :=
 ∀ i (hi : i < L.length), ∃ b o ae ce, a = some ⟨b, o, none⟩ ∧ w.cell? ⟨b, o + i * 4, none⟩ = some (.int .i64 (L[i]).num) ∧ w.cell? ⟨b, o + i * 4 + 1, none⟩ = some (.bool (L[i]).dir) ∧
   w.cell? ⟨b, o + i * 4 + 2, none⟩ = some (.slice ae (L[i]).ents.length ce) ∧ w.cell? ⟨b, o + i * 4 + 3, none⟩ = some (.string (L[i]).data) ∧ EntA w ae (L[i]).ents ∧ (L[i]).ents.length ≤ ce ∧ True
def DesA (w : World) (a : Option Addr) (D : List Ds) : Prop :=
 ∀ i (hi : i < D.length), ∃ b o, a = some ⟨b, o, none⟩ ∧ w.cell? ⟨b, o + i * 3, none⟩ = some (.int .i64 (D[i]).1) ∧ w.cell? ⟨b, o + i * 3 + 1, none⟩ = some (.int .i64 (D[i]).2.1) ∧ w.cell? ⟨b, o + i * 3 + 2, none⟩ = some (.int .i64 (D[i]).2.2)
def IntA (w : World) (a : Option Addr) (M : List Int) : Prop :=
 ∀ i (hi : i < M.length), ∃ b o, a = some ⟨b, o, none⟩ ∧ w.cell? ⟨b, o + i, none⟩ = some (.int .i64 M[i])
def lim : Nat := 140737488355328
structure Pl where
 a1 : Option Addr
 c1 : Nat
 a2 : Option Addr
 c2 : Nat
 a3 : Option Addr
 c3 : Nat
@[reducible] def sval (p : Pl) (S : Sta) : Value := .agg #[.slice p.a1 S.ino.length p.c1, .slice p.a2 S.opn.length p.c2, .slice p.a3 S.made.length p.c3]
structure Sv (w : World) (p : Pl) (S : Sta) : Prop where
 ino : InoA w p.a1 S.ino
 des : DesA w p.a2 S.opn
 mad : IntA w p.a3 S.made
 n1 : S.ino.length ≤ lim
 n2 : S.opn.length ≤ lim
 n3 : S.made.length ≤ lim
 n4 : ∀ x ∈ S.ino, x.ents.length ≤ lim
 w1 : ∀ x ∈ S.ino, x.num ≤ 9223372036854775807
 k1 : S.ino.length ≤ p.c1
 k2 : S.opn.length ≤ p.c2
 k3 : S.made.length ≤ p.c3
 f2 : True
 f3 : True
theorem EntA.kept {w w' : World} {a : Option Addr} {E : List En} (h : EntA w a E) (k : Kept [] w w') : EntA w' a E := fun i hi => by
 obtain ⟨b, o, e, h1, h2⟩ := h i hi
 exact ⟨b, o, e, k.cell h1 (by simp), k.cell h2 (by simp)⟩
theorem InoA.kept {w w' : World} {a : Option Addr} {L : List Ino} (h : InoA w a L) (k : Kept [] w w') : InoA w' a L := fun i hi => by
 obtain ⟨b, o, ae, ce, e, h1, h2, h3, h4, h5, h6⟩ := h i hi
 exact ⟨b, o, ae, ce, e, k.cell h1 (by simp), k.cell h2 (by simp), k.cell h3 (by simp), k.cell h4 (by simp), h5.kept k, h6⟩
theorem DesA.kept {w w' : World} {a : Option Addr} {D : List Ds} (h : DesA w a D) (k : Kept [] w w') : DesA w' a D := fun i hi => by
 obtain ⟨b, o, e, h1, h2, h3⟩ := h i hi
 exact ⟨b, o, e, k.cell h1 (by simp), k.cell h2 (by simp), k.cell h3 (by simp)⟩
theorem IntA.kept {w w' : World} {a : Option Addr} {M : List Int} (h : IntA w a M) (k : Kept [] w w') : IntA w' a M := fun i hi => by
 obtain ⟨b, o, e, h1⟩ := h i hi
 exact ⟨b, o, e, k.cell h1 (by simp)⟩
theorem Sv.kept {w w' : World} {p : Pl} {S : Sta} (h : Sv w p S) (k : Kept [] w w') : Sv w' p S :=
 ⟨h.ino.kept k, h.des.kept k, h.mad.kept k, h.n1, h.n2, h.n3, h.n4, h.w1, h.k1, h.k2, h.k3, h.f2, h.f3⟩
@[reducible] def sbox (p : Pl) (S : Sta) : Obj := .cells #[.slice p.a1 S.ino.length p.c1, .slice p.a2 S.opn.length p.c2, .slice p.a3 S.made.length p.c3] 26 (0, 0)
structure Bx (w0 w : World) (X : Nat) (p : Pl) (S : Sta) : Prop where
 sv : Sv w p S
 k : Kept [] w0 w
 x0 : w.cell? ⟨X, 0, none⟩ = some (.slice p.a1 S.ino.length p.c1)
 x1 : w.cell? ⟨X, 1, none⟩ = some (.slice p.a2 S.opn.length p.c2)
 x2 : w.cell? ⟨X, 2, none⟩ = some (.slice p.a3 S.made.length p.c3)
theorem cellB {w : World} {B i : Nat} {cs : Array Value} {t : TypeId} {z : Nat × Nat} (h : w.heap[B]? = some (.cells cs t z)) : w.cell? ⟨B, i, none⟩ = cs[i]? := by
 simp [World.cell?, h]
theorem cell_new (w : World) (cs : Array Value) (t : TypeId) (i : Nat) : (w.alloc (.cells cs t (0, 0))).cell? ⟨w.heap.size, i, none⟩ = cs[i]? :=
 cellB (Go.heap_alloc_new w (.cells cs t (0, 0)))
theorem Sv.boxed {w : World} {p : Pl} {S : Sta} (h : Sv w p S) : Bx w (w.alloc (sbox p S)) w.heap.size p S :=
 ⟨h.kept ((Kept.refl [] w).alloc _), (Kept.refl [] w).alloc _, cell_new _ _ _ _, cell_new _ _ _ _, cell_new _ _ _ _⟩
theorem Bx.kept {w0 w w' : World} {X : Nat} {p : Pl} {S : Sta} (h : Bx w0 w X p S) (k : Kept [] w w') : Bx w0 w' X p S :=
 ⟨h.sv.kept k, h.k.trans k (by simp), k.cell h.x0 (by simp), k.cell h.x1 (by simp), k.cell h.x2 (by simp)⟩
def atR (L : List Ino) (num : Int) : Option Nat := L.findIdx? fun x => x.num == num
def ixI : Option Nat → Int
 | none => -1
 | some i => (i : Int)
theorem at_some {L : List Ino} {num : Int} {n : Nat} (hn : n < L.length) (h : (L[n]).num = num) (hj : ∀ j (hj : j < L.length), j < n → (L[j]).num ≠ num) : atR L num = some n := by
 unfold atR
 rw [List.findIdx?_eq_some_iff_getElem]
 exact ⟨hn, by simpa using h, fun j hjn => by simpa using hj j (by omega) hjn⟩
theorem at_none {L : List Ino} {num : Int} (h : ∀ j (hj : j < L.length), (L[j]).num ≠ num) : atR L num = none := by
 unfold atR
 rw [List.findIdx?_eq_none_iff]
 intro x hx
 obtain ⟨j, hj, rfl⟩ := List.getElem_of_mem hx
 simpa using h j hj
theorem at_get {L : List Ino} {num : Int} {n : Nat} (h : atR L num = some n) : ∃ hn : n < L.length, (L[n]).num = num := by
 unfold atR at h
 rw [List.findIdx?_eq_some_iff_getElem] at h
 obtain ⟨hn, h1, -⟩ := h
 exact ⟨hn, by simpa using h1⟩
def cnt (E : List En) (num : Int) : Nat := E.countP fun e => e.2 == num
def linksR (L : List Ino) (num : Int) : Nat := (L.map fun x => if x.dir then cnt x.ents num else 0).sum
theorem cnt_take {E : List En} {num : Int} {n : Nat} (h : n < E.length) : cnt (E.take (n + 1)) num = cnt (E.take n) num + if (E[n]).2 = num then 1 else 0 := by
 unfold cnt
 rw [List.take_succ_eq_append_getElem h, List.countP_append]
 congr 1
 by_cases e : (E[n]).2 = num
 · simp [e]
 · simp [e]
theorem cnt_le (E : List En) (num : Int) : cnt E num ≤ E.length := List.countP_le_length
theorem links_take {L : List Ino} {num : Int} {n : Nat} (h : n < L.length) : linksR (L.take (n + 1)) num = linksR (L.take n) num + if (L[n]).dir then cnt (L[n]).ents num else 0 := by
 unfold linksR
 rw [List.take_succ_eq_append_getElem h, List.map_append, List.sum_append]
 simp
theorem links_le {L : List Ino} {num : Int} (hl : ∀ x ∈ L, x.ents.length ≤ lim) : linksR L num ≤ L.length * lim := by
 unfold linksR
 induction L with
 | nil => simp
 | cons x L ih =>
   have h1 := ih fun y hy => hl y (List.mem_cons_of_mem _ hy)
   have h2 := hl x (List.mem_cons_self ..)
   have h3 := cnt_le x.ents num
   simp only [List.map_cons, List.sum_cons, List.length_cons]
   have h4 : (if x.dir then cnt x.ents num else 0) ≤ lim := by split <;> omega
   rw [Nat.add_mul]
   omega
theorem links_big {L : List Ino} {num : Int} (hs : L.length ≤ 60000) (hl : ∀ x ∈ L, x.ents.length ≤ lim) : linksR L num ≤ 8444249301319680000 := by
 have e : 60000 * lim = 8444249301319680000 := by simp [lim]
 rw [← e]
 exact Nat.le_trans (links_le hl) (Nat.mul_le_mul_right lim hs)
end Go.Proofs.YtmeafancgmkfkaaGreatDoor
