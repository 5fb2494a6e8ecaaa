/-
  Joined of my texts Cl Pt Pv De Er.
-/
import Derived.Test.YtffncojcnbhblaaGreatDoorJd2
import Derived.Test.YtffncojcnbhblaaGreatDoorJd3
import Derived.Lib.LazyBuf
import Derived.Lib.UnsafeStr
import Derived.Lib.Builder
import Derived.Lib.AppendStr
import Derived.Laws.Externs
import Derived.BigRegion
import Derived.Test.YtffncojcnbhblaaGreatDoorJd1
import Derived.OwnWalk
import Derived.Deep.AppendLies
set_option linter.unusedVariables false
set_option linter.unusedSimpArgs false
set_option maxRecDepth 100000
set_option maxHeartbeats 8000000
namespace Go.Proofs.YtffncojcnbhblaaGreatDoor
open Go.RowKit
theorem kept_of_below {w w' : World} (h : Below w.heap.size w w') : Kept [] w w' := ⟨h.os, h.tape, h.output, h.size, fun k hk _ => h.block k hk⟩
theorem shape_setCell (w : World) (a : Addr) (v : Value) (r : Nat) : (w.setCell a v).shape? r = w.shape? r := by
 unfold World.shape? World.setCell
 simp only [Array.getElem?_modify]
 by_cases h : a.block = r
 ·
  subst h
  rw [if_pos rfl]
  cases w.heap[a.block]? with
  | none => rfl
  | some o =>
   cases o with
   | cells c e f => simp only [Option.map_some]; split <;> simp
   | _ => rfl
 · rw [if_neg h]
theorem shape_setCells (b r : Nat) : ∀ (vs : List Value) (o : Nat) (w : World), (w.setCells b o vs).shape? r = w.shape? r
 | [], _, _ => rfl
 | v :: l, o, w => by rw [World.setCells, shape_setCells b r l, shape_setCell]
theorem kept_setCells {w0 : World} {b : Nat} (hb : w0.heap.size ≤ b) : ∀ (vs : List Value) (o : Nat) (w : World), Kept [] w0 w → Kept [] w0 (w.setCells b o vs)
 | [], _, _, h => h
 | v :: l, o, w, h => kept_setCells hb l (o + 1) _ (h.setCell (Or.inr hb) v)
theorem size5 : ∀ w : World, (Go.sizeOf 5).run Tryz.prog w = .ok 1 w := fun w => by kernel_rfl
theorem cells5 : Tryz.prog.cellsOf 5 = 1 := by kernel_rfl
theorem lite_clone (s : ByteArray) (w : World) (hs : s.size ≤ 140737488351232) :
  Calls Tryz.prog 69 #[.string s] w fun e w' => e = .returned (.string s) ∧ Kept [] w w' := by
 by_cases h0 : s.size = 0
 ·
  have HS : Hid (s = ⟨#[]⟩) := ByteArray.ext (Array.eq_empty_of_size_eq_zero h0)
  have i0 : (s.size : Int) = 0 := by omega
  go_enter Tryz.func69, Tryz.ntmps69
  go_wp2_with fail
  go_ret
  exact ⟨congrArg (fun z => Ending.returned (.string z)) HS.out.symm, Kept.refl _ _⟩
 ·
  have i0 : ¬ (s.size : Int) = 0 := by omega
  have i1 : (0 : Int) < (s.size : Int) := by omega
  have hl : s.data.toList.length = s.size := by simp
  obtain ⟨n, hn⟩ : ∃ n, s.size = n := ⟨_, rfl⟩
  have hmk := make_bytes n (by omega)
  obtain ⟨W1, hW1⟩ : ∃ W1, w.alloc (.cells ((List.replicate n (0 : Int)).map (Value.int .u8)).toArray 5) = W1 := ⟨_, rfl⟩
  have hmk1 := hmk w
  rw [hW1] at hmk1
  have hB := Bs.made (Kept.refl [] w) n
  rw [hW1] at hB
  have hc : ∀ j, j < s.size → (W1.cell? ⟨w.heap.size, 0 + j, none⟩).isSome = true := fun j hj => by
   rw [Nat.zero_add, hB.cell (by simp; omega)]; rfl
  have hcp := run_copy_string (P := Tryz.prog) W1 133 9 3 5 w.heap.size 0 n n s Tryz.underlying133 size5 (by omega) hc (fun j hj => hB.frozen _)
  obtain ⟨W2, hW2⟩ : ∃ W2, W1.setCells w.heap.size 0 (s.data.toList.map fun x => Value.int .u8 (x.toNat : Int)) = W2 := ⟨_, rfl⟩
  rw [hW2] at hcp
  have hsh : W2.shape? w.heap.size = some (5, n) := by
   rw [← hW2, shape_setCells]
   unfold World.shape?
   rw [hB.here]
   simp
  have hus := Lib.run_unsafeString_row (P := Tryz.prog) W2 139 3 9 5 Tryz.underlying139 cells5 w.heap.size n hsh s.data.toList (by intro e; rw [e] at hl; simp at hl; omega) (by omega) (by omega) (fun j x hx => by
   have hj : j < s.size := by
    rcases Nat.lt_or_ge j s.data.toList.length with h | h
    · omega
    · rw [List.getElem?_eq_none h] at hx; cases hx
   have ea : (⟨w.heap.size, 0, none⟩ : Addr).add j = ⟨w.heap.size, 0 + j, none⟩ := by unfold Addr.add; split <;> simp_all
   rw [ea, ← hW2, World.cell?_setCells_in w.heap.size _ 0 W1 (fun i hi => hc i (by simpa using hi)) j (by simpa using hj)]
   congr 1
   rw [List.getElem_map]
   rw [List.getElem?_eq_getElem (by omega)] at hx
   rw [Option.some.inj hx])
  rw [hl, hn] at hus
  rw [hn, show goInt n = .int .i64 (n : Int) from rfl] at hcp
  have es : (⟨s.data.toList.toArray⟩ : ByteArray) = s := rfl
  rw [es] at hus
  obtain ⟨W3, hW3⟩ : ∃ W3, W2.freeze ⟨w.heap.size, 0, none⟩ n = W3 := ⟨_, rfl⟩
  rw [hW3] at hus
  have HK : Hid (Kept [] w W3) := by
   have h2 : Kept [] w W2 := by rw [← hW2]; exact kept_setCells (Nat.le_refl _) _ _ _ hB.kept
   have h3 := Lib.below_freeze (B := w.heap.size) (Kept.below h2 (Nat.le_refl _) (by simp)) (p := ⟨w.heap.size, 0, none⟩) (Nat.le_refl _) n
   rw [hW3] at h3
   exact kept_of_below h3
  rw [hn] at i0 i1
  have hn2 : s.size = n := hn
  have hn63 : n ≤ 9223372036854775807 := by omega
  clear hW1 hW2 hW3 hB hc hsh hmk es hl h0 hn
  go_enter Tryz.func69, Tryz.ntmps69
  go_wp2_with fail
  go_ret
  exact ⟨rfl, HK.out⟩
theorem s_clone (s : ByteArray) (w : World) (hs : s.size ≤ 140737488351232) :
  Calls Tryz.prog 45 #[.string s] w fun e w' => e = .returned (.string s) ∧ Kept [] w w' := by
 go_enter Tryz.func45, Tryz.ntmps45
 go_wp2_with fail
 refine (lite_clone s _ hs).mono ?_
 rintro e w1 ⟨rfl, hk⟩
 have HK : Hid (_) := hk
 clear hk
 go_wp2_with fail
 go_ret
 exact ⟨rfl, HK.out⟩
theorem tx_at {xs : List ByteArray} {i : Nat} (h : i < xs.length) : xs[i]? = some (tx xs i) := by
 unfold tx
 rw [List.getD_eq_getElem?_getD, List.getElem?_eq_getElem h]
 rfl
theorem It.turnF {w0 W W' : World} {s : ByteArray} {j : Nat} {F : List Nat} (h : It w0 W s j) (k : Kept F W W') (hF : ∀ x ∈ F, w0.heap.size < x) : It w0 W' s j :=
 ⟨h.kept.trans k (fun x hx => Or.inr (by have := hF x hx; omega)), (k.block _ (lt_of_heap h.here) (fun hm => by have := hF _ hm; omega)).trans h.here⟩
theorem iterTo_other {W : World} {b k : Nat} {s : ByteArray} {j : Nat} (h : k ≠ b) : (iterTo W b s j).heap[k]? = W.heap[k]? := by
 show (W.heap.setIfInBounds b _)[k]? = _
 rw [Array.getElem?_setIfInBounds, if_neg (by omega)]
theorem Sr.slice {w : World} {H : Nat} {v : Value} {xs : List ByteArray} (h : Sr w H v xs) : ∃ a n c, v = .slice a n c := by
 obtain ⟨a, c, rfl, -⟩ := h.read
 exact ⟨_, _, _, rfl⟩
theorem p_cut (s : ByteArray) (w : World) (hs : s.size ≤ 64) :
  Calls Tryz.prog 70 #[.string s] w fun e w' => ∃ v, e = .returned v ∧ Sr w' w.heap.size v (segs s 0 0) ∧ Kept [] w w' := by
 have hs63 : (s.size : Int) ≤ 64 := by omega
 go_enter Tryz.func70, Tryz.ntmps70
 go_wp2_with fail
 go_loopw [3, 4] (fun v f wr => ∃ (j fr : Nat) (a : Option Addr) (n c : Nat), v = .slice a n c ∧ f = .int .i64 (fr : Int) ∧ fr ≤ j ∧ j ≤ s.size ∧ Hid (It w wr s j) ∧ Hid (∃ xs, Sr wr (w.heap.size + 1) (.slice a n c) xs ∧ xs ++ segs s fr j = segs s 0 0 ∧ xs.length ≤ j)) (fun _ _ wr => s.size - wr.iterPos w.heap.size)
 case atStart => exact ⟨0, 0, _, _, _, rfl, rfl, by omega, by omega, It.begin w s, [], Sr.nil _ _, rfl, by simp⟩
 case round =>
  obtain ⟨j, fr, a, n, c, rfl, rfl, hfj, hj, HI, HX⟩ := hrel
  by_cases hlt : j < s.size
  ·
   have hnx := next_at HI.out.here hlt
   have hst := step_le hlt
   obtain ⟨W1, hW1⟩ : ∃ W1, iterTo wr w.heap.size s (j + max (one s j).2 1) = W1 := ⟨_, rfl⟩
   have hI1 : It w W1 s (j + max (one s j).2 1) := by rw [← hW1]; exact HI.out.next _
   rw [hW1] at hnx
   obtain ⟨xs, hS, hseg, hxl⟩ := HX.out
   have hS1 : Sr W1 (w.heap.size + 1) (.slice a n c) xs := hS.same fun k hk => by
    have := (hS.block k hk).1
    rw [← hW1]
    exact iterTo_other (by omega)
   have HP : Hid (wr.iterPos w.heap.size = j) := HI.out.pos
   by_cases h47 : (one s j).1 = 47
   ·
    have HS : Hid (Sr W1 (w.heap.size + 1) (.slice a n c) xs ∧ xs ++ [s.extract fr j] ++ segs s (j + 1) (j + max (one s j).2 1) = segs s 0 0 ∧ xs.length ≤ j) := ⟨hS1, by rw [List.append_assoc, List.singleton_append, ← segs_mark hlt h47]; exact hseg, hxl⟩
    have HJ : Hid (It w W1 s (j + max (one s j).2 1)) := hI1
    have hmx : max (one s j).2 1 = 1 := by rw [(one_stroke h47).2]; rfl
    rw [h47] at hnx
    clear hI1 hW1 HI HX hS hS1 hseg hxl h47
    rw [hmx] at HS HJ hst
    clear hmx
    have hzx : (s.extract fr j).size ≤ 140737488351232 := by rw [ByteArray.size_extract]; omega
    have j1 : (fr : Int) ≤ (j : Int) := by omega
    have j2 : (j : Int) ≤ (s.size : Int) := by omega
    go_wp2_with fail
    refine (s_clone (s.extract fr j) W1 hzx).mono ?_
    rintro e w2 ⟨rfl, hk⟩
    obtain ⟨v', w', hr, h2, h3⟩ := append_text (HS.out.1.kept hk) (by have := HJ.out.kept.size; have := lt_of_heap HJ.out.here; have := hk.size; omega) (s.extract fr j) (by have := HS.out.2.2; omega) 29
    have HE : Hid (It w w' s (j + 1) ∧ ∃ ys, Sr w' (w.heap.size + 1) v' ys ∧ ys ++ segs s (j + 1) (j + 1) = segs s 0 0 ∧ ys.length ≤ j + 1) := ⟨(HJ.out.turn hk).turnF h3 (fun x hx => by
      have := ((HS.out.1.kept hk).block x (by simpa using hx)).1
      omega), _, h2, HS.out.2.1, by rw [List.length_append, List.length_singleton]; have := HS.out.2.2; omega⟩
    have HA : Hid (_) := hr
    obtain ⟨va, vn, vc, hv⟩ := h2.slice
    subst hv
    clear hr h2 h3 hk HS HJ
    go_wp2_with (at_builtin; refine wpList_append_run _ rfl _ _ 29 29 rfl _ _ rfl rfl _ _ HA.out ?_)
    go_roundw
    case rel => exact ⟨j + 1, j + 1, _, _, _, rfl, by go_num, by omega, by omega, HE.out.1, HE.out.2⟩
    case measure =>
     have m1 := HE.out.1.pos
     have m2 := HP.out
     simp only [m1, m2]
     omega
   ·
    have HS : Hid (Sr W1 (w.heap.size + 1) (.slice a n c) xs ∧ xs ++ segs s fr (j + max (one s j).2 1) = segs s 0 0 ∧ xs.length ≤ j + max (one s j).2 1) := ⟨hS1, by rw [← segs_rune hlt h47]; exact hseg, by omega⟩
    have HJ : Hid (It w W1 s (j + max (one s j).2 1)) := hI1
    obtain ⟨r, hr⟩ : ∃ r, (one s j).1 = r := ⟨_, rfl⟩
    rw [hr] at hnx h47
    have hrb : (r == 47) = false := by simpa using h47
    clear hI1 hW1 HI HX hS hS1 hseg hxl hr
    have hps := step_pos s j
    obtain ⟨m, hm⟩ : ∃ m, max (one s j).2 1 = m := ⟨_, rfl⟩
    rw [hm] at HS HJ hst hps
    clear hm
    go_wp2_with fail
    go_roundw
    case rel => exact ⟨j + m, fr, _, _, _, rfl, rfl, by omega, by omega, HJ.out, xs, HS.out⟩
    case measure =>
     have m1 := HJ.out.pos
     have m2 := HP.out
     simp only [m1, m2]
     omega
  ·
   have hnx := next_none HI.out.here hlt
   obtain ⟨xs, hS, hseg, hxl⟩ := HX.out
   have HS : Hid (Sr wr (w.heap.size + 1) (.slice a n c) xs ∧ xs ++ [s.extract fr s.size] = segs s 0 0 ∧ xs.length ≤ j) := ⟨hS, by rw [← segs_end hlt]; exact hseg, hxl⟩
   have HJ : Hid (It w wr s j) := HI.out
   clear HI HX hS hseg hxl
   have hzx : (s.extract fr s.size).size ≤ 140737488351232 := by rw [ByteArray.size_extract]; omega
   have j1 : (fr : Int) ≤ (s.size : Int) := by omega
   go_wp2_with fail
   refine (s_clone (s.extract fr s.size) wr hzx).mono ?_
   rintro e w2 ⟨rfl, hk⟩
   obtain ⟨v', w', hr, h2, h3⟩ := append_text (HS.out.1.kept hk) (by have := HJ.out.kept.size; have := lt_of_heap HJ.out.here; have := hk.size; omega) (s.extract fr s.size) (by have := HS.out.2.2; omega) 29
   have HE : Hid (Sr w' w.heap.size v' (segs s 0 0) ∧ Kept [] w w') := ⟨by
     rw [← HS.out.2.1]
     exact h2.less (by omega), ((HJ.out.turn hk).turnF h3 (fun x hx => by
     have := ((HS.out.1.kept hk).block x (by simpa using hx)).1
     omega)).kept⟩
   have HA : Hid (_) := hr
   obtain ⟨va, vn, vc, hv⟩ := h2.slice
   subst hv
   clear hr h2 h3 hk HS HJ
   go_wp2_with (at_builtin; refine wpList_append_run _ rfl _ _ 29 29 rfl _ _ rfl rfl _ _ HA.out ?_)
   go_ret
   exact ⟨_, rfl, HE.out⟩
def pieceErr (p : ByteArray) : Int := if chk p = 0 then 0 else if chk p = 801 then 1101 else 1100
theorem first_cons (p : ByteArray) (l : List ByteArray) : firstErr (p :: l) = if pieceErr p = 0 then firstErr l else pieceErr p := by
 rw [firstErr]
 unfold pieceErr
 split
 · simp
 split
 · simp
 · simp
theorem p_piece (s : ByteArray) (w : World) (hT : Tab w) :
  Calls Tryz.prog 71 #[.string s] w fun e w' => e = .returned (.int .i64 (pieceErr s)) ∧ Kept [] w w' := by
 have HC : Hid (_) := n_check s w hT
 have hany := chk_any s
 clear hT
 unfold pieceErr
 obtain ⟨z, hz⟩ : ∃ z, chk s = z := ⟨_, rfl⟩
 rw [hz] at HC hany ⊢
 clear hz
 go_enter Tryz.func71, Tryz.ntmps71
 go_wp2_with fail
 refine Calls.mono HC.out ?_
 rintro e w1 ⟨rfl, hk⟩
 have HK : Hid (_) := hk
 clear hk HC
 rcases hany with rfl | rfl | rfl
 ·
  go_wp2_with fail
  go_ret
  exact ⟨rfl, HK.out⟩
 ·
  go_wp2_with fail
  go_ret
  exact ⟨rfl, HK.out⟩
 ·
  go_wp2_with fail
  go_ret
  exact ⟨rfl, HK.out⟩
theorem first_drop {l : List ByteArray} {j : Nat} (h : j < l.length) : firstErr (l.drop j) = if pieceErr (tx l j) = 0 then firstErr (l.drop (j + 1)) else pieceErr (tx l j) := by
 have : l.drop j = tx l j :: l.drop (j + 1) := by
  rw [List.drop_eq_getElem_cons h]
  congr 1
  have := tx_at h
  rw [List.getElem?_eq_getElem h] at this
  exact Option.some.inj this
 rw [this, first_cons]
def Parsed (s : ByteArray) (w : World) (e : Ending) (w' : World) : Prop :=
 ∃ v, e = .returned (.tuple #[v, .int .i64 (parseR s).2]) ∧ Sr w' w.heap.size v (parseR s).1 ∧ Kept [] w w'
theorem Parsed.mk {s : ByteArray} {w w' : World} {v : Value} {x : Int} {l : List ByteArray} (h : parseR s = (l, x)) (hS : Sr w' w.heap.size v l) (hk : Kept [] w w') : Parsed s w (.returned (.tuple #[v, .int .i64 x])) w' :=
 ⟨v, by rw [h], by rw [h]; exact hS, hk⟩
theorem at8_val {s : ByteArray} {i : Nat} (h : i < s.size) : (s[i]'h).toNat = at8 s i := (at8_get s i h).symm
theorem p_parse (s : ByteArray) (w : World) (hT : Tab w) : Calls Tryz.prog 46 #[.string s] w (Parsed s w) := by
 by_cases hl : 64 < s.size
 ·
  have i0 : (64 : Int) < (s.size : Int) := by omega
  have HP : Hid (parseR s = ([], 1101)) := by show parseR s = _; unfold parseR; rw [if_pos hl]
  clear hT
  go_enter Tryz.func46, Tryz.ntmps46
  go_wp2_with fail
  go_ret2
  exact Parsed.mk HP.out (Sr.nil _ _) (Kept.refl _ _)
 have i0 : ¬ (64 : Int) < (s.size : Int) := by omega
 by_cases h0 : s.size = 0
 ·
  have HP : Hid (parseR s = ([], 1100)) := by show parseR s = _; unfold parseR; rw [if_neg hl, if_pos (Or.inl h0)]
  have t1 : s.toList.isEmpty = true := by
   rw [List.isEmpty_iff]
   apply List.eq_nil_of_length_eq_zero
   rw [ByteArray.toList_eq]; simpa using h0
  clear hT
  go_enter Tryz.func46, Tryz.ntmps46
  go_wp2_with fail
  go_ret2
  exact Parsed.mk HP.out (Sr.nil _ _) (Kept.refl _ _)
 have hpos : 0 < s.size := by omega
 have i1 : (0 : Int) < (s.size : Int) := by omega
 have t1 : s.toList.isEmpty = false := by
  rw [← Bool.not_eq_true, List.isEmpty_iff]
  intro e
  have : s.toList.length = s.size := by rw [ByteArray.toList_eq]; simp
  rw [e] at this
  simp at this
  omega
 have hv := at8_val hpos
 by_cases h47 : at8 s 0 ≠ 47
 ·
  have HP : Hid (parseR s = ([], 1100)) := by show parseR s = _; unfold parseR; rw [if_neg hl, if_pos (Or.inr h47)]
  have hv1 : ¬ (s[0]'hpos).toNat = 47 := by rw [hv]; exact h47
  have hv2 : ¬ ((s[0]'hpos).toNat : Int) = 47 := by omega
  clear hT hv
  go_enter Tryz.func46, Tryz.ntmps46
  go_wp2_with fail
  go_ret2
  exact Parsed.mk HP.out (Sr.nil _ _) (Kept.refl _ _)
 have h47 : at8 s 0 = 47 := by omega
 rw [h47] at hv
 have hv1 : (s[0]'hpos).toNat = 47 := hv
 have hv2 : ((s[0]'hpos).toNat : Int) = 47 := by omega
 by_cases h1 : s.size = 1
 ·
  have HP : Hid (parseR s = ([], 0)) := by show parseR s = _; unfold parseR; rw [if_neg hl, if_neg (by omega), if_pos h1]
  have t2 : (s.extract 1 s.size).toList.isEmpty = true := by
   rw [List.isEmpty_iff]
   apply List.eq_nil_of_length_eq_zero
   rw [ByteArray.toList_eq]
   show (s.extract 1 s.size).size = 0
   rw [ByteArray.size_extract]; omega
  have i2 : (1 : Int) ≤ (s.size : Int) := by omega
  clear hT
  go_enter Tryz.func46, Tryz.ntmps46
  go_wp2_with fail
  go_ret2
  exact Parsed.mk HP.out (Sr.nil _ _) (Kept.refl _ _)
 have hbz : (s.extract 1 s.size).size ≤ 64 := by rw [ByteArray.size_extract]; omega
 have t2 : (s.extract 1 s.size).toList.isEmpty = false := by
  rw [← Bool.not_eq_true, List.isEmpty_iff]
  intro e
  have : (s.extract 1 s.size).toList.length = (s.extract 1 s.size).size := by rw [ByteArray.toList_eq]; simp
  rw [e, ByteArray.size_extract] at this
  simp at this
  omega
 have i2 : (1 : Int) ≤ (s.size : Int) := by omega
 have HR : Hid (∀ xs, xs = segs s 1 1 → parseR s = if firstErr xs ≠ 0 then ([], firstErr xs) else if 4 < xs.length then ([], 1102) else (xs, 0)) := by
  show ∀ xs, _
  intro xs hx
  subst hx
  unfold parseR
  rw [if_neg hl, if_neg (by omega), if_neg h1]
 have HB : Hid (segs (s.extract 1 s.size) 0 0 = segs s 1 1) := segs_below s (by omega)
 have hlen := segs_len s 64 1 1 (by omega)
 have HT : Hid (Tab w) := hT
 clear hT hl h0 h47 h1
 go_enter Tryz.func46, Tryz.ntmps46
 go_wp2_with fail
 refine (p_cut (s.extract 1 s.size) w hbz).mono ?_
 rintro e w1 ⟨v, rfl, hS, hk⟩
 rw [HB.out] at hS
 obtain ⟨xs, hxs⟩ : ∃ xs, xs = segs s 1 1 := ⟨_, rfl⟩
 rw [← hxs] at hS hlen
 have HR1 : Hid (_) := HR.out xs hxs
 clear HR HB hxs
 obtain ⟨a, c, hva, hread, -⟩ := hS.read
 obtain ⟨n, hn⟩ : ∃ n, xs.length = n := ⟨_, rfl⟩
 rw [hn] at hva
 subst hva
 have HQ : Hid (Sr w1 w.heap.size (.slice a n c) xs ∧ Ss w1 a xs ∧ Kept [] w w1 ∧ Tab w1) := ⟨hS, hread, hk, HT.out.kept hk⟩
 have HN : Hid (n = xs.length) := hn.symm
 rw [hn] at hlen
 clear hS hread hk HT hn hv hv1 hv2 t1 t2 hbz
 go_wp2_with fail
 go_loopw [27] (fun s wr => ∃ (j : Nat), s = .int .i64 (j : Int) ∧ j ≤ n ∧ Hid (Kept [] w1 wr ∧ firstErr (xs.drop j) = firstErr xs)) (fun s _ => (n - intOf s).toNat)
 case atStart => exact ⟨0, rfl, by omega, Kept.refl _ _, rfl⟩
 case round =>
  obtain ⟨j, rfl, hj, HJ⟩ := hrel
  by_cases hlt : j < n
  ·
   have k1 : (j : Int) < (n : Int) := by omega
   obtain ⟨b1, o1, rfl, c1⟩ := (HQ.out.2.1.kept HJ.out.1).2 j (by have := HN.out; omega)
   have hfd := first_drop (l := xs) (j := j) (by have := HN.out; omega)
   have hpc := p_piece (tx xs j) wr (HQ.out.2.2.2.kept HJ.out.1)
   obtain ⟨x, hx⟩ : ∃ x, tx xs j = x := ⟨_, rfl⟩
   rw [hx] at c1 hpc hfd
   have HP : Hid (_) := hpc
   clear hpc hx
   by_cases hp : pieceErr x = 0
   ·
    rw [if_pos hp] at hfd
    have HF : Hid (firstErr (xs.drop (j + 1)) = firstErr xs) := hfd.symm.trans HJ.out.2
    rw [hp] at HP
    clear hfd hp
    go_wp2_with fail
    refine Calls.mono HP.out ?_
    rintro e w2 ⟨rfl, hk⟩
    have HK : Hid (_) := HJ.out.1.trans hk (by simp)
    clear hk
    go_wp2_with fail
    go_roundw
    case rel => exact ⟨j + 1, by go_num, by omega, HK.out, HF.out⟩
    case measure => simp [intOf]; omega
   ·
    rw [if_neg hp] at hfd
    have HF : Hid (pieceErr x = firstErr xs) := hfd.symm.trans HJ.out.2
    obtain ⟨z, hz⟩ : ∃ z, pieceErr x = z := ⟨_, rfl⟩
    rw [hz] at HP HF hp
    have hpb : (z == 0) = false := by simpa using hp
    clear hfd hz
    go_wp2_with fail
    refine Calls.mono HP.out ?_
    rintro e w2 ⟨rfl, hk⟩
    have HK : Hid (_) := HQ.out.2.2.1.trans (HJ.out.1.trans hk (by simp)) (by simp)
    have HE : Hid (parseR s = ([], z)) := by
     show parseR s = _
     rw [HR1.out, ← HF.out, if_pos hp]
    clear hk HP
    go_wp2_with fail
    go_ret2
    exact Parsed.mk HE.out (Sr.nil _ _) (HK.out)
  ·
   have k1 : ¬ (j : Int) < (n : Int) := by omega
   have HF : Hid (firstErr xs = 0) := by
    have := HJ.out.2
    rw [List.drop_of_length_le (by have := HN.out; omega)] at this
    exact this.symm
   have HK : Hid (_) := HQ.out.2.2.1.trans HJ.out.1 (by simp)
   by_cases h4 : 4 < n
   ·
    have k2 : (4 : Int) < (n : Int) := by omega
    have HE : Hid (parseR s = ([], 1102)) := by
     show parseR s = _
     rw [HR1.out, HF.out, if_neg (by simp), if_pos (by have := HN.out; omega)]
    go_wp2_with fail
    go_ret2
    exact Parsed.mk HE.out (Sr.nil _ _) (HK.out)
   ·
    have k2 : ¬ (4 : Int) < (n : Int) := by omega
    have HE : Hid (parseR s = (xs, 0)) := by
     show parseR s = _
     rw [HR1.out, HF.out, if_neg (by simp), if_neg (by have := HN.out; omega)]
    have HS : Hid (Sr wr w.heap.size (.slice a n c) xs) := HQ.out.1.kept HJ.out.1
    go_wp2_with fail
    go_ret2
    exact Parsed.mk HE.out (HS.out) (HK.out)
theorem tx_mem {l : List ByteArray} {j : Nat} (h : j < l.length) : tx l j ∈ l := List.mem_of_getElem? (tx_at h)
def Printed (l : List ByteArray) (w : World) (e : Ending) (w' : World) : Prop :=
 e = .returned (.tuple #[.string (printR l).1, .int .i64 (printR l).2]) ∧ Kept [] w w'
theorem Printed.mk {l : List ByteArray} {w w' : World} {t : ByteArray} {x : Int} (h : printR l = (t, x)) (hk : Kept [] w w') : Printed l w (.returned (.tuple #[.string t, .int .i64 x])) w' :=
 ⟨by rw [h], hk⟩
def codes (e : Int) : Prop := e = 0 ∨ e = 1100 ∨ e = 1101 ∨ e = 1102
theorem first_code (l : List ByteArray) : codes (firstErr l) := by
 unfold codes
 induction l with
 | nil => exact Or.inl rfl
 | cons p l ih =>
  rw [firstErr]
  split
  · exact ih
  split
  · simp
  · simp
theorem parse_code (s : ByteArray) : codes (parseR s).2 := by
 unfold parseR
 split
 · simp [codes]
 split
 · simp [codes]
 split
 · simp [codes]
 split
 · exact first_code _
 split
 · simp [codes]
 · simp [codes]
theorem p_code (e : Int) (he : codes e) (w : World) : Calls Tryz.prog 47 #[.int .i64 e] w fun r w' => r = .returned (.int .i64 (codeR e)) ∧ w' = w := by
 rcases he with rfl | rfl | rfl | rfl
 ·
  go_enter Tryz.func47, Tryz.ntmps47
  go_wp2_with fail
  go_ret
  exact ⟨rfl, rfl⟩
 ·
  go_enter Tryz.func47, Tryz.ntmps47
  go_wp2_with fail
  go_ret
  exact ⟨rfl, rfl⟩
 ·
  go_enter Tryz.func47, Tryz.ntmps47
  go_wp2_with fail
  go_ret
  exact ⟨rfl, rfl⟩
 ·
  go_enter Tryz.func47, Tryz.ntmps47
  go_wp2_with fail
  go_ret
  exact ⟨rfl, rfl⟩
def lx : List UInt8 → List UInt8 → Bool
 | [], [] => false
 | [], _ :: _ => true
 | _ :: _, [] => false
 | a :: l, b :: m => decide (a.toNat < b.toNat) || (decide (a.toNat = b.toNat) && lx l m)
theorem lx_cons (a b : UInt8) (l m : List UInt8) : lx (a :: l) (b :: m) = true ↔ a.toNat < b.toNat ∨ (a.toNat = b.toNat ∧ lx l m = true) := by
 rw [lx, Bool.or_eq_true, Bool.and_eq_true, decide_eq_true_eq, decide_eq_true_eq]
theorem lx_irrefl (l : List UInt8) : lx l l = false := by
 induction l with
 | nil => rfl
 | cons a l ih => rw [← Bool.not_eq_true, lx_cons, ih]; simp
theorem lx_trans (l : List UInt8) : ∀ m n, lx l m = true → lx m n = true → lx l n = true := by
 induction l with
 | nil =>
  intro m n h1 h2
  cases m with
  | nil => simp [lx] at h1
  | cons b m => cases n with
   | nil => simp [lx] at h2
   | cons c n => rfl
 | cons a l ih =>
  intro m n h1 h2
  cases m with
  | nil => simp [lx] at h1
  | cons b m => cases n with
   | nil => simp [lx] at h2
   | cons c n =>
    rw [lx_cons] at h1 h2 ⊢
    rcases h1 with h1 | ⟨h1, h3⟩
    ·
     rcases h2 with h2 | ⟨h2, h4⟩
     · exact Or.inl (by omega)
     · exact Or.inl (by omega)
    ·
     rcases h2 with h2 | ⟨h2, h4⟩
     · exact Or.inl (by omega)
     · exact Or.inr ⟨by omega, ih m n h3 h4⟩
theorem lx_tri (l : List UInt8) : ∀ m, l = m ∨ lx l m = true ∨ lx m l = true := by
 induction l with
 | nil => intro m; cases m with
  | nil => exact Or.inl rfl
  | cons b m => exact Or.inr (Or.inl rfl)
 | cons a l ih =>
  intro m
  cases m with
  | nil => exact Or.inr (Or.inr rfl)
  | cons b m =>
   rw [lx_cons, lx_cons]
   rcases Nat.lt_trichotomy a.toNat b.toNat with h | h | h
   · exact Or.inr (Or.inl (Or.inl h))
   ·
    rcases ih m with h1 | h1 | h1
    · exact Or.inl (by rw [UInt8.toNat_inj.1 h, h1])
    · exact Or.inr (Or.inl (Or.inr ⟨h, h1⟩))
    · exact Or.inr (Or.inr (Or.inr ⟨h.symm, h1⟩))
   · exact Or.inr (Or.inr (Or.inl h))
theorem lx_drop_lt {l m : List UInt8} {i : Nat} (hi : i < l.length) (hj : i < m.length) (h : l[i].toNat ≠ m[i].toNat) : lx (l.drop i) (m.drop i) = decide (l[i].toNat < m[i].toNat) := by
 rw [List.drop_eq_getElem_cons hi, List.drop_eq_getElem_cons hj, lx]
 simp [h]
theorem lx_drop_eq {l m : List UInt8} {i : Nat} (hi : i < l.length) (hj : i < m.length) (h : l[i].toNat = m[i].toNat) : lx (l.drop i) (m.drop i) = lx (l.drop (i + 1)) (m.drop (i + 1)) := by
 rw [List.drop_eq_getElem_cons hi, List.drop_eq_getElem_cons hj, lx]
 simp [h]
theorem lx_drop_end {l m : List UInt8} {i : Nat} (h : l.length ≤ i ∨ m.length ≤ i) : lx (l.drop i) (m.drop i) = decide (l.length ≤ i ∧ i < m.length) := by
 by_cases h1 : l.length ≤ i
 ·
  rw [List.drop_eq_nil_of_le h1]
  by_cases h2 : m.length ≤ i
  · rw [List.drop_eq_nil_of_le h2]; simp [lx]; omega
  · rw [List.drop_eq_getElem_cons (by omega)]; simp [lx]; omega
 ·
  have h2 : m.length ≤ i := by omega
  rw [List.drop_eq_nil_of_le h2, List.drop_eq_getElem_cons (show i < l.length by omega)]
  simp [lx]; omega
def below (a b : ByteArray) : Bool := lx a.toList b.toList
theorem toList_inj {a b : ByteArray} (h : a.toList = b.toList) : a = b := by
 rw [ByteArray.toList_eq, ByteArray.toList_eq] at h
 apply ByteArray.ext
 exact Array.toList_inj.1 h
theorem below_irrefl (a : ByteArray) : below a a = false := lx_irrefl _
theorem below_trans {a b c : ByteArray} (h : below a b = true) (k : below b c = true) : below a c = true := lx_trans _ _ _ h k
theorem below_tri (a b : ByteArray) : a = b ∨ below a b = true ∨ below b a = true := by
 rcases lx_tri a.toList b.toList with h | h
 · exact Or.inl (toList_inj h)
 · exact Or.inr h
abbrev En := ByteArray × Int
def bkt (s : ByteArray) : Int := hashL (rs s 0) 7 % 8
theorem bkt_range (s : ByteArray) : 0 ≤ bkt s ∧ bkt s < 8 := by unfold bkt; omega
def many (E : List En) (b : Int) (but : ByteArray) : Nat := (E.filter fun e => decide (e.1 ≠ but) && bkt e.1 == b).length
def flat (E : List En) : List Value := E.flatMap fun e => [.string e.1, .int .i64 e.2]
theorem flat_length (E : List En) : (flat E).length = E.length * 2 := by
 unfold flat
 induction E with
 | nil => rfl
 | cons x E ih => simp at ih ⊢; omega
theorem flat_append (E F : List En) : flat (E ++ F) = flat E ++ flat F := by simp [flat]
theorem flat_get (E : List En) : ∀ i x, E[i]? = some x → (flat E)[i * 2]? = some (.string x.1) ∧ (flat E)[i * 2 + 1]? = some (.int .i64 x.2) := by
 induction E with
 | nil => intro i x h; simp at h
 | cons y E ih =>
  intro i x h
  cases i with
  | zero => simp at h; subst h; simp [flat]
  | succ i =>
   have := ih i x (by simpa using h)
   have e : flat (y :: E) = .string y.1 :: .int .i64 y.2 :: flat E := by simp [flat]
   rw [e, show (i + 1) * 2 = i * 2 + 1 + 1 by omega]
   simpa using this
theorem flat_one (E : List En) : ∀ u ∈ flat E, u.oneCell' = true := by
 intro u hu
 unfold flat at hu
 rw [List.mem_flatMap] at hu
 obtain ⟨e, _, he⟩ := hu
 simp at he
 rcases he with rfl | rfl <;> rfl
def Er (T : TypeId) (w : World) (H : Nat) (v : Value) (E : List En) : Prop := w.ownsRow H T 2 v E.length (flat E)
theorem Er.nil (T : TypeId) (w : World) (H : Nat) : Er T w H (.slice none 0 0) [] := World.ownsRow_nil w H T 2
theorem Er.block {T : TypeId} {w : World} {H : Nat} {v : Value} {E : List En} (h : Er T w H v E) : ∀ k, v.ownBlock = some k → H ≤ k ∧ k < w.heap.size := World.ownsRow.lt h
theorem Er.same {T : TypeId} {w w' : World} {H : Nat} {v : Value} {E : List En} (h : Er T w H v E) (hk : ∀ k, v.ownBlock = some k → w'.heap[k]? = w.heap[k]?) : Er T w' H v E := by
 refine ⟨h.1, ?_⟩
 rcases h.2 with hn | ⟨g, cap, cur, rfl, hb, hgg, rest⟩
 · exact .inl hn
 · exact .inr ⟨g, cap, cur, rfl, hb, by rw [hk g rfl]; exact hgg, rest⟩
theorem Er.kept {T : TypeId} {w w' : World} {H : Nat} {v : Value} {E : List En} {F : List Nat} (h : Er T w H v E) (k : Kept F w w') (hF : ∀ x ∈ F, v.ownBlock ≠ some x) : Er T w' H v E :=
 h.same fun x hx => k.block x (h.block x hx).2 (fun hm => hF x hm hx)
end Go.Proofs.YtffncojcnbhblaaGreatDoor
