/-
  Joined of my texts Rk Fw Laid.
-/
import Derived.Test.YtmeafancgmkfkaaGreatDoorJf1
import Derived.Test.YtmeafancgmkfkaaGreatDoorJf45
import Derived.Test.YtmeafancgmkfkaaGreatDoorJf49
import Derived.BigQuiet
import Derived.Test.YtmeafancgmkfkaaGreatDoorJf3
import Derived.ProofKit
import Derived.LaidMore
import Derived.OpenShut
import Derived.Lay
import Derived.Stop.Joined
namespace Go.Proofs.YtmeafancgmkfkaaGreatDoor
open Go.RowKit
set_option linter.unusedVariables false
set_option maxRecDepth 100000 in
set_option maxHeartbeats 1000000 in
theorem f_hash (s : ByteArray) (w : World) (hs : s.size ≤ 9223372036854775000) :
   Calls Tryz.prog 33 #[.string s] w fun e w' => e = .returned (.int .i64 (hashL (rs s 0) 7)) ∧ w' = w := by
 go_enter Tryz.func33, Tryz.ntmps33
 go_wp2_with fail
 go_loopw [3, 4] (fun h i wr => ∃ (z : Int) (j : Nat), h = .int .i64 z ∧ i = .int .i64 (j : Int) ∧ 0 ≤ z ∧ z < 4294967296 ∧ j ≤ s.size ∧ Hid (wr = w ∧ hashL (rs s j) z = hashL (rs s 0) 7)) (fun _ i _ => (s.size - intOf i).toNat)
 case atStart => exact ⟨7, 0, rfl, rfl, by omega, by omega, by omega, rfl, rfl⟩
 case round =>
   obtain ⟨z, j, rfl, rfl, hz, hz2, hj, HJ⟩ := hrel
   obtain ⟨hw, hh⟩ := HJ.out
   subst hw
   have HH : Hid (_) := hh
   clear hh HJ
   by_cases hlt : j < s.size
   · have i1 : (j : Int) < (s.size : Int) := by omega
     have hw := one_width s j hlt
     have hst := step_le hlt
     have hsp := step_pos s j
     have hn := rs_next hlt
     have hmax := max1 (one s j).2
     go_wp2_with fail
     refine (f_rune1 s j wr hlt hs).mono ?_
     rintro e w1 ⟨rfl, rfl⟩
     have HN : Hid (hashL (rs s (j + max (one s j).2 1)) ((31 * z + (one s j).1) % 4294967296) = hashL (rs s 0) 7) := by
       have := HH.out
       rw [hn] at this
       exact this
     clear HH hn
     obtain ⟨hw1, hw2, hw3, hw4, hw5⟩ := hw
     clear hw5 hw2
     generalize (one s j).1 = r at *
     generalize (one s j).2 = k at *
     obtain ⟨m, hm⟩ : ∃ m, max k 1 = m := ⟨_, rfl⟩
     rw [hm] at hmax HN hst hsp
     clear hm
     go_wp2_with fail
     go_roundw
     case rel => exact ⟨_, j + m, by go_num, by go_num, by omega, by omega, hst, trivial, HN.out⟩
     case measure => simp [intOf]; omega
   · have i1 : ¬ (j : Int) < (s.size : Int) := by omega
     have HE : Hid (z = hashL (rs s 0) 7) := by
       have := HH.out
       rw [rs_end hlt] at this
       exact this
     clear HH
     go_wp2_with fail
     go_ret
     exact ⟨ret_int HE.out, rfl⟩
theorem f_bucket (s : ByteArray) (w : World) (hs : s.size ≤ 9223372036854775000) :
   Calls Tryz.prog 15 #[.string s] w fun e w' => e = .returned (.int .i64 (hashL (rs s 0) 7 % 8)) ∧ w' = w := by
 have hr := hashL_range (rs s 0) 7 (by omega)
 obtain ⟨z, hz⟩ : ∃ z, hashL (rs s 0) 7 = z := ⟨_, rfl⟩
 rw [hz] at hr ⊢
 obtain ⟨h1, h2⟩ := hr
 have HZ : Hid (_) := hz
 clear hz
 go_enter Tryz.func15, Tryz.ntmps15
 go_wp2_with fail
 refine (f_hash s w hs).mono ?_
 rintro e w1 ⟨rfl, rfl⟩
 rw [HZ.out]
 go_wp2_with fail
 go_ret
 exact ⟨rfl, rfl⟩
end Go.Proofs.YtmeafancgmkfkaaGreatDoor

namespace Go.Proofs.YtmeafancgmkfkaaGreatDoor
open Go.RowKit
set_option linter.unusedVariables false
set_option linter.unusedSimpArgs false
def rowB (E : List En) : Array Value := ((List.range 8).map fun b => Value.int .i64 ((inB E b : Nat) : Int)).toArray
theorem rowB_at (E : List En) {b : Nat} (hb : b < 8) : (rowB E)[b]? = some (.int .i64 ((inB E b : Nat) : Int)) := by
 unfold rowB
 simp [hb]
theorem rowB_set (E : List En) (e : En) {b : Nat} (hb : b < 8) (he : bkt e.1 = (b : Int)) : (rowB E).setIfInBounds b (.int .i64 (((inB E b : Nat) : Int) + 1)) = rowB (insR ltE E e) := by
 apply Array.ext'
 unfold rowB
 rw [Array.toList_setIfInBounds]
 apply List.ext_getElem?
 intro i
 rw [List.getElem?_set]
 by_cases hi : i < 8
 · simp only [List.getElem?_map, List.getElem?_range hi, Option.map_some, List.length_map, List.length_range, inB_ins, he]
   by_cases e1 : b = i
   · subst e1; simp [hb]
   · have : ¬ ((b : Int) = (i : Int)) := by omega
     simp [e1, this]
 · have : ¬ b = i := by omega
   simp [this, hi]
theorem fS_bd {c g : Nat} {E : List En} (hg : g ≤ 60) (hc : c < 2) (hl : E.length ≤ 60) (hs : ∀ x ∈ E, x.1.size ≤ 4) : Bd (fS c g E) := by
 refine ⟨?_, ?_, ?_, ?_, ?_, ?_, ?_⟩
 · show (_ :: fmL c g).length ≤ _
   unfold fmL
   simp; omega
 · show ([] : List Ds).length ≤ _
   simp
 · show (mmL c g).length ≤ _
   rw [mm_len]; omega
 all_goals
   intro x hx
   rcases List.mem_cons.1 hx with rfl | hx
 · show E.length ≤ _
   omega
 · unfold fmL at hx
   obtain ⟨j, hj, rfl⟩ := List.mem_map.1 hx
   simp
 · show (1 : Int) ≤ _
   omega
 · unfold fmL at hx
   obtain ⟨j, hj, rfl⟩ := List.mem_map.1 hx
   have := List.mem_range.1 hj
   show 2 + (c : Int) + 8 * (j : Int) ≤ _
   omega
 · show (⟨#[]⟩ : ByteArray).size ≤ _
   decide
 · unfold fmL at hx
   obtain ⟨j, hj, rfl⟩ := List.mem_map.1 hx
   show (⟨#[]⟩ : ByteArray).size ≤ _
   decide
 · intro e he
   have := hs e he
   omega
 · unfold fmL at hx
   obtain ⟨j, hj, rfl⟩ := List.mem_map.1 hx
   intro e he
   cases he
theorem wrapF (c : Int) (h0 : -1000000 ≤ c) (h1 : c ≤ 1000000) : wrap64 c = c := by
 unfold wrap64
 omega
structure Fx (w wr : World) (X B : Nat) (v1 v2 v3 : Value) (ev : List Value) (c g o n : Nat) (E : List En) : Prop where
 hb : Hb w wr X v1 v2 v3 ev (fS c g E)
 off : Off [B] v1 v2 v3 ev
 row : wr.heap[B]? = some (.cells (rowB E) 3 (0, 0))
 may : mayB (fS c g E) = true
 nam : ∀ x ∈ E, ∃ j, j < n ∧ x.1 = kn 107 (j + o)
 len : E.length = g
theorem Fx.kept {w wr wr' : World} {X B : Nat} {v1 v2 v3 : Value} {ev : List Value} {c g o n : Nat} {E : List En} (h : Fx w wr X B v1 v2 v3 ev c g o n E) (k : Kept [] wr wr') : Fx w wr' X B v1 v2 v3 ev c g o n E :=
 ⟨h.hb.kept k, h.off, (k.block _ (lt_of_heap h.row) (by simp)).trans h.row, h.may, h.nam, h.len⟩
theorem Fx.bd {w wr : World} {X B : Nat} {v1 v2 v3 : Value} {ev : List Value} {c g o n : Nat} {E : List En} (h : Fx w wr X B v1 v2 v3 ev c g o n E) (hc : c < 2) (hg : g ≤ 60) : Bd (fS c g E) :=
 fS_bd hg hc (by rw [h.len]; exact hg) fun x hx => by
   obtain ⟨j, -, e⟩ := h.nam x hx
   rw [e]
   exact kn_size 107 _
theorem Fx.same {w wr : World} {X B : Nat} {v1 v2 v3 u1 u2 u3 : Value} {ev eu : List Value} {c g o n : Nat} {E : List En} (h : Fx w wr X B v1 v2 v3 ev c g o n E) (hXB : X ≠ B) (ho : Os wr w.heap.size u1 u2 u3 eu (fS c g E)) (hx : Off [X] u1 u2 u3 eu) (hB : Off [B] u1 u2 u3 eu) :
   Fx w (laidS wr X u1 u2 u3) X B u1 u2 u3 eu c g o (n + 1) E :=
 ⟨h.hb.put ho hx, hB, by unfold laidS; rw [block_other (Ne.symm hXB), block_other (Ne.symm hXB), block_other (Ne.symm hXB)]; exact h.row, h.may, fun x hx => by obtain ⟨j, hj, e⟩ := h.nam x hx; exact ⟨j, by omega, e⟩, h.len⟩
theorem Fx.more {w wr : World} {X B : Nat} {v1 v2 v3 u1 u2 u3 : Value} {ev eu : List Value} {c g o n : Nat} {E : List En} (h : Fx w wr X B v1 v2 v3 ev c g o n E) (hXB : X ≠ B) (hBw : w.heap.size ≤ B) {e : En} {b : Nat} (hb8 : b < 8) (he : bkt e.1 = (b : Int)) (hen : e.1 = kn 107 (n + o)) (hm : mayB (fS c (g + 1) (insR ltE E e)) = true)
   (ho : Os wr w.heap.size u1 u2 u3 eu (fS c (g + 1) (insR ltE E e))) (hx : Off [X] u1 u2 u3 eu) (hB : Off [B] u1 u2 u3 eu) :
   Fx w (laidS (wr.setCell ⟨B, b, none⟩ (.int .i64 (((inB E b : Nat) : Int) + 1))) X u1 u2 u3) X B u1 u2 u3 eu c (g + 1) o (n + 1) (insR ltE E e) := by
 have h1 := h.hb.beside hBw hXB h.off b (.int .i64 (((inB E b : Nat) : Int) + 1))
 have ho1 : Os (wr.setCell ⟨B, b, none⟩ (.int .i64 (((inB E b : Nat) : Int) + 1))) w.heap.size u1 u2 u3 eu (fS c (g + 1) (insR ltE E e)) := ho.keep kept_set hB
 refine ⟨h1.put ho1 hx, hB, ?_, hm, fun x hx => ?_, ?_⟩
 · unfold laidS
   rw [block_other (Ne.symm hXB), block_other (Ne.symm hXB), block_other (Ne.symm hXB), block_set h.row, rowB_set E e hb8 he]
 · rcases mem_insR hx with rfl | hx
   · exact ⟨n, by omega, hen⟩
   · obtain ⟨j, hj, e⟩ := h.nam x hx; exact ⟨j, by omega, e⟩
 · rw [insR_length, h.len]
theorem forms_anyF {w : World} {H : Nat} {v1 v2 v3 : Value} {ev : List Value} {S : Sta} (h : Os w H v1 v2 v3 ev S) : ∃ a l c a' l' c' a'' l'' c'', v1 = .slice a l c ∧ v2 = .slice a' l' c' ∧ v3 = .slice a'' l'' c'' := by
 obtain ⟨p, m, hu, -⟩ := row_form h.ino
 obtain ⟨q, n, hv, -⟩ := row_form h.opn
 obtain ⟨r, t, hw, -⟩ := row_form h.mad
 exact ⟨_, _, _, _, _, _, _, _, _, hu, hv, hw⟩
set_option maxRecDepth 100000 in
set_option maxHeartbeats 16000000 in
theorem full_main (v core : Int) (o c : Nat) (w : World) (hT0 : Tab w) (ho : o < 64) (hc : c < 2) (hv : bits .and .i64 v 63 = (o : Int)) (hg : bits .and .i64 core 1 = (c : Int)) :
   Calls Tryz.prog 5 #[.int .i64 v, .int .i64 core] w fun e w' => e = .returned (.bool true) ∧ Kept [] w w' := by
 have HV : Hid (_ ∧ _) := ⟨hv, hg⟩
 have hT : Hid (Tab w) := hT0
 clear hT0 hv hg
 go_enter Tryz.func5, Tryz.ntmps5
 go_wp2_with fail
 refine (awake_any hT.out).mono ?_
 rintro e w1 ⟨rfl, k1⟩
 have HK1 : Hid (Kept [] w w1) := k1
 clear k1
 go_wp2_with fail
 refine (r_New (n := 2) (by omega) (by omega)).mono ?_
 rintro e w2 ⟨a0, b0, d0, ev, rfl, ho2, k2, -⟩
 have HK2 : Hid (Kept [] w w2) := HK1.out.trans k2 (by simp)
 obtain ⟨p0, m0, q0, n0, r0, t0, rfl, rfl, rfl⟩ := forms3 ho2 1 0 2 rfl rfl rfl
 have HO2 : Hid (Os w2 w.heap.size (.slice p0 1 m0) (.slice q0 0 n0) (.slice r0 2 t0) ev (newS 2)) := ho2.less HK1.out.size
 clear ho2 k2
 obtain ⟨W3, X, HX, HXk, HXb⟩ := boxR w2 #[.slice p0 1 m0, .slice q0 0 n0, .slice r0 2 t0] 26
 have HB3 : Hid (Hb w W3 X (.slice p0 1 m0) (.slice q0 0 n0) (.slice r0 2 t0) ev (newS 2)) := Hb.new HK2.out HO2.out HX.out
 go_upto_region 4 with fail
 rw [HX.out.1, HX.out.2]
 clear HX HXk HXb HO2
 go_upto_region 5 with fail
 rw [HV.out.2]
 obtain ⟨W4, B, HB, HBk, HBb⟩ := boxR W3 #[.int .i64 0, .int .i64 0, .int .i64 0, .int .i64 0, .int .i64 0, .int .i64 0, .int .i64 0, .int .i64 0] 3
 have HXB : Hid (X ≠ B ∧ w.heap.size ≤ B) := by
   have e := HB.out.2
   have := lt_of_heap HB3.out.box
   have := HB3.out.k.size
   exact ⟨by omega, by omega⟩
 have HF : Hid (Fx w W4 X B (.slice p0 1 m0) (.slice q0 0 n0) (.slice r0 2 t0) ev c 0 o 0 []) :=
   ⟨by have := HB3.out.kept HBk.out; rw [fS_new hc] at this; exact this, by have := off_new HB3.out.os (Nat.le_refl _); rw [HB.out.2] at this; exact this, HBb.out.trans (by rw [show rowB [] = #[.int .i64 0, .int .i64 0, .int .i64 0, .int .i64 0, .int .i64 0, .int .i64 0, .int .i64 0, .int .i64 0] from by rfl]), by rw [← fS_new hc]; kernel_rfl, fun x hx => (by cases hx), rfl⟩
 have hmk3 : (Instr.makeSlice 24 (.int .i64 8) (.int .i64 8)).run Tryz.prog W3 = .ok (.slice (some ⟨W3.heap.size, 0, none⟩) 8 8) (W3.alloc (.cells #[.int .i64 0, .int .i64 0, .int .i64 0, .int .i64 0, .int .i64 0, .int .i64 0, .int .i64 0, .int .i64 0] 3 (0, 0))) := make_ints 8 (by omega) W3
 rw [HB.out.1, HB.out.2] at hmk3
 go_upto_region 6 with fail
 clear HB HBk HBb HB3 HK1 HK2 hmk3
 go_wp2_with fail
 go_loopw [9, 10] (fun m i wr => ∃ (n g : Nat) (E : List En) (v1 v2 v3 : Value) (ev : List Value), m = .int .i64 (g : Int) ∧ i = .int .i64 (n : Int) ∧ n ≤ 60 ∧ g ≤ n ∧ Hid (Fx w wr X B v1 v2 v3 ev c g o n E)) (fun _ i _ => (60 - intOf i).toNat)
 case atStart => exact ⟨0, 0, [], _, _, _, _, rfl, rfl, by omega, by omega, HF.out⟩
 case round =>
   clear HF
   obtain ⟨n, g, E, v1, v2, v3, ev, rfl, rfl, hn, hgn, HJ⟩ := hrel
   by_cases hlt : n < 60
   · have i0 : (n : Int) < 60 := by omega
     go_wp2_with fail
     rw [HV.out.1]
     refine (f_decimal (n + o) _ (by rw [wrapF _ (by omega) (by omega)]; omega) wr (by omega)).mono ?_
     rintro e w3 ⟨rfl, hk3⟩
     have H3 : Hid (_) := HJ.out.kept hk3
     clear hk3 HJ
     have hds : (strOfNums (digs (n + o))).size ≤ 3 := by rw [strOfNums_size]; exact (digs_length _).2
     obtain ⟨d, hd⟩ : ∃ d, strOfNums (digs (n + o)) = d := ⟨_, rfl⟩
     have HKN : Hid ((⟨#[107]⟩ : ByteArray) ++ d = kn 107 (n + o)) := by show _ = _; rw [← hd]; rfl
     rw [hd] at hds ⊢
     clear hd
     have hds2 : ¬ 9223372036854775807 < 1 + d.size := by omega
     go_wp2_with fail
     rw [HKN.out]
     have hsz := kn_size 107 (n + o)
     have HPl : Hid (playR (fS c g E) (fC c (kn 107 (n + o))) headI = if 4 ≤ inB E (bkt (kn 107 (n + o))).toNat ∨ 32 ≤ g then (fS c g E, ansC 5) else (fS c (g + 1) (insR ltE E (kn 107 (n + o), 2 + (c : Int) + 8 * (g : Int))), ansC 0)) := play_full hc H3.out.may (parse_kn _ (by omega)) (kn_none H3.out.nam ho hlt)
     have HMy : Hid (mayB (playR (fS c g E) (fC c (kn 107 (n + o))) headI).1 = true) := may_stays H3.out.may _ head_mem
     obtain ⟨s, hs⟩ : ∃ s, kn 107 (n + o) = s := ⟨_, rfl⟩
     rw [hs] at hsz HPl HMy ⊢
     have HS : Hid (kn 107 (n + o) = s) := hs
     clear hs HKN hds hds2
     have hbr := bkt_range s
     obtain ⟨b, hb8, hb⟩ : ∃ b : Nat, b < 8 ∧ bkt s = (b : Int) := ⟨(bkt s).toNat, by omega, by omega⟩
     have HQ : Hid (bkt s = (b : Int)) := hb
     rw [hb] at HPl
     simp only [Int.toNat_natCast] at HPl
     refine (f_bucket s w3 (by omega)).mono ?_
     rintro e w4 ⟨rfl, hw4⟩
     subst hw4
     have hbk : hashL (rs s 0) 7 % 8 = (b : Int) := hb
     rw [hbk]
     clear hbk hb hbr
     have b0 : (0 : Int) ≤ (b : Int) := by omega
     have b1 : (b : Int) < 8 := by omega
     have hds2 : ¬ 9223372036854775807 < 1 + s.size := by omega
     obtain ⟨za1, zl1, zc1, za2, zl2, zc2, za3, zl3, zc3, rfl, rfl, rfl⟩ := forms_anyF H3.out.hb.os
     obtain ⟨x0, x1, x2⟩ := cells3D H3.out.hb.box
     have HSz : Hid ((fC c s).data.size ≤ 9223372036854775807) := by show (⟨#[]⟩ : ByteArray).size ≤ _; decide
     go_wp2_with fail
     refine (l_Do H3.out.hb.os (H3.out.bd hc (by omega)) (hT.out.kept H3.out.hb.k) (fC c s) HSz.out rfl).mono ?_
     clear x0 x1 x2
     rintro e w5 ⟨u1, u2, u3, eu, z, l, k, rfl, ho5, hsr, -, k5, -⟩
     by_cases hf : 4 ≤ inB E b ∨ 32 ≤ g
     · rw [if_pos hf] at HPl
       rw [HPl.out] at ho5 ⊢
       dsimp only at ho5 ⊢
       have HOx : Hid (Off [X] u1 u2 u3 eu ∧ Off [B] u1 u2 u3 eu) := ⟨off_lt ho5 (lt_of_heap H3.out.hb.box), off_lt ho5 (lt_of_heap H3.out.row)⟩
       have HO5 : Hid (Os w5 w.heap.size u1 u2 u3 eu (fS c g E)) := ho5.less H3.out.hb.k.size
       have H5 : Hid (_) := H3.out.kept k5
       obtain ⟨za1, zl1, zc1, za2, zl2, zc2, za3, zl3, zc3, rfl, rfl, rfl⟩ := forms_anyF ho5
       clear ho5 hsr k5 H3 HPl
       obtain ⟨V5, XT, HXT, HXTk, HXTb⟩ := boxes2 w5 #[.slice za1 zl1 zc1, .slice za2 zl2 zc2, .slice za3 zl3 zc3] #[.int .i64 5, .int .i64 0, .int .i64 0, .bool false, .string ⟨#[]⟩, .slice z l k] 26 32
       have HTB : Hid (XT ≠ B) := by have := lt_of_heap H5.out.row; have := HXT.out.2; show _ ≠ _; omega
       have H6 : Hid (_) := H5.out.kept HXTk.out
       have HO6 : Hid (_) := HO5.out.kept HXTk.out
       go_upto_region 13 with fail
       rw [HXT.out.1, HXT.out.2]
       obtain ⟨XR, hXR⟩ : ∃ XR, XT + 1 = XR := ⟨_, rfl⟩
       rw [hXR] at HXTb ⊢
       have HT6 : Hid (_) := HXTb.out.1
       have HR6 : Hid (_) := HXTb.out.2.1
       clear H5 HO5 HXTk HXT HXTb hXR
       obtain ⟨t0, t1, t2⟩ := cells3D HT6.out
       have r0 : V5.cell? ⟨XR, 0, none⟩ = some (.int .i64 5) := cellB HR6.out
       have g0 : V5.cell? ⟨B, b, none⟩ = some (.int .i64 ((inB E b : Nat) : Int)) := (cellB H6.out.row).trans (rowB_at E hb8)
       obtain ⟨x0, x1, x2⟩ := cells3D H6.out.hb.box
       have f0 := frozen_of H6.out.hb.box 0
       have f1 := frozen_of H6.out.hb.box 1
       have f2 := frozen_of H6.out.hb.box 2
       have HE : Hid (_) := H6.out.same HXB.out.1 HO6.out HOx.out.1 HOx.out.2
       obtain ⟨y, hy⟩ : ∃ y : Nat, inB E b = y := ⟨_, rfl⟩
       rw [hy] at g0 hf
       clear H6 HO6
       by_cases h4 : 4 ≤ y
       · have y4 : (4 : Int) ≤ (y : Int) := by omega
         go_wp2_with fail
         go_roundw
         case rel => exact ⟨n + 1, g, E, _, _, _, _, rfl, by go_num, by omega, by omega, HE.out⟩
         case measure => simp [intOf]; omega
       · have y4 : ¬ (4 : Int) ≤ (y : Int) := by omega
         have g4 : (32 : Int) ≤ (g : Int) := by omega
         go_wp2_with fail
         go_roundw
         case rel => exact ⟨n + 1, g, E, _, _, _, _, rfl, by go_num, by omega, by omega, HE.out⟩
         case measure => simp [intOf]; omega
     · rw [if_neg hf] at HPl
       rw [HPl.out] at ho5 HMy
       rw [HPl.out]
       dsimp only at ho5 HMy ⊢
       have HOx : Hid (Off [X] u1 u2 u3 eu ∧ Off [B] u1 u2 u3 eu) := ⟨off_lt ho5 (lt_of_heap H3.out.hb.box), off_lt ho5 (lt_of_heap H3.out.row)⟩
       have HO5 : Hid (Os w5 w.heap.size u1 u2 u3 eu (fS c (g + 1) (insR ltE E (s, 2 + (c : Int) + 8 * (g : Int))))) := ho5.less H3.out.hb.k.size
       have H5 : Hid (_) := H3.out.kept k5
       obtain ⟨za1, zl1, zc1, za2, zl2, zc2, za3, zl3, zc3, rfl, rfl, rfl⟩ := forms_anyF ho5
       clear ho5 hsr k5 H3 HPl
       obtain ⟨V5, XT, HXT, HXTk, HXTb⟩ := boxes2 w5 #[.slice za1 zl1 zc1, .slice za2 zl2 zc2, .slice za3 zl3 zc3] #[.int .i64 0, .int .i64 0, .int .i64 0, .bool false, .string ⟨#[]⟩, .slice z l k] 26 32
       have HTB : Hid (XT ≠ B) := by have := lt_of_heap H5.out.row; have := HXT.out.2; show _ ≠ _; omega
       have H6 : Hid (_) := H5.out.kept HXTk.out
       have HO6 : Hid (_) := HO5.out.kept HXTk.out
       go_upto_region 13 with fail
       rw [HXT.out.1, HXT.out.2]
       obtain ⟨XR, hXR⟩ : ∃ XR, XT + 1 = XR := ⟨_, rfl⟩
       rw [hXR] at HXTb ⊢
       have HT6 : Hid (_) := HXTb.out.1
       have HR6 : Hid (_) := HXTb.out.2.1
       clear H5 HO5 HXTk HXT HXTb hXR
       obtain ⟨t0, t1, t2⟩ := cells3D HT6.out
       have r0 : V5.cell? ⟨XR, 0, none⟩ = some (.int .i64 0) := cellB HR6.out
       have g0 : V5.cell? ⟨B, b, none⟩ = some (.int .i64 ((inB E b : Nat) : Int)) := (cellB H6.out.row).trans (rowB_at E hb8)
       obtain ⟨x0, x1, x2⟩ := cells3D H6.out.hb.box
       have f0 := frozen_of H6.out.hb.box 0
       have f1 := frozen_of H6.out.hb.box 1
       have f2 := frozen_of H6.out.hb.box 2
       have fz := frozen_of H6.out.row b
       have HE : Hid (_) := H6.out.more HXB.out.1 HXB.out.2 (e := (s, 2 + (c : Int) + 8 * (g : Int))) hb8 HQ.out HS.out.symm HMy.out HO6.out HOx.out.1 HOx.out.2
       have hfX : ∀ i, (V5.setCell ⟨B, b, none⟩ (.int .i64 (((inB E b : Nat) : Int) + 1))).frozen? ⟨X, i, none⟩ = false := fun i => frozen_of (by rw [block_other HXB.out.1]; exact H6.out.hb.box) i
       obtain ⟨y, hy⟩ : ∃ y : Nat, inB E b = y := ⟨_, rfl⟩
       rw [hy] at g0 hf HE hfX
       clear H6 HO6
       have y4 : ¬ (4 : Int) ≤ (y : Int) := by omega
       have g4 : ¬ (32 : Int) ≤ (g : Int) := by omega
       obtain ⟨V6, hV6⟩ : ∃ V6, V5.setCell ⟨B, b, none⟩ (.int .i64 ((y : Int) + 1)) = V6 := ⟨_, rfl⟩
       have t0' : V6.cell? ⟨XT, 0, none⟩ = some (.slice za1 zl1 zc1) := by rw [← hV6]; exact cellB ((block_other HTB.out).trans HT6.out)
       have t1' : V6.cell? ⟨XT, 1, none⟩ = some (.slice za2 zl2 zc2) := by rw [← hV6]; exact cellB ((block_other HTB.out).trans HT6.out)
       have t2' : V6.cell? ⟨XT, 2, none⟩ = some (.slice za3 zl3 zc3) := by rw [← hV6]; exact cellB ((block_other HTB.out).trans HT6.out)
       have hbx : V6.heap[X]? = V5.heap[X]? := by rw [← hV6]; exact block_other HXB.out.1
       have x0' : V6.cell? ⟨X, 0, none⟩ = _ := (World.cell?_of_block (a := ⟨X, 0, none⟩) hbx).trans x0
       have x1' : V6.cell? ⟨X, 1, none⟩ = _ := (World.cell?_of_block (a := ⟨X, 1, none⟩) hbx).trans x1
       have x2' : V6.cell? ⟨X, 2, none⟩ = _ := (World.cell?_of_block (a := ⟨X, 2, none⟩) hbx).trans x2
       have f0' := hfX 0
       have f1' := hfX 1
       have f2' := hfX 2
       rw [hV6] at f0' f1' f2' HE
       have HV6 : Hid (_) := hV6
       clear hV6 hfX hbx t0 t1 t2 x0 x1 x2 f0 f1 f2
       go_upto_region 19 with fail
       rw [HV6.out]
       clear HV6
       go_wp2_with fail
       go_roundw
       case rel => exact ⟨n + 1, g + 1, _, _, _, _, _, by go_num, by go_num, by omega, by omega, HE.out⟩
       case measure => simp [intOf]; omega
   · have i0 : ¬ (n : Int) < 60 := by omega
     have e60 : n = 60 := by omega
     obtain ⟨q, e1, e2, e3, hsv, -⟩ := HJ.out.hb.os.sv (HJ.out.bd hc (by omega))
     subst e1 e2 e3
     have HSv : Hid (_) := hsv
     obtain ⟨x0, x1, x2⟩ := cells3D HJ.out.hb.box
     have HMa : Hid (Calls Tryz.prog 12 #[.agg #[.slice q.a1 (fS c g E).ino.length q.c1, .slice q.a2 (fS c g E).opn.length q.c2, .slice q.a3 (fS c g E).made.length q.c3]] wr fun e w' => e = .returned (.bool true) ∧ Kept [] wr w') := l_May HJ.out.hb.os (HJ.out.bd hc (by omega)) (hT.out.kept HJ.out.hb.k) HJ.out.may
     clear hsv
     go_wp2_with fail
     refine (HMa.out).mono ?_
     rintro e w3 ⟨rfl, k3⟩
     clear x0 x1 x2
     have H3 : Hid (_) := HJ.out.kept k3
     obtain ⟨x0, x1, x2⟩ := cells3D H3.out.hb.box
     obtain ⟨gb, og, hgq, m0⟩ := (HSv.out.kept k3).mad 0 (by show 0 < (mmL c g).length; rw [mm_len]; omega)
     obtain ⟨gb', og', hgq', m1⟩ := (HSv.out.kept k3).mad 1 (by show 1 < (mmL c g).length; rw [mm_len]; omega)
     rw [hgq] at hgq'
     simp only [Option.some.injEq, Addr.mk.injEq, and_true] at hgq'
     obtain ⟨rfl, rfl⟩ := hgq'
     have hml : (fS c g E).made.length = 2 := mm_len c g
     rw [hgq, hml] at x2
     have HKf : Hid (Kept [] w w3) := H3.out.hb.k
     clear k3 HJ HSv HMa hml hgq
     have hcc : c = 0 ∨ c = 1 := by omega
     rcases hcc with rfl | rfl
     · have m0' : w3.cell? ⟨gb, og + 0, none⟩ = some (.int .i64 (g : Int)) := m0
       have m1' : w3.cell? ⟨gb, og + 1, none⟩ = some (.int .i64 0) := m1
       have m0'' : w3.cell? ⟨gb, og, none⟩ = some (.int .i64 (g : Int)) := m0
       clear m0 m1 H3
       have tg : ((g : Int) == (g : Int)) = true := by simp
       go_wp2_with fail
       trace_state
       go_ret
       exact ⟨rfl, HKf.out⟩
     · have m0' : w3.cell? ⟨gb, og + 0, none⟩ = some (.int .i64 0) := m0
       have m1' : w3.cell? ⟨gb, og + 1, none⟩ = some (.int .i64 (g : Int)) := m1
       have m0'' : w3.cell? ⟨gb, og, none⟩ = some (.int .i64 0) := m0
       clear m0 m1 H3
       have tg : ((g : Int) == (g : Int)) = true := by simp
       go_wp2_with fail
       go_ret
       exact ⟨rfl, HKf.out⟩
theorem i64_and63 (n : Int) : bits .and .i64 n 63 = n % 64 := by
 have h1 : (BitVec.ofInt 64 63).toNat = 2 ^ 6 - 1 := by decide
 have key : (BitVec.ofInt 64 n &&& BitVec.ofInt 64 63).toNat = (n % ((2 ^ 64 : Nat) : Int)).toNat % 2 ^ 6 := by
   rw [BitVec.toNat_and, BitVec.toNat_ofInt, h1, Nat.and_two_pow_sub_one_eq_mod]
 show IntKind.i64.wrap ((BitVec.ofInt 64 n &&& BitVec.ofInt 64 63).toNat : Nat) = n % 64
 rw [key, IntKind.wrap_i64]
 omega
theorem i64_and1 (n : Int) : bits .and .i64 n 1 = n % 2 := by
 have h1 : (BitVec.ofInt 64 1).toNat = 2 ^ 1 - 1 := by decide
 have key : (BitVec.ofInt 64 n &&& BitVec.ofInt 64 1).toNat = (n % ((2 ^ 64 : Nat) : Int)).toNat % 2 ^ 1 := by
   rw [BitVec.toNat_and, BitVec.toNat_ofInt, h1, Nat.and_two_pow_sub_one_eq_mod]
 show IntKind.i64.wrap ((BitVec.ofInt 64 n &&& BitVec.ofInt 64 1).toNat : Nat) = n % 2
 rw [key, IntKind.wrap_i64]
 omega
theorem low64 (v : Int) : ∃ o : Nat, o < 64 ∧ bits .and .i64 v 63 = (o : Int) := by
 have : bits .and .i64 v 63 = v % 64 := i64_and63 v
 exact ⟨(v % 64).toNat, by omega, by omega⟩
theorem low2 (v : Int) : ∃ o : Nat, o < 2 ∧ bits .and .i64 v 1 = (o : Int) := by
 have : bits .and .i64 v 1 = v % 2 := i64_and1 v
 exact ⟨(v % 2).toNat, by omega, by omega⟩
theorem full_walk (a0 a1 : Int) (w : World) (hT : Tab w) :
   Calls Tryz.prog 5 #[.int .i64 a0, .int .i64 a1] w fun e w' => e = .returned (.bool true) ∧ Below w.heap.size w w' := by
 obtain ⟨o, ho, hv⟩ := low64 a0
 obtain ⟨c, hc, hg⟩ := low2 a1
 exact (full_main a0 a1 o c w hT ho hc hv hg).mono fun _ _ h => ⟨h.1, h.2.below (Nat.le_refl _) (by simp)⟩
end Go.Proofs.YtmeafancgmkfkaaGreatDoor

namespace Go.Proofs.YtmeafancgmkfkaaGreatDoor
open Go.ChangeShapes Go.WideShapes Go.ChangeAt Go.WideMaps Go.WideElems Go.RowKit Go.Lib
def laid2 : List (String × DataW Unit) := [("unicode/utf8.acceptRanges", Rows.laid_unicode_utf8_acceptRanges), ("unicode/utf8.first", Rows.laid_unicode_utf8_first)]
theorem own : ownKnob Tryz.prog.godebug = none := by kernel_rfl
theorem gFirst : Tryz.prog.globalNamed "unicode/utf8.first" = some 0 := by kernel_rfl
theorem tFirst : (Tryz.prog.globals[0]?).map (·.type) = some 156 := by kernel_rfl
theorem gAcc : Tryz.prog.globalNamed "unicode/utf8.acceptRanges" = some 1 := by kernel_rfl
theorem tAcc : (Tryz.prog.globals[1]?).map (·.type) = some 159 := by kernel_rfl
theorem first_listed : Rows.laid_unicode_utf8_first = .agg ((List.range 256).map fun i => .lit (.int .u8 (firstT i))) := by kernel_rfl
theorem acc_listed : (Rows.laid_unicode_utf8_acceptRanges : DataW Unit) = .agg ((List.range 16).map fun i => .agg [.lit (.int .u8 (accLo i)), .lit (.int .u8 (accHi i))]) := by kernel_rfl
theorem met_laid (os : Go.Os) (args : Array Value) : laidMetH Tryz.prog laid2 ((World.laidAll Tryz.prog os laid2).forCall (fun _ _ => 0) ⟨#[], args, []⟩).memory := by
 rw [MakeChecks.laidMetH_plain _ _ _ (by kernel_rfl)]
 exact laidMet_laidAll _ (by kernel_rfl) (by kernel_rfl)
theorem head_of_take {cs : List Value} {i : Nat} {v : Value} (h : (cs.drop i).take 1 = [v]) : cs[i]? = some v := by
 have := congrArg List.head? h
 simpa [List.head?_take] using this
theorem of_laid {W : World} (h : laidMetH Tryz.prog laid2 W) : Tab W := by
 rw [MakeChecks.laidMetH_plain _ _ _ (by kernel_rfl)] at h
 obtain ⟨ps, ⟨g0, t0, cs0, f0, p0, q0, hg0, ht0, hv0, hd0, ⟨g1, t1, cs1, f1, p1, q1, hg1, ht1, hv1, hd1, _, _⟩, _⟩, _, _⟩ := h
 obtain rfl := Option.some.inj (gAcc.symm.trans hg0)
 obtain rfl := Option.some.inj (tAcc.symm.trans ht0)
 obtain rfl := Option.some.inj (gFirst.symm.trans hg1)
 obtain rfl := Option.some.inj (tFirst.symm.trans ht1)
 have c5 : Tryz.prog.cellsOf 5 = 1 := by kernel_rfl
 have c43 : Tryz.prog.cellsOf 158 = 2 := by kernel_rfl
 refine ⟨fun i hi => ?_, fun i hi => ?_⟩
 · obtain ⟨xs, m1, rfl, hx1, hlen, hn3, hel⟩ := DataW.trod_array Tryz.underlying156 hd1
   have hc := World.var?_cell hg1 hv1 i
   have h0 := hel i (by omega)
   have hix : i < xs.length := by omega
   rw [List.getElem?_eq_getElem hix] at h0
   obtain ⟨k, e1, e2, _⟩ := DataW.trod_int Tryz.underlying5 h0
   rw [c5, Nat.mul_one] at e1
   have hcs := head_of_take e1
   have hL := congrArg (fun x => x.1) hx1
   simp only [first_listed, DataW.agg.injEq] at hL
   have hLi := congrArg (fun l => l[i]?) hL
   simp only [List.getElem?_map, List.getElem?_range hi, Option.map_some, List.getElem?_eq_getElem hix, e2] at hLi
   have hk : (firstT i : Int) = k := by simpa using hLi
   rw [hc, ← Array.getElem?_toList, hcs, hk]
 · obtain ⟨xs, m1, rfl, hx1, hlen, hn3, hel⟩ := DataW.trod_array Tryz.underlying159 hd0
   have hca := World.var?_cell hg0 hv0 (2 * i)
   have hcb := World.var?_cell hg0 hv0 (2 * i + 1)
   have h0 := hel i (by omega)
   have hix : i < xs.length := by omega
   rw [List.getElem?_eq_getElem hix, c43] at h0
   obtain ⟨y0, y1, n, e0, _, d0, d1⟩ := trod_struct2 Tryz.underlying158 h0
   simp only [c5, List.drop_zero] at d0 d1
   obtain ⟨k0, e1, e2, _⟩ := DataW.trod_int Tryz.underlying5 d0
   obtain ⟨k1, e3, e4, _⟩ := DataW.trod_int Tryz.underlying5 d1
   have hL := congrArg (fun x => x.1) hx1
   simp only [acc_listed, DataW.agg.injEq] at hL
   have hLi := congrArg (fun l => l[i]?) hL
   simp only [List.getElem?_map, List.getElem?_range hi, Option.map_some, List.getElem?_eq_getElem hix, e0, e2, e4] at hLi
   have hk : (accLo i : Int) = k0 ∧ (accHi i : Int) = k1 := by simpa using hLi
   have ea : cs0.toList[2 * i]? = some (.int .u8 k0) := by
     have := congrArg (fun l => l[0]?) e1
     simp only [List.getElem?_take, List.getElem?_drop] at this
     simpa [Nat.mul_comm] using this
   have eb : cs0.toList[2 * i + 1]? = some (.int .u8 k1) := by
     have := congrArg (fun l => l[0]?) e3
     simp only [List.getElem?_take, List.getElem?_drop] at this
     simpa [Nat.mul_comm] using this
   exact ⟨by rw [hca, ← Array.getElem?_toList, ea, hk.1], by rw [hcb, ← Array.getElem?_toList, eb, hk.2]⟩
end Go.Proofs.YtmeafancgmkfkaaGreatDoor
