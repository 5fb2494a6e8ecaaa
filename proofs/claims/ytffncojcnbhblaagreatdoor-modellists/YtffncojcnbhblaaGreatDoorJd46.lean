/-
  Joined of my texts Gy.
-/
import Derived.Test.YtffncojcnbhblaaGreatDoorJd45
import Derived.Test.YtffncojcnbhblaaGreatDoorJd44
import Derived.Test.YtffncojcnbhblaaGreatDoorJd3
import Derived.Deep.CutRange
import Derived.Deep.CutBlock
import Derived.SliceStrings
import Derived.SizedLaws
import Derived.Deep.Slices
import Derived.OpenShut
import Derived.Test.YtffncojcnbhblaaGreatDoorTk
set_option linter.unusedVariables false
set_option linter.unusedSimpArgs false
set_option maxRecDepth 100000
set_option maxHeartbeats 8000000
namespace Go.Proofs.YtffncojcnbhblaaGreatDoor
open List renaming setIfInBounds_toArray → lz0, set_cons_zero → lz1, set_cons_succ → lz2, getElem_toArray → lz3, getElem_cons_zero → lz4, getElem_cons_succ → lz5
open Go.RowKit
open Go.ChangeShapes Go.WideShapes
def IsStrs (w : World) (a : Option Addr) (len : Nat) (l : List ByteArray) : Prop :=
 len = l.length ∧ Ss w a l ∧ (∀ j, (tx l j).size ≤ 140737488351232) ∧ len * 16 ≤ 140737488351232 ∧ (a = none → len = 0)
theorem mem_weightsAll {H : Type} {P : Program} {e : TypeId} {d : DataW H} {n : Nat} (hn : n ∈ d.weights P e) : ∀ {l : List (DataW H)}, d ∈ l → n ∈ DataW.weightsAll P e l
 | [], h => by cases h
 | x :: l, h => by
  rw [DataW.weightsAll, List.mem_append]
  rcases List.mem_cons.1 h with rfl | h
  · exact Or.inl hn
  · exact Or.inr (mem_weightsAll hn h)
theorem bytes9 : Tryz.prog.bytesOf 9 = 16 := by kernel_rfl
theorem strs_at {H : Type} {enc : TypeId × Value → H} {w : World} {base : Nat} {spare : Nat → Bool} {held : Bool} {fuel : Nat} {a : Option Addr} {len cap : Nat} {x : DataW H × List MemPlace}
  (h : DataW.trod enc Tryz.prog w base spare held fuel 29 [.slice a len cap] = some x) (hw : ∀ n ∈ x.1.weights Tryz.prog 29, n ≤ reachBytes) : ∃ l, IsStrs w a len l := by
 rcases open_strings Tryz.underlying29 Tryz.underlying9 (by kernel_rfl) h with ⟨hcs, _⟩ | ⟨y, l, c, ss, hcs, _, hl, hm, hz, hx, hcell, hwz⟩
 ·
  simp at hcs
  obtain ⟨rfl, rfl, rfl⟩ := hcs
  exact ⟨[], rfl, Ss.none, fun j => by show (tx [] j).size ≤ _; exact Nat.zero_le _, by omega, fun _ => rfl⟩
 ·
  simp at hcs
  obtain ⟨rfl, rfl, rfl⟩ := hcs
  have hlen : len ≤ ss.length := by rw [hz]; split <;> omega
  have hnum : len * 16 ≤ 140737488351232 := by
   have : (strs (ss.take len) : List (DataW H)).length * 16 ≤ reachBytes := by
    refine Nat.le_trans ?_ (hw _ (by
     rw [hx]
     unfold DataW.weights
     rw [Tryz.underlying29]
     exact List.mem_cons_self))
    rw [bytes9]
    exact Nat.mul_le_mul_right _ (Nat.le_add_right _ _)
   unfold strs reachBytes at this
   rw [List.length_map, List.length_take] at this
   omega
  refine ⟨ss.take len, by rw [List.length_take]; omega, ⟨by rw [List.length_take]; omega, fun i hi => ?_⟩, fun j => ?_, hnum, fun h => by cases h⟩
  ·
   rw [List.length_take] at hi
   obtain ⟨b, off, spot⟩ := y
   have hspot : spot = none := by
    have := World.cell?_spot (hcell 0 (by omega))
    simpa [Addr.add] using this
   subst hspot
   refine ⟨b, off, rfl, ?_⟩
   rw [← Go.WideShapes.add_plain, hcell i (by omega)]
   congr 2
   unfold tx
   rw [List.getD_eq_getElem?_getD, List.getD_eq_getElem?_getD, List.getElem?_take_of_lt (by omega)]
   rfl
  ·
   rcases Nat.lt_or_ge j (ss.take len).length with hj | hj
   ·
    have hmem : (.lit (.string (tx (ss.take len) j).data.toList) : DataW H) ∈ strs (ss.take len) := by
     unfold strs
     rw [List.mem_map]
     exact ⟨_, tx_mem hj, rfl⟩
    have hin : (tx (ss.take len) j).data.toList.length ∈ x.1.weights Tryz.prog 29 := by
     rw [hx]
     unfold DataW.weights
     rw [Tryz.underlying29]
     refine List.mem_cons_of_mem _ (List.mem_append_left _ (mem_weightsAll ?_ hmem))
     unfold DataW.weights
     simp
    have := hw _ hin
    unfold reachBytes at this
    exact this
   ·
    unfold tx
    rw [List.getD_eq_getElem?_getD, List.getElem?_eq_none hj]
    exact Nat.zero_le _
theorem sG_kept {w w' : World} {X NB no i : Nat} {a1 a2 a3 : Option Addr} {c1 c2 c3 : Nat} {S : Sta} {t : ByteArray} (h : w.cell? ⟨X, 0, none⟩ = some (.slice a1 S.ino.length c1) ∧ w.cell? ⟨X, 1, none⟩ = some (.slice a2 S.opn.length c2) ∧ w.cell? ⟨X, 2, none⟩ = some (.slice a3 S.made.length c3) ∧ w.cell? ⟨NB, no + i, none⟩ = some (.string t)) (k : Kept [] w w') : w'.cell? ⟨X, 0, none⟩ = some (.slice a1 S.ino.length c1) ∧ w'.cell? ⟨X, 1, none⟩ = some (.slice a2 S.opn.length c2) ∧ w'.cell? ⟨X, 2, none⟩ = some (.slice a3 S.made.length c3) ∧ w'.cell? ⟨NB, no + i, none⟩ = some (.string t) :=
 ⟨k.cell h.1 (by simp), k.cell h.2.1 (by simp), k.cell h.2.2.1 (by simp), k.cell h.2.2.2 (by simp)⟩
theorem sG_off {w w' : World} {X NB no i : Nat} {a1 a2 a3 : Option Addr} {c1 c2 c3 : Nat} {S : Sta} {t : ByteArray} (h : w.cell? ⟨X, 0, none⟩ = some (.slice a1 S.ino.length c1) ∧ w.cell? ⟨X, 1, none⟩ = some (.slice a2 S.opn.length c2) ∧ w.cell? ⟨X, 2, none⟩ = some (.slice a3 S.made.length c3) ∧ w.cell? ⟨NB, no + i, none⟩ = some (.string t)) (e1 : w'.heap[X]? = w.heap[X]?) (e2 : w'.heap[NB]? = w.heap[NB]?) : w'.cell? ⟨X, 0, none⟩ = some (.slice a1 S.ino.length c1) ∧ w'.cell? ⟨X, 1, none⟩ = some (.slice a2 S.opn.length c2) ∧ w'.cell? ⟨X, 2, none⟩ = some (.slice a3 S.made.length c3) ∧ w'.cell? ⟨NB, no + i, none⟩ = some (.string t) :=
 ⟨(World.cell?_of_block (a := ⟨X, 0, none⟩) e1).trans h.1, (World.cell?_of_block (a := ⟨X, 1, none⟩) e1).trans h.2.1, (World.cell?_of_block (a := ⟨X, 2, none⟩) e1).trans h.2.2.1, (World.cell?_of_block (a := ⟨NB, no + i, none⟩) e2).trans h.2.2.2⟩
structure Gs (w wr : World) (X : Nat) (v1 v2 v3 : Value) (ev : List Value) (S : Sta) (many : Nat) : Prop where
 hc : Hc w wr X v1 v2 v3 ev S
 may : mayB S = true
 bd : Bd S
 form : ∃ E I m, S = gL E I m ∧ 4 ≤ m ∧ E.length = many
theorem Gs.kept {w wr w' : World} {X : Nat} {v1 v2 v3 : Value} {ev : List Value} {S : Sta} {many : Nat} (h : Gs w wr X v1 v2 v3 ev S many) (k : Kept [] wr w') : Gs w w' X v1 v2 v3 ev S many := { h with hc := h.hc.kept k }
theorem Gs.one {w wr : World} {X : Nat} {v1 v2 v3 : Value} {ev : List Value} {S : Sta} {many : Nat} (h : Gs w wr X v1 v2 v3 ev S many) : (0 : Int) < (S.made.length : Int) := by
 obtain ⟨E, I, m, rfl, -, -⟩ := h.form
 show (0 : Int) < 1
 decide
theorem gk5 {w w' : World} {b0 o0 b1 o1 b2 o2 b3 o3 b4 o4 : Nat} {v0 v1 v2 v3 v4 : Value} (h : w.cell? ⟨b0, o0, none⟩ = some v0 ∧ w.cell? ⟨b1, o1, none⟩ = some v1 ∧ w.cell? ⟨b2, o2, none⟩ = some v2 ∧ w.cell? ⟨b3, o3, none⟩ = some v3 ∧ w.cell? ⟨b4, o4, none⟩ = some v4) (k : Kept [] w w') : w'.cell? ⟨b0, o0, none⟩ = some v0 ∧ w'.cell? ⟨b1, o1, none⟩ = some v1 ∧ w'.cell? ⟨b2, o2, none⟩ = some v2 ∧ w'.cell? ⟨b3, o3, none⟩ = some v3 ∧ w'.cell? ⟨b4, o4, none⟩ = some v4 :=
 ⟨k.cell (h.1) (by simp), k.cell (h.2.1) (by simp), k.cell (h.2.2.1) (by simp), k.cell (h.2.2.2.1) (by simp), k.cell (h.2.2.2.2) (by simp)⟩
theorem gk6 {w w' : World} {b0 o0 b1 o1 b2 o2 b3 o3 b4 o4 b5 o5 : Nat} {v0 v1 v2 v3 v4 v5 : Value} (h : w.cell? ⟨b0, o0, none⟩ = some v0 ∧ w.cell? ⟨b1, o1, none⟩ = some v1 ∧ w.cell? ⟨b2, o2, none⟩ = some v2 ∧ w.cell? ⟨b3, o3, none⟩ = some v3 ∧ w.cell? ⟨b4, o4, none⟩ = some v4 ∧ w.cell? ⟨b5, o5, none⟩ = some v5) (k : Kept [] w w') : w'.cell? ⟨b0, o0, none⟩ = some v0 ∧ w'.cell? ⟨b1, o1, none⟩ = some v1 ∧ w'.cell? ⟨b2, o2, none⟩ = some v2 ∧ w'.cell? ⟨b3, o3, none⟩ = some v3 ∧ w'.cell? ⟨b4, o4, none⟩ = some v4 ∧ w'.cell? ⟨b5, o5, none⟩ = some v5 :=
 ⟨k.cell (h.1) (by simp), k.cell (h.2.1) (by simp), k.cell (h.2.2.1) (by simp), k.cell (h.2.2.2.1) (by simp), k.cell (h.2.2.2.2.1) (by simp), k.cell (h.2.2.2.2.2) (by simp)⟩
theorem lists_w {w : World} (hT0 : Tab w) {an : Option Addr} {len cap : Nat} {names : List ByteArray} (hn : IsStrs w an len names) :
  Calls Tryz.prog 4 #[.slice an len cap] w fun e w' => e = .returned (.bool true) ∧ Kept [] w w' := by
 have HN : Hid (IsStrs w an len names) := hn
 have hl63 : len ≤ 9223372036854775807 := by have := HN.out.2.2.2.1; omega
 clear hn
 have hT : Hid (Tab w) := hT0
 clear hT0
 go_enter Tryz.func4, Tryz.ntmps4
 go_wp2_with fail
 refine (awake_k hT.out).mono ?_
 rintro e U1 ⟨rfl, kk1⟩
 have HK_2 : Hid (Kept [] w U1) := kk1
 clear kk1
 go_wp2_with fail
 refine (l_made1).mono ?_
 rintro e U3 ⟨a3, b3, d3, eu3, rfl, ho3, kk3⟩
 obtain ⟨p3, m3, q3, n3, r3, t3, rfl, rfl, rfl⟩ := formsL ho3 5 1 1 rfl rfl rfl
 have HOs_3 : Hid (_) := ho3.less HK_2.out.size
 have HK_4 : Hid (_) := kt HK_2.out kk3
 clear HK_2
 clear ho3 kk3
 obtain ⟨V5, X5, HX5, HXk5, HXb5⟩ := boxR U3 #[.slice p3 5 m3, .slice q3 1 n3, .slice r3 1 t3] 27
 go_upto_region 4 with fail
 rw [HX5.out.1, HX5.out.2]
 have HLw : Hid (w.heap.size ≤ X5) := by have h1 := HK_4.out.size; have h2 := HX5.out.2; show _ ≤ _; omega
 have HOs_6 : Hid (_) := HOs_3.out.kept HXk5.out
 have HK_6 : Hid (_) := kt HK_4.out HXk5.out
 clear HOs_3 HK_4
 clear HX5 HXk5
 have HC0 : Hid (Gs w V5 X5 (.slice p3 5 m3) (.slice q3 1 n3) (.slice r3 1 t3) eu3 (mS1 7) 0) := ⟨⟨HXb5.out, HOs_6.out, off_type HOs_6.out HXb5.out (by decide), HLw.out, HK_6.out⟩, mb1_7, md1_7, [], [], 4, gl_start, by omega, rfl⟩
 clear HOs_6 HXb5 HK_6
 obtain ⟨X, hXe⟩ : ∃ X, X5 = X := ⟨_, rfl⟩
 rw [hXe] at HC0
 go_wp2_with fail
 rw [hXe]
 clear hXe
 go_loopw [5, 4] (fun ix mx w9 => ∃ (i many : Nat) (v1 v2 v3 : Value) (ev : List Value) (S : Sta), ix = .int .i64 (i : Int) ∧ mx = .int .i64 (many : Int) ∧ i ≤ len ∧ i ≤ 20 ∧ many ≤ i ∧ Hid (Gs w w9 X v1 v2 v3 ev S many)) (fun ix _ _ => (20 - intOf ix).toNat)
 case atStart => exact ⟨0, 0, _, _, _, _, _, rfl, rfl, by omega, by omega, by omega, HC0.out⟩
 case round =>
  clear HC0
  obtain ⟨i, many, v1, v2, v3, ev, S, rfl, rfl, hi, hi20, hmi, HJ0⟩ := hrel
  have HG : Hid (_) := HJ0.out
  obtain ⟨a1, c1, hv1, -⟩ := row_form HG.out.hc.os.ino
  obtain ⟨a2, c2, hv2, -⟩ := row_form HG.out.hc.os.opn
  obtain ⟨a3, c3, hv3, -⟩ := row_form HG.out.hc.os.mad
  subst hv1 hv2 hv3
  clear HJ0
  obtain ⟨E, I, m, hS, hm4, hEm⟩ := HG.out.form
  have HE : Hid (S = gL E I m ∧ 4 ≤ m ∧ E.length = many) := ⟨hS, hm4, hEm⟩
  have HMy : Hid (mayB (gL E I m) = true) := by rw [← hS]; exact HG.out.may
  clear hS hm4 hEm
  by_cases hlt : i < len ∧ i < 20
  ·
   obtain ⟨hlt, hlt2⟩ := hlt
   have i0 : (0 : Int) ≤ (i : Int) := by omega
   have i1 : (i : Int) < (len : Int) := by omega
   have i2 : (i : Int) < 20 := by omega
   obtain ⟨NB, no, hna, hnc⟩ := HN.out.2.1.2 i (by have := HN.out.1; omega)
   obtain ⟨t, htt⟩ : ∃ t, tx names i = t := ⟨_, rfl⟩
   rw [htt] at hnc
   have HTs : Hid (t.size ≤ 140737488351232) := by rw [← htt]; exact HN.out.2.2.1 i
   have hts : t.size ≤ 140737488351232 := HTs.out
   have hs3 : ¬ 9223372036854775807 < 3 + t.size := by omega
   subst hna
   have hnw : wr.cell? ⟨NB, no + i, none⟩ = some (.string t) := HG.out.hc.k.cell hnc (by simp)
   have HNw : Hid (wr.cell? ⟨NB, no + i, none⟩ = some (.string t)) := hnw
   have HNb : Hid (NB < wr.heap.size) := block_lt_of_cell hnw
   have HJ : Hid (Hc w wr X (.slice a1 S.ino.length c1) (.slice a2 S.opn.length c2) (.slice a3 S.made.length c3) ev S ∧ True) := ⟨HG.out.hc, trivial⟩
   have HS : Hid (wr.cell? ⟨X, 0, none⟩ = some (.slice a1 S.ino.length c1) ∧ wr.cell? ⟨X, 1, none⟩ = some (.slice a2 S.opn.length c2) ∧ wr.cell? ⟨X, 2, none⟩ = some (.slice a3 S.made.length c3) ∧ wr.cell? ⟨NB, no + i, none⟩ = some (.string t)) := ⟨cellB HG.out.hc.box, cellB HG.out.hc.box, cellB HG.out.hc.box, hnw⟩
   obtain ⟨pt, hpt⟩ : ∃ pt, ⟨#[47, 101, 47]⟩ ++ t = pt := ⟨_, rfl⟩
   have HPt : Hid (⟨#[47, 101, 47]⟩ ++ t = pt) := hpt
   obtain ⟨Z, A, hZA⟩ : ∃ Z A, playR S ⟨0, 0, 0, 0, 0, pt, ⟨#[]⟩, ⟨#[]⟩⟩ headI = (Z, A) := ⟨_, _, rfl⟩
   have HZA : Hid (playR S ⟨0, 0, 0, 0, 0, pt, ⟨#[]⟩, ⟨#[]⟩⟩ headI = (Z, A)) := hZA
   have HDc : Hid (∀ W, Kept [] wr W → Calls Tryz.prog 9 #[.agg #[.slice a1 S.ino.length c1, .slice a2 S.opn.length c2, .slice a3 S.made.length c3], .agg #[.int .i64 0, .int .i64 0, .int .i64 0, .int .i64 0, .int .i64 0, .string pt, .string ⟨#[]⟩, .string ⟨#[]⟩]] W fun e w' => ∃ v1 v2 v3 eu z l k, e = .returned (.tuple #[.agg #[v1, v2, v3], .agg #[.int .i64 A.code, .int .i64 A.fd, .int .i64 A.num, .bool A.dir, .string A.data, .slice z l k]]) ∧ Os w' W.heap.size v1 v2 v3 eu Z ∧ Kept [] W w' ∧ Bd Z) := fun W kW => by
    refine (l_DoK (HG.out.hc.os.kept kW) HG.out.bd (hT.out.kept (HG.out.hc.k.trans kW (by simp))) ⟨0, 0, 0, 0, 0, pt, ⟨#[]⟩, ⟨#[]⟩⟩ (dl0 HG.out.may (Int.le_refl _) HG.out.one rfl) HZA.out).mono ?_
    rintro e w' ⟨v1, v2, v3, eu, z, l, k, he, ho, -, -, kk, hbz⟩
    exact ⟨v1, v2, v3, eu, z, l, k, he, ho, kk, hbz⟩
   rw [← hpt] at HDc
   clear hZA htt hnc hnw hpt
   go_upto_region 8 with fail
   go_cut [6, 7] from 24 to 34 (fun v v8 wx => ∃ (Y Y8 : Nat) (b1 b2 b3 : Option Addr) (d1 d2 d3 : Nat) (eu : List Value) (z : Option Addr) (l k : Nat), v = .pointer (some ⟨Y, 0, none⟩) ∧ v8 = .pointer (some ⟨Y8, 0, none⟩) ∧ Hid (wx.heap[Y]? = some (.cells #[.slice b1 Z.ino.length d1, .slice b2 Z.opn.length d2, .slice b3 Z.made.length d3] 27 (0, 0)) ∧ Os wx wr.heap.size (.slice b1 Z.ino.length d1) (.slice b2 Z.opn.length d2) (.slice b3 Z.made.length d3) eu Z ∧ Kept [] wr wx ∧ wx.heap[Y8]? = some (.cells #[.int .i64 A.code, .int .i64 A.fd, .int .i64 A.num, .bool A.dir, .string A.data, .slice z l k] 31 (0, 0)) ∧ Bd Z))
   case first =>
    refine wp_region_held_drew (S := fun w' => w'.cell? ⟨X, 0, none⟩ = some (.slice a1 S.ino.length c1) ∧ w'.cell? ⟨X, 1, none⟩ = some (.slice a2 S.opn.length c2) ∧ w'.cell? ⟨X, 2, none⟩ = some (.slice a3 S.made.length c3) ∧ w'.cell? ⟨NB, no + i, none⟩ = some (.string t)) (by kernel_rfl) ?_ (fun hHeld => ?_)
    · exact HS.out
    obtain ⟨u0, hu0⟩ : ∃ u0, wr.drew = u0 := ⟨_, rfl⟩
    have HK : Hid (Kept [] wr u0) := by rw [← hu0]; exact (Kept.refl _ _).drew
    rw [hu0] at hHeld ⊢
    clear hu0
    refine tkA 0 rfl ?_
    refine tkA 1 rfl ?_
    refine tkA 2 rfl ?_
    refine tkA 3 rfl ?_
    refine tkA 4 rfl ?_
    refine tkA 5 rfl ?_
    refine tkA 6 rfl ?_
    refine wpAnyH_ready (rs := [7, 11, 12]) (by kernel_rfl) (by simp) ?_
    refine AllReadyH.cons rfl (fun K hK => ?_) (AllReadyH.cons rfl (fun K hK => ?_) (AllReadyH.cons rfl (fun K hK => ?_) AllReadyH.nil))
    ·
     go_simp
     refine (HDc.out _ HK.out).mono ?_
     rintro e u1 ⟨v1, v2, v3, eu, z, l, k, rfl, o5, k5, hbz⟩
     have HBz : Hid (Bd Z) := hbz
     clear hbz
     obtain ⟨b1, d1, hv1, -⟩ := row_form o5.ino
     obtain ⟨b2, d2, hv2, -⟩ := row_form o5.opn
     obtain ⟨b3, d3, hv3, -⟩ := row_form o5.mad
     subst hv1 hv2 hv3
     have z5 := sG_kept hHeld k5
     go_wp2_with fail
     refine hK.out _ _ ?_ (fun hHeld => ?_)
     · exact z5
     clear hK K z5
     try simp only [Act.put, lz0, lz1, lz2, lz3, lz4, lz5]
     have HK2 : Hid (Kept [] wr u1) := HK.out.trans k5 (by simp)
     have O5 : Hid (Os u1 wr.heap.size (.slice b1 Z.ino.length d1) (.slice b2 Z.opn.length d2) (.slice b3 Z.made.length d3) eu Z) := o5.less HK.out.size
     clear o5 k5 HK 
     refine tkA 8 rfl ?_
     refine tkA 9 rfl ?_
     refine tkA 10 rfl ?_
     have HK : Hid (_) := HK2.out
     clear HK2
     refine wpAnyH_ready (rs := [11, 12]) (by kernel_rfl) (by simp) ?_
     refine AllReadyH.cons rfl (fun K hK => ?_) (AllReadyH.cons rfl (fun K hK => ?_) AllReadyH.nil)
     ·
      go_simp
      refine hK.out _ _ ?_ (fun hHeld => ?_)
      · exact sG_kept hHeld ((Kept.refl _ _).alloc _)
      clear hK K
      try simp only [Act.put, lz0, lz1, lz2, lz3, lz4, lz5]
      obtain ⟨ux57, Y7, HY, HKY, B7⟩ := boxY u1 #[.slice none 0 0, .slice none 0 0, .slice none 0 0] 27
      rw [HY.out.1] at hHeld
      rw [HY.out.1, HY.out.2]
      have M7 : Hid (wr.heap.size ≤ Y7) := by have h1 := HK.out.size; have h2 := HY.out.2; show _ ≤ _; omega
      have HK2 : Hid (_) := HK.out.trans HKY.out (by simp)
      have O5x : Hid (_) := O5.out.kept HKY.out
      clear HK HY HKY  O5
      have HK : Hid (_) := HK2.out
      clear HK2
      have O5 : Hid (_) := O5x.out
      clear O5x
      refine wpAnyH_ready (rs := [12]) (by kernel_rfl) (by simp) ?_
      refine AllReadyH.cons rfl (fun K hK => ?_) AllReadyH.nil
      go_simp
      refine hK.out _ _ ?_ (fun hHeld => ?_)
      · exact sG_kept hHeld ((Kept.refl _ _).alloc _)
      clear hK K
      try simp only [Act.put, lz0, lz1, lz2, lz3, lz4, lz5]
      obtain ⟨ux578, Y8, HY, HKY, B8⟩ := boxY ux57 #[.int .i64 0, .int .i64 0, .int .i64 0, .bool false, .string ⟨#[]⟩, .slice none 0 0] 31
      rw [HY.out.1] at hHeld
      rw [HY.out.1, HY.out.2]
      have M8 : Hid (wr.heap.size ≤ Y8) := by have h1 := HK.out.size; have h2 := HY.out.2; show _ ≤ _; omega
      have HK2 : Hid (_) := HK.out.trans HKY.out (by simp)
      have B7x : Hid (_) := (HKY.out.block _ (lt_of_heap B7.out) (by simp)).trans B7.out
      have O5x : Hid (_) := O5.out.kept HKY.out
      clear HK HY HKY B7 O5
      have HK : Hid (_) := HK2.out
      clear HK2
      have B7 : Hid (_) := B7x.out
      clear B7x
      have O5 : Hid (_) := O5x.out
      clear O5x
      have O : Hid (Os ux578 wr.heap.size (.slice b1 Z.ino.length d1) (.slice b2 Z.opn.length d2) (.slice b3 Z.made.length d3) eu Z ∧ Off [Y7] (.slice b1 Z.ino.length d1) (.slice b2 Z.opn.length d2) (.slice b3 Z.made.length d3) eu ∧ Off [Y8] (.slice b1 Z.ino.length d1) (.slice b2 Z.opn.length d2) (.slice b3 Z.made.length d3) eu) := ⟨O5.out, off_type O5.out B7.out (by decide), off_type O5.out B8.out (by decide)⟩
      have N78 : Hid (Y7 ≠ Y8) := fun e => by have h1 := B7.out; rw [e, B8.out] at h1; simp at h1
      have L7 : Hid (wr.heap.size ≤ Y7) := M7.out
      have L8 : Hid (wr.heap.size ≤ Y8) := M8.out
      have N7 : Hid (X ≠ Y7 ∧ NB ≠ Y7) := by have h1 := HNb.out; have h3 := lt_of_heap HJ.out.1.box; have h2 := L7.out; exact ⟨by omega, by omega⟩
      have N8 : Hid (X ≠ Y8 ∧ NB ≠ Y8) := by have h1 := HNb.out; have h3 := lt_of_heap HJ.out.1.box; have h2 := L8.out; exact ⟨by omega, by omega⟩
      obtain ⟨g0, g1, g2, s0, s1, s2⟩ := zs3 B7.out
      refine wpAnyH_ready (rs := [13]) (by kernel_rfl) (by simp) ?_
      refine AllReadyH.cons rfl (fun K hK => ?_) AllReadyH.nil
      go_simp
      refine hK.out _ _ ?_ (fun hHeld => ?_)
      · exact sG_off hHeld (otherZ N7.out.1) (otherZ N7.out.2)
      clear hK K
      try simp only [Act.put, lz0, lz1, lz2, lz3, lz4, lz5]
      obtain ⟨x, hx⟩ : ∃ x, laidZ ux578 Y7 (.slice b1 Z.ino.length d1) (.slice b2 Z.opn.length d2) (.slice b3 Z.made.length d3) = x := ⟨_, rfl⟩
      have C7 : Hid (_) := blockZ B7.out (.slice b1 Z.ino.length d1) (.slice b2 Z.opn.length d2) (.slice b3 Z.made.length d3)
      have C8 : Hid (_) := (otherZ (w := ux578) (R := Y7) (a := .slice b1 Z.ino.length d1) (b := .slice b2 Z.opn.length d2) (c := .slice b3 Z.made.length d3) N78.out.symm).trans B8.out
      have Kx : Hid (_) := keptZ HK.out L7.out (.slice b1 Z.ino.length d1) (.slice b2 Z.opn.length d2) (.slice b3 Z.made.length d3)
      have Ox : Hid (_) := O.out.1.keep (kept3Z ux578 Y7 (.slice b1 Z.ino.length d1) (.slice b2 Z.opn.length d2) (.slice b3 Z.made.length d3)) O.out.2.1
      rw [hx] at C7 C8 Kx Ox
      unfold Go.Proofs.YtffncojcnbhblaaGreatDoor.laidZ at hx
      rw [hx] at hHeld ⊢
      clear hx g0 g1 g2 s0 s1 s2
      obtain ⟨g0, g1, g2, g3, g4, g5, s0, s1, s2, s3, s4, s5⟩ := rs6 C8.out
      refine wpAnyH_ready (rs := [14]) (by kernel_rfl) (by simp) ?_
      refine AllReadyH.cons rfl (fun K hK => ?_) AllReadyH.nil
      go_simp
      refine hK.out _ _ ?_ (fun hHeld => ?_)
      · exact sG_off hHeld (otherY N8.out.1) (otherY N8.out.2)
      clear hK K
      try simp only [Act.put, lz0, lz1, lz2, lz3, lz4, lz5]
      obtain ⟨y, hy⟩ : ∃ y, laidY x Y8 (.int .i64 A.code) (.int .i64 A.fd) (.int .i64 A.num) (.bool A.dir) (.string A.data) (.slice z l k) = y := ⟨_, rfl⟩
      have D7 : Hid (_) := (otherY (w := x) (R := Y8) (a := .int .i64 A.code) (b := .int .i64 A.fd) (c := .int .i64 A.num) (d := .bool A.dir) (e := .string A.data) (f := .slice z l k) N78.out).trans C7.out
      have D8 : Hid (_) := blockY C8.out (.int .i64 A.code) (.int .i64 A.fd) (.int .i64 A.num) (.bool A.dir) (.string A.data) (.slice z l k)
      have Ky : Hid (_) := keptY Kx.out L8.out (.int .i64 A.code) (.int .i64 A.fd) (.int .i64 A.num) (.bool A.dir) (.string A.data) (.slice z l k)
      have Oy : Hid (_) := Ox.out.keep (kept6Y x Y8 (.int .i64 A.code) (.int .i64 A.fd) (.int .i64 A.num) (.bool A.dir) (.string A.data) (.slice z l k)) O.out.2.2
      rw [hy] at D7 D8 Ky Oy
      unfold Go.Proofs.YtffncojcnbhblaaGreatDoor.laidY at hy
      rw [hy] at hHeld ⊢
      clear hy hHeld g0 g1 g2 g3 g4 g5 s0 s1 s2 s3 s4 s5
      refine wpAnyH_done (by kernel_rfl) ?_ _
      go_wp2_with fail
      go_meet
      case rel => exact ⟨Y7, Y8, b1, b2, b3, d1, d2, d3, eu, z, l, k, rfl, rfl, D7.out, Oy.out, Ky.out, D8.out, HBz.out⟩
     ·
      go_simp
      refine hK.out _ _ ?_ (fun hHeld => ?_)
      · exact sG_kept hHeld ((Kept.refl _ _).alloc _)
      clear hK K
      try simp only [Act.put, lz0, lz1, lz2, lz3, lz4, lz5]
      obtain ⟨ux58, Y8, HY, HKY, B8⟩ := boxY u1 #[.int .i64 0, .int .i64 0, .int .i64 0, .bool false, .string ⟨#[]⟩, .slice none 0 0] 31
      rw [HY.out.1] at hHeld
      rw [HY.out.1, HY.out.2]
      have M8 : Hid (wr.heap.size ≤ Y8) := by have h1 := HK.out.size; have h2 := HY.out.2; show _ ≤ _; omega
      have HK2 : Hid (_) := HK.out.trans HKY.out (by simp)
      have O5x : Hid (_) := O5.out.kept HKY.out
      clear HK HY HKY  O5
      have HK : Hid (_) := HK2.out
      clear HK2
      have O5 : Hid (_) := O5x.out
      clear O5x
      refine wpAnyH_ready (rs := [11]) (by kernel_rfl) (by simp) ?_
      refine AllReadyH.cons rfl (fun K hK => ?_) AllReadyH.nil
      go_simp
      refine hK.out _ _ ?_ (fun hHeld => ?_)
      · exact sG_kept hHeld ((Kept.refl _ _).alloc _)
      clear hK K
      try simp only [Act.put, lz0, lz1, lz2, lz3, lz4, lz5]
      obtain ⟨ux587, Y7, HY, HKY, B7⟩ := boxY ux58 #[.slice none 0 0, .slice none 0 0, .slice none 0 0] 27
      rw [HY.out.1] at hHeld
      rw [HY.out.1, HY.out.2]
      have M7 : Hid (wr.heap.size ≤ Y7) := by have h1 := HK.out.size; have h2 := HY.out.2; show _ ≤ _; omega
      have HK2 : Hid (_) := HK.out.trans HKY.out (by simp)
      have B8x : Hid (_) := (HKY.out.block _ (lt_of_heap B8.out) (by simp)).trans B8.out
      have O5x : Hid (_) := O5.out.kept HKY.out
      clear HK HY HKY B8 O5
      have HK : Hid (_) := HK2.out
      clear HK2
      have B8 : Hid (_) := B8x.out
      clear B8x
      have O5 : Hid (_) := O5x.out
      clear O5x
      have O : Hid (Os ux587 wr.heap.size (.slice b1 Z.ino.length d1) (.slice b2 Z.opn.length d2) (.slice b3 Z.made.length d3) eu Z ∧ Off [Y7] (.slice b1 Z.ino.length d1) (.slice b2 Z.opn.length d2) (.slice b3 Z.made.length d3) eu ∧ Off [Y8] (.slice b1 Z.ino.length d1) (.slice b2 Z.opn.length d2) (.slice b3 Z.made.length d3) eu) := ⟨O5.out, off_type O5.out B7.out (by decide), off_type O5.out B8.out (by decide)⟩
      have N78 : Hid (Y7 ≠ Y8) := fun e => by have h1 := B7.out; rw [e, B8.out] at h1; simp at h1
      have L7 : Hid (wr.heap.size ≤ Y7) := M7.out
      have L8 : Hid (wr.heap.size ≤ Y8) := M8.out
      have N7 : Hid (X ≠ Y7 ∧ NB ≠ Y7) := by have h1 := HNb.out; have h3 := lt_of_heap HJ.out.1.box; have h2 := L7.out; exact ⟨by omega, by omega⟩
      have N8 : Hid (X ≠ Y8 ∧ NB ≠ Y8) := by have h1 := HNb.out; have h3 := lt_of_heap HJ.out.1.box; have h2 := L8.out; exact ⟨by omega, by omega⟩
      obtain ⟨g0, g1, g2, s0, s1, s2⟩ := zs3 B7.out
      refine wpAnyH_ready (rs := [13]) (by kernel_rfl) (by simp) ?_
      refine AllReadyH.cons rfl (fun K hK => ?_) AllReadyH.nil
      go_simp
      refine hK.out _ _ ?_ (fun hHeld => ?_)
      · exact sG_off hHeld (otherZ N7.out.1) (otherZ N7.out.2)
      clear hK K
      try simp only [Act.put, lz0, lz1, lz2, lz3, lz4, lz5]
      obtain ⟨x, hx⟩ : ∃ x, laidZ ux587 Y7 (.slice b1 Z.ino.length d1) (.slice b2 Z.opn.length d2) (.slice b3 Z.made.length d3) = x := ⟨_, rfl⟩
      have C7 : Hid (_) := blockZ B7.out (.slice b1 Z.ino.length d1) (.slice b2 Z.opn.length d2) (.slice b3 Z.made.length d3)
      have C8 : Hid (_) := (otherZ (w := ux587) (R := Y7) (a := .slice b1 Z.ino.length d1) (b := .slice b2 Z.opn.length d2) (c := .slice b3 Z.made.length d3) N78.out.symm).trans B8.out
      have Kx : Hid (_) := keptZ HK.out L7.out (.slice b1 Z.ino.length d1) (.slice b2 Z.opn.length d2) (.slice b3 Z.made.length d3)
      have Ox : Hid (_) := O.out.1.keep (kept3Z ux587 Y7 (.slice b1 Z.ino.length d1) (.slice b2 Z.opn.length d2) (.slice b3 Z.made.length d3)) O.out.2.1
      rw [hx] at C7 C8 Kx Ox
      unfold Go.Proofs.YtffncojcnbhblaaGreatDoor.laidZ at hx
      rw [hx] at hHeld ⊢
      clear hx g0 g1 g2 s0 s1 s2
      obtain ⟨g0, g1, g2, g3, g4, g5, s0, s1, s2, s3, s4, s5⟩ := rs6 C8.out
      refine wpAnyH_ready (rs := [14]) (by kernel_rfl) (by simp) ?_
      refine AllReadyH.cons rfl (fun K hK => ?_) AllReadyH.nil
      go_simp
      refine hK.out _ _ ?_ (fun hHeld => ?_)
      · exact sG_off hHeld (otherY N8.out.1) (otherY N8.out.2)
      clear hK K
      try simp only [Act.put, lz0, lz1, lz2, lz3, lz4, lz5]
      obtain ⟨y, hy⟩ : ∃ y, laidY x Y8 (.int .i64 A.code) (.int .i64 A.fd) (.int .i64 A.num) (.bool A.dir) (.string A.data) (.slice z l k) = y := ⟨_, rfl⟩
      have D7 : Hid (_) := (otherY (w := x) (R := Y8) (a := .int .i64 A.code) (b := .int .i64 A.fd) (c := .int .i64 A.num) (d := .bool A.dir) (e := .string A.data) (f := .slice z l k) N78.out).trans C7.out
      have D8 : Hid (_) := blockY C8.out (.int .i64 A.code) (.int .i64 A.fd) (.int .i64 A.num) (.bool A.dir) (.string A.data) (.slice z l k)
      have Ky : Hid (_) := keptY Kx.out L8.out (.int .i64 A.code) (.int .i64 A.fd) (.int .i64 A.num) (.bool A.dir) (.string A.data) (.slice z l k)
      have Oy : Hid (_) := Ox.out.keep (kept6Y x Y8 (.int .i64 A.code) (.int .i64 A.fd) (.int .i64 A.num) (.bool A.dir) (.string A.data) (.slice z l k)) O.out.2.2
      rw [hy] at D7 D8 Ky Oy
      unfold Go.Proofs.YtffncojcnbhblaaGreatDoor.laidY at hy
      rw [hy] at hHeld ⊢
      clear hy hHeld g0 g1 g2 g3 g4 g5 s0 s1 s2 s3 s4 s5
      refine wpAnyH_done (by kernel_rfl) ?_ _
      go_wp2_with fail
      go_meet
      case rel => exact ⟨Y7, Y8, b1, b2, b3, d1, d2, d3, eu, z, l, k, rfl, rfl, D7.out, Oy.out, Ky.out, D8.out, HBz.out⟩
    ·
     go_simp
     refine hK.out _ _ ?_ (fun hHeld => ?_)
     · exact sG_kept hHeld ((Kept.refl _ _).alloc _)
     clear hK K
     try simp only [Act.put, lz0, lz1, lz2, lz3, lz4, lz5]
     obtain ⟨ux7, Y7, HY, HKY, B7⟩ := boxY u0 #[.slice none 0 0, .slice none 0 0, .slice none 0 0] 27
     rw [HY.out.1] at hHeld
     rw [HY.out.1, HY.out.2]
     have M7 : Hid (wr.heap.size ≤ Y7) := by have h1 := HK.out.size; have h2 := HY.out.2; show _ ≤ _; omega
     have HK2 : Hid (_) := HK.out.trans HKY.out (by simp)
     clear HK HY HKY 
     have HK : Hid (_) := HK2.out
     clear HK2
     refine wpAnyH_ready (rs := [7, 12]) (by kernel_rfl) (by simp) ?_
     refine AllReadyH.cons rfl (fun K hK => ?_) (AllReadyH.cons rfl (fun K hK => ?_) AllReadyH.nil)
     ·
      go_simp
      refine (HDc.out _ HK.out).mono ?_
      rintro e u1 ⟨v1, v2, v3, eu, z, l, k, rfl, o5, k5, hbz⟩
      have HBz : Hid (Bd Z) := hbz
      clear hbz
      obtain ⟨b1, d1, hv1, -⟩ := row_form o5.ino
      obtain ⟨b2, d2, hv2, -⟩ := row_form o5.opn
      obtain ⟨b3, d3, hv3, -⟩ := row_form o5.mad
      subst hv1 hv2 hv3
      have z5 := sG_kept hHeld k5
      go_wp2_with fail
      refine hK.out _ _ ?_ (fun hHeld => ?_)
      · exact z5
      clear hK K z5
      try simp only [Act.put, lz0, lz1, lz2, lz3, lz4, lz5]
      have HK2 : Hid (Kept [] wr u1) := HK.out.trans k5 (by simp)
      have B7x : Hid (_) := (k5.block _ (lt_of_heap B7.out) (by simp)).trans B7.out
      have O5 : Hid (Os u1 wr.heap.size (.slice b1 Z.ino.length d1) (.slice b2 Z.opn.length d2) (.slice b3 Z.made.length d3) eu Z) := o5.less HK.out.size
      clear o5 k5 HK B7
      refine tkA 8 rfl ?_
      refine tkA 9 rfl ?_
      refine tkA 10 rfl ?_
      have HK : Hid (_) := HK2.out
      clear HK2
      have B7 : Hid (_) := B7x.out
      clear B7x
      refine wpAnyH_ready (rs := [12]) (by kernel_rfl) (by simp) ?_
      refine AllReadyH.cons rfl (fun K hK => ?_) AllReadyH.nil
      go_simp
      refine hK.out _ _ ?_ (fun hHeld => ?_)
      · exact sG_kept hHeld ((Kept.refl _ _).alloc _)
      clear hK K
      try simp only [Act.put, lz0, lz1, lz2, lz3, lz4, lz5]
      obtain ⟨ux758, Y8, HY, HKY, B8⟩ := boxY u1 #[.int .i64 0, .int .i64 0, .int .i64 0, .bool false, .string ⟨#[]⟩, .slice none 0 0] 31
      rw [HY.out.1] at hHeld
      rw [HY.out.1, HY.out.2]
      have M8 : Hid (wr.heap.size ≤ Y8) := by have h1 := HK.out.size; have h2 := HY.out.2; show _ ≤ _; omega
      have HK2 : Hid (_) := HK.out.trans HKY.out (by simp)
      have B7x : Hid (_) := (HKY.out.block _ (lt_of_heap B7.out) (by simp)).trans B7.out
      have O5x : Hid (_) := O5.out.kept HKY.out
      clear HK HY HKY B7 O5
      have HK : Hid (_) := HK2.out
      clear HK2
      have B7 : Hid (_) := B7x.out
      clear B7x
      have O5 : Hid (_) := O5x.out
      clear O5x
      have O : Hid (Os ux758 wr.heap.size (.slice b1 Z.ino.length d1) (.slice b2 Z.opn.length d2) (.slice b3 Z.made.length d3) eu Z ∧ Off [Y7] (.slice b1 Z.ino.length d1) (.slice b2 Z.opn.length d2) (.slice b3 Z.made.length d3) eu ∧ Off [Y8] (.slice b1 Z.ino.length d1) (.slice b2 Z.opn.length d2) (.slice b3 Z.made.length d3) eu) := ⟨O5.out, off_type O5.out B7.out (by decide), off_type O5.out B8.out (by decide)⟩
      have N78 : Hid (Y7 ≠ Y8) := fun e => by have h1 := B7.out; rw [e, B8.out] at h1; simp at h1
      have L7 : Hid (wr.heap.size ≤ Y7) := M7.out
      have L8 : Hid (wr.heap.size ≤ Y8) := M8.out
      have N7 : Hid (X ≠ Y7 ∧ NB ≠ Y7) := by have h1 := HNb.out; have h3 := lt_of_heap HJ.out.1.box; have h2 := L7.out; exact ⟨by omega, by omega⟩
      have N8 : Hid (X ≠ Y8 ∧ NB ≠ Y8) := by have h1 := HNb.out; have h3 := lt_of_heap HJ.out.1.box; have h2 := L8.out; exact ⟨by omega, by omega⟩
      obtain ⟨g0, g1, g2, s0, s1, s2⟩ := zs3 B7.out
      refine wpAnyH_ready (rs := [13]) (by kernel_rfl) (by simp) ?_
      refine AllReadyH.cons rfl (fun K hK => ?_) AllReadyH.nil
      go_simp
      refine hK.out _ _ ?_ (fun hHeld => ?_)
      · exact sG_off hHeld (otherZ N7.out.1) (otherZ N7.out.2)
      clear hK K
      try simp only [Act.put, lz0, lz1, lz2, lz3, lz4, lz5]
      obtain ⟨x, hx⟩ : ∃ x, laidZ ux758 Y7 (.slice b1 Z.ino.length d1) (.slice b2 Z.opn.length d2) (.slice b3 Z.made.length d3) = x := ⟨_, rfl⟩
      have C7 : Hid (_) := blockZ B7.out (.slice b1 Z.ino.length d1) (.slice b2 Z.opn.length d2) (.slice b3 Z.made.length d3)
      have C8 : Hid (_) := (otherZ (w := ux758) (R := Y7) (a := .slice b1 Z.ino.length d1) (b := .slice b2 Z.opn.length d2) (c := .slice b3 Z.made.length d3) N78.out.symm).trans B8.out
      have Kx : Hid (_) := keptZ HK.out L7.out (.slice b1 Z.ino.length d1) (.slice b2 Z.opn.length d2) (.slice b3 Z.made.length d3)
      have Ox : Hid (_) := O.out.1.keep (kept3Z ux758 Y7 (.slice b1 Z.ino.length d1) (.slice b2 Z.opn.length d2) (.slice b3 Z.made.length d3)) O.out.2.1
      rw [hx] at C7 C8 Kx Ox
      unfold Go.Proofs.YtffncojcnbhblaaGreatDoor.laidZ at hx
      rw [hx] at hHeld ⊢
      clear hx g0 g1 g2 s0 s1 s2
      obtain ⟨g0, g1, g2, g3, g4, g5, s0, s1, s2, s3, s4, s5⟩ := rs6 C8.out
      refine wpAnyH_ready (rs := [14]) (by kernel_rfl) (by simp) ?_
      refine AllReadyH.cons rfl (fun K hK => ?_) AllReadyH.nil
      go_simp
      refine hK.out _ _ ?_ (fun hHeld => ?_)
      · exact sG_off hHeld (otherY N8.out.1) (otherY N8.out.2)
      clear hK K
      try simp only [Act.put, lz0, lz1, lz2, lz3, lz4, lz5]
      obtain ⟨y, hy⟩ : ∃ y, laidY x Y8 (.int .i64 A.code) (.int .i64 A.fd) (.int .i64 A.num) (.bool A.dir) (.string A.data) (.slice z l k) = y := ⟨_, rfl⟩
      have D7 : Hid (_) := (otherY (w := x) (R := Y8) (a := .int .i64 A.code) (b := .int .i64 A.fd) (c := .int .i64 A.num) (d := .bool A.dir) (e := .string A.data) (f := .slice z l k) N78.out).trans C7.out
      have D8 : Hid (_) := blockY C8.out (.int .i64 A.code) (.int .i64 A.fd) (.int .i64 A.num) (.bool A.dir) (.string A.data) (.slice z l k)
      have Ky : Hid (_) := keptY Kx.out L8.out (.int .i64 A.code) (.int .i64 A.fd) (.int .i64 A.num) (.bool A.dir) (.string A.data) (.slice z l k)
      have Oy : Hid (_) := Ox.out.keep (kept6Y x Y8 (.int .i64 A.code) (.int .i64 A.fd) (.int .i64 A.num) (.bool A.dir) (.string A.data) (.slice z l k)) O.out.2.2
      rw [hy] at D7 D8 Ky Oy
      unfold Go.Proofs.YtffncojcnbhblaaGreatDoor.laidY at hy
      rw [hy] at hHeld ⊢
      clear hy hHeld g0 g1 g2 g3 g4 g5 s0 s1 s2 s3 s4 s5
      refine wpAnyH_done (by kernel_rfl) ?_ _
      go_wp2_with fail
      go_meet
      case rel => exact ⟨Y7, Y8, b1, b2, b3, d1, d2, d3, eu, z, l, k, rfl, rfl, D7.out, Oy.out, Ky.out, D8.out, HBz.out⟩
     ·
      go_simp
      refine hK.out _ _ ?_ (fun hHeld => ?_)
      · exact sG_kept hHeld ((Kept.refl _ _).alloc _)
      clear hK K
      try simp only [Act.put, lz0, lz1, lz2, lz3, lz4, lz5]
      obtain ⟨ux78, Y8, HY, HKY, B8⟩ := boxY ux7 #[.int .i64 0, .int .i64 0, .int .i64 0, .bool false, .string ⟨#[]⟩, .slice none 0 0] 31
      rw [HY.out.1] at hHeld
      rw [HY.out.1, HY.out.2]
      have M8 : Hid (wr.heap.size ≤ Y8) := by have h1 := HK.out.size; have h2 := HY.out.2; show _ ≤ _; omega
      have HK2 : Hid (_) := HK.out.trans HKY.out (by simp)
      have B7x : Hid (_) := (HKY.out.block _ (lt_of_heap B7.out) (by simp)).trans B7.out
      clear HK HY HKY B7
      have HK : Hid (_) := HK2.out
      clear HK2
      have B7 : Hid (_) := B7x.out
      clear B7x
      refine wpAnyH_ready (rs := [7]) (by kernel_rfl) (by simp) ?_
      refine AllReadyH.cons rfl (fun K hK => ?_) AllReadyH.nil
      go_simp
      refine (HDc.out _ HK.out).mono ?_
      rintro e u1 ⟨v1, v2, v3, eu, z, l, k, rfl, o5, k5, hbz⟩
      have HBz : Hid (Bd Z) := hbz
      clear hbz
      obtain ⟨b1, d1, hv1, -⟩ := row_form o5.ino
      obtain ⟨b2, d2, hv2, -⟩ := row_form o5.opn
      obtain ⟨b3, d3, hv3, -⟩ := row_form o5.mad
      subst hv1 hv2 hv3
      have z5 := sG_kept hHeld k5
      go_wp2_with fail
      refine hK.out _ _ ?_ (fun hHeld => ?_)
      · exact z5
      clear hK K z5
      try simp only [Act.put, lz0, lz1, lz2, lz3, lz4, lz5]
      have HK2 : Hid (Kept [] wr u1) := HK.out.trans k5 (by simp)
      have B7x : Hid (_) := (k5.block _ (lt_of_heap B7.out) (by simp)).trans B7.out
      have B8x : Hid (_) := (k5.block _ (lt_of_heap B8.out) (by simp)).trans B8.out
      have O5 : Hid (Os u1 wr.heap.size (.slice b1 Z.ino.length d1) (.slice b2 Z.opn.length d2) (.slice b3 Z.made.length d3) eu Z) := o5.less HK.out.size
      clear o5 k5 HK B7 B8
      refine tkA 8 rfl ?_
      refine tkA 9 rfl ?_
      refine tkA 10 rfl ?_
      have HK : Hid (_) := HK2.out
      clear HK2
      have B7 : Hid (_) := B7x.out
      clear B7x
      have B8 : Hid (_) := B8x.out
      clear B8x
      have O : Hid (Os u1 wr.heap.size (.slice b1 Z.ino.length d1) (.slice b2 Z.opn.length d2) (.slice b3 Z.made.length d3) eu Z ∧ Off [Y7] (.slice b1 Z.ino.length d1) (.slice b2 Z.opn.length d2) (.slice b3 Z.made.length d3) eu ∧ Off [Y8] (.slice b1 Z.ino.length d1) (.slice b2 Z.opn.length d2) (.slice b3 Z.made.length d3) eu) := ⟨O5.out, off_type O5.out B7.out (by decide), off_type O5.out B8.out (by decide)⟩
      have N78 : Hid (Y7 ≠ Y8) := fun e => by have h1 := B7.out; rw [e, B8.out] at h1; simp at h1
      have L7 : Hid (wr.heap.size ≤ Y7) := M7.out
      have L8 : Hid (wr.heap.size ≤ Y8) := M8.out
      have N7 : Hid (X ≠ Y7 ∧ NB ≠ Y7) := by have h1 := HNb.out; have h3 := lt_of_heap HJ.out.1.box; have h2 := L7.out; exact ⟨by omega, by omega⟩
      have N8 : Hid (X ≠ Y8 ∧ NB ≠ Y8) := by have h1 := HNb.out; have h3 := lt_of_heap HJ.out.1.box; have h2 := L8.out; exact ⟨by omega, by omega⟩
      obtain ⟨g0, g1, g2, s0, s1, s2⟩ := zs3 B7.out
      refine wpAnyH_ready (rs := [13]) (by kernel_rfl) (by simp) ?_
      refine AllReadyH.cons rfl (fun K hK => ?_) AllReadyH.nil
      go_simp
      refine hK.out _ _ ?_ (fun hHeld => ?_)
      · exact sG_off hHeld (otherZ N7.out.1) (otherZ N7.out.2)
      clear hK K
      try simp only [Act.put, lz0, lz1, lz2, lz3, lz4, lz5]
      obtain ⟨x, hx⟩ : ∃ x, laidZ u1 Y7 (.slice b1 Z.ino.length d1) (.slice b2 Z.opn.length d2) (.slice b3 Z.made.length d3) = x := ⟨_, rfl⟩
      have C7 : Hid (_) := blockZ B7.out (.slice b1 Z.ino.length d1) (.slice b2 Z.opn.length d2) (.slice b3 Z.made.length d3)
      have C8 : Hid (_) := (otherZ (w := u1) (R := Y7) (a := .slice b1 Z.ino.length d1) (b := .slice b2 Z.opn.length d2) (c := .slice b3 Z.made.length d3) N78.out.symm).trans B8.out
      have Kx : Hid (_) := keptZ HK.out L7.out (.slice b1 Z.ino.length d1) (.slice b2 Z.opn.length d2) (.slice b3 Z.made.length d3)
      have Ox : Hid (_) := O.out.1.keep (kept3Z u1 Y7 (.slice b1 Z.ino.length d1) (.slice b2 Z.opn.length d2) (.slice b3 Z.made.length d3)) O.out.2.1
      rw [hx] at C7 C8 Kx Ox
      unfold Go.Proofs.YtffncojcnbhblaaGreatDoor.laidZ at hx
      rw [hx] at hHeld ⊢
      clear hx g0 g1 g2 s0 s1 s2
      obtain ⟨g0, g1, g2, g3, g4, g5, s0, s1, s2, s3, s4, s5⟩ := rs6 C8.out
      refine wpAnyH_ready (rs := [14]) (by kernel_rfl) (by simp) ?_
      refine AllReadyH.cons rfl (fun K hK => ?_) AllReadyH.nil
      go_simp
      refine hK.out _ _ ?_ (fun hHeld => ?_)
      · exact sG_off hHeld (otherY N8.out.1) (otherY N8.out.2)
      clear hK K
      try simp only [Act.put, lz0, lz1, lz2, lz3, lz4, lz5]
      obtain ⟨y, hy⟩ : ∃ y, laidY x Y8 (.int .i64 A.code) (.int .i64 A.fd) (.int .i64 A.num) (.bool A.dir) (.string A.data) (.slice z l k) = y := ⟨_, rfl⟩
      have D7 : Hid (_) := (otherY (w := x) (R := Y8) (a := .int .i64 A.code) (b := .int .i64 A.fd) (c := .int .i64 A.num) (d := .bool A.dir) (e := .string A.data) (f := .slice z l k) N78.out).trans C7.out
      have D8 : Hid (_) := blockY C8.out (.int .i64 A.code) (.int .i64 A.fd) (.int .i64 A.num) (.bool A.dir) (.string A.data) (.slice z l k)
      have Ky : Hid (_) := keptY Kx.out L8.out (.int .i64 A.code) (.int .i64 A.fd) (.int .i64 A.num) (.bool A.dir) (.string A.data) (.slice z l k)
      have Oy : Hid (_) := Ox.out.keep (kept6Y x Y8 (.int .i64 A.code) (.int .i64 A.fd) (.int .i64 A.num) (.bool A.dir) (.string A.data) (.slice z l k)) O.out.2.2
      rw [hy] at D7 D8 Ky Oy
      unfold Go.Proofs.YtffncojcnbhblaaGreatDoor.laidY at hy
      rw [hy] at hHeld ⊢
      clear hy hHeld g0 g1 g2 g3 g4 g5 s0 s1 s2 s3 s4 s5
      refine wpAnyH_done (by kernel_rfl) ?_ _
      go_wp2_with fail
      go_meet
      case rel => exact ⟨Y7, Y8, b1, b2, b3, d1, d2, d3, eu, z, l, k, rfl, rfl, D7.out, Oy.out, Ky.out, D8.out, HBz.out⟩
    ·
     go_simp
     refine hK.out _ _ ?_ (fun hHeld => ?_)
     · exact sG_kept hHeld ((Kept.refl _ _).alloc _)
     clear hK K
     try simp only [Act.put, lz0, lz1, lz2, lz3, lz4, lz5]
     obtain ⟨ux8, Y8, HY, HKY, B8⟩ := boxY u0 #[.int .i64 0, .int .i64 0, .int .i64 0, .bool false, .string ⟨#[]⟩, .slice none 0 0] 31
     rw [HY.out.1] at hHeld
     rw [HY.out.1, HY.out.2]
     have M8 : Hid (wr.heap.size ≤ Y8) := by have h1 := HK.out.size; have h2 := HY.out.2; show _ ≤ _; omega
     have HK2 : Hid (_) := HK.out.trans HKY.out (by simp)
     clear HK HY HKY 
     have HK : Hid (_) := HK2.out
     clear HK2
     refine wpAnyH_ready (rs := [7, 11]) (by kernel_rfl) (by simp) ?_
     refine AllReadyH.cons rfl (fun K hK => ?_) (AllReadyH.cons rfl (fun K hK => ?_) AllReadyH.nil)
     ·
      go_simp
      refine (HDc.out _ HK.out).mono ?_
      rintro e u1 ⟨v1, v2, v3, eu, z, l, k, rfl, o5, k5, hbz⟩
      have HBz : Hid (Bd Z) := hbz
      clear hbz
      obtain ⟨b1, d1, hv1, -⟩ := row_form o5.ino
      obtain ⟨b2, d2, hv2, -⟩ := row_form o5.opn
      obtain ⟨b3, d3, hv3, -⟩ := row_form o5.mad
      subst hv1 hv2 hv3
      have z5 := sG_kept hHeld k5
      go_wp2_with fail
      refine hK.out _ _ ?_ (fun hHeld => ?_)
      · exact z5
      clear hK K z5
      try simp only [Act.put, lz0, lz1, lz2, lz3, lz4, lz5]
      have HK2 : Hid (Kept [] wr u1) := HK.out.trans k5 (by simp)
      have B8x : Hid (_) := (k5.block _ (lt_of_heap B8.out) (by simp)).trans B8.out
      have O5 : Hid (Os u1 wr.heap.size (.slice b1 Z.ino.length d1) (.slice b2 Z.opn.length d2) (.slice b3 Z.made.length d3) eu Z) := o5.less HK.out.size
      clear o5 k5 HK B8
      refine tkA 8 rfl ?_
      refine tkA 9 rfl ?_
      refine tkA 10 rfl ?_
      have HK : Hid (_) := HK2.out
      clear HK2
      have B8 : Hid (_) := B8x.out
      clear B8x
      refine wpAnyH_ready (rs := [11]) (by kernel_rfl) (by simp) ?_
      refine AllReadyH.cons rfl (fun K hK => ?_) AllReadyH.nil
      go_simp
      refine hK.out _ _ ?_ (fun hHeld => ?_)
      · exact sG_kept hHeld ((Kept.refl _ _).alloc _)
      clear hK K
      try simp only [Act.put, lz0, lz1, lz2, lz3, lz4, lz5]
      obtain ⟨ux857, Y7, HY, HKY, B7⟩ := boxY u1 #[.slice none 0 0, .slice none 0 0, .slice none 0 0] 27
      rw [HY.out.1] at hHeld
      rw [HY.out.1, HY.out.2]
      have M7 : Hid (wr.heap.size ≤ Y7) := by have h1 := HK.out.size; have h2 := HY.out.2; show _ ≤ _; omega
      have HK2 : Hid (_) := HK.out.trans HKY.out (by simp)
      have B8x : Hid (_) := (HKY.out.block _ (lt_of_heap B8.out) (by simp)).trans B8.out
      have O5x : Hid (_) := O5.out.kept HKY.out
      clear HK HY HKY B8 O5
      have HK : Hid (_) := HK2.out
      clear HK2
      have B8 : Hid (_) := B8x.out
      clear B8x
      have O5 : Hid (_) := O5x.out
      clear O5x
      have O : Hid (Os ux857 wr.heap.size (.slice b1 Z.ino.length d1) (.slice b2 Z.opn.length d2) (.slice b3 Z.made.length d3) eu Z ∧ Off [Y7] (.slice b1 Z.ino.length d1) (.slice b2 Z.opn.length d2) (.slice b3 Z.made.length d3) eu ∧ Off [Y8] (.slice b1 Z.ino.length d1) (.slice b2 Z.opn.length d2) (.slice b3 Z.made.length d3) eu) := ⟨O5.out, off_type O5.out B7.out (by decide), off_type O5.out B8.out (by decide)⟩
      have N78 : Hid (Y7 ≠ Y8) := fun e => by have h1 := B7.out; rw [e, B8.out] at h1; simp at h1
      have L7 : Hid (wr.heap.size ≤ Y7) := M7.out
      have L8 : Hid (wr.heap.size ≤ Y8) := M8.out
      have N7 : Hid (X ≠ Y7 ∧ NB ≠ Y7) := by have h1 := HNb.out; have h3 := lt_of_heap HJ.out.1.box; have h2 := L7.out; exact ⟨by omega, by omega⟩
      have N8 : Hid (X ≠ Y8 ∧ NB ≠ Y8) := by have h1 := HNb.out; have h3 := lt_of_heap HJ.out.1.box; have h2 := L8.out; exact ⟨by omega, by omega⟩
      obtain ⟨g0, g1, g2, s0, s1, s2⟩ := zs3 B7.out
      refine wpAnyH_ready (rs := [13]) (by kernel_rfl) (by simp) ?_
      refine AllReadyH.cons rfl (fun K hK => ?_) AllReadyH.nil
      go_simp
      refine hK.out _ _ ?_ (fun hHeld => ?_)
      · exact sG_off hHeld (otherZ N7.out.1) (otherZ N7.out.2)
      clear hK K
      try simp only [Act.put, lz0, lz1, lz2, lz3, lz4, lz5]
      obtain ⟨x, hx⟩ : ∃ x, laidZ ux857 Y7 (.slice b1 Z.ino.length d1) (.slice b2 Z.opn.length d2) (.slice b3 Z.made.length d3) = x := ⟨_, rfl⟩
      have C7 : Hid (_) := blockZ B7.out (.slice b1 Z.ino.length d1) (.slice b2 Z.opn.length d2) (.slice b3 Z.made.length d3)
      have C8 : Hid (_) := (otherZ (w := ux857) (R := Y7) (a := .slice b1 Z.ino.length d1) (b := .slice b2 Z.opn.length d2) (c := .slice b3 Z.made.length d3) N78.out.symm).trans B8.out
      have Kx : Hid (_) := keptZ HK.out L7.out (.slice b1 Z.ino.length d1) (.slice b2 Z.opn.length d2) (.slice b3 Z.made.length d3)
      have Ox : Hid (_) := O.out.1.keep (kept3Z ux857 Y7 (.slice b1 Z.ino.length d1) (.slice b2 Z.opn.length d2) (.slice b3 Z.made.length d3)) O.out.2.1
      rw [hx] at C7 C8 Kx Ox
      unfold Go.Proofs.YtffncojcnbhblaaGreatDoor.laidZ at hx
      rw [hx] at hHeld ⊢
      clear hx g0 g1 g2 s0 s1 s2
      obtain ⟨g0, g1, g2, g3, g4, g5, s0, s1, s2, s3, s4, s5⟩ := rs6 C8.out
      refine wpAnyH_ready (rs := [14]) (by kernel_rfl) (by simp) ?_
      refine AllReadyH.cons rfl (fun K hK => ?_) AllReadyH.nil
      go_simp
      refine hK.out _ _ ?_ (fun hHeld => ?_)
      · exact sG_off hHeld (otherY N8.out.1) (otherY N8.out.2)
      clear hK K
      try simp only [Act.put, lz0, lz1, lz2, lz3, lz4, lz5]
      obtain ⟨y, hy⟩ : ∃ y, laidY x Y8 (.int .i64 A.code) (.int .i64 A.fd) (.int .i64 A.num) (.bool A.dir) (.string A.data) (.slice z l k) = y := ⟨_, rfl⟩
      have D7 : Hid (_) := (otherY (w := x) (R := Y8) (a := .int .i64 A.code) (b := .int .i64 A.fd) (c := .int .i64 A.num) (d := .bool A.dir) (e := .string A.data) (f := .slice z l k) N78.out).trans C7.out
      have D8 : Hid (_) := blockY C8.out (.int .i64 A.code) (.int .i64 A.fd) (.int .i64 A.num) (.bool A.dir) (.string A.data) (.slice z l k)
      have Ky : Hid (_) := keptY Kx.out L8.out (.int .i64 A.code) (.int .i64 A.fd) (.int .i64 A.num) (.bool A.dir) (.string A.data) (.slice z l k)
      have Oy : Hid (_) := Ox.out.keep (kept6Y x Y8 (.int .i64 A.code) (.int .i64 A.fd) (.int .i64 A.num) (.bool A.dir) (.string A.data) (.slice z l k)) O.out.2.2
      rw [hy] at D7 D8 Ky Oy
      unfold Go.Proofs.YtffncojcnbhblaaGreatDoor.laidY at hy
      rw [hy] at hHeld ⊢
      clear hy hHeld g0 g1 g2 g3 g4 g5 s0 s1 s2 s3 s4 s5
      refine wpAnyH_done (by kernel_rfl) ?_ _
      go_wp2_with fail
      go_meet
      case rel => exact ⟨Y7, Y8, b1, b2, b3, d1, d2, d3, eu, z, l, k, rfl, rfl, D7.out, Oy.out, Ky.out, D8.out, HBz.out⟩
     ·
      go_simp
      refine hK.out _ _ ?_ (fun hHeld => ?_)
      · exact sG_kept hHeld ((Kept.refl _ _).alloc _)
      clear hK K
      try simp only [Act.put, lz0, lz1, lz2, lz3, lz4, lz5]
      obtain ⟨ux87, Y7, HY, HKY, B7⟩ := boxY ux8 #[.slice none 0 0, .slice none 0 0, .slice none 0 0] 27
      rw [HY.out.1] at hHeld
      rw [HY.out.1, HY.out.2]
      have M7 : Hid (wr.heap.size ≤ Y7) := by have h1 := HK.out.size; have h2 := HY.out.2; show _ ≤ _; omega
      have HK2 : Hid (_) := HK.out.trans HKY.out (by simp)
      have B8x : Hid (_) := (HKY.out.block _ (lt_of_heap B8.out) (by simp)).trans B8.out
      clear HK HY HKY B8
      have HK : Hid (_) := HK2.out
      clear HK2
      have B8 : Hid (_) := B8x.out
      clear B8x
      refine wpAnyH_ready (rs := [7]) (by kernel_rfl) (by simp) ?_
      refine AllReadyH.cons rfl (fun K hK => ?_) AllReadyH.nil
      go_simp
      refine (HDc.out _ HK.out).mono ?_
      rintro e u1 ⟨v1, v2, v3, eu, z, l, k, rfl, o5, k5, hbz⟩
      have HBz : Hid (Bd Z) := hbz
      clear hbz
      obtain ⟨b1, d1, hv1, -⟩ := row_form o5.ino
      obtain ⟨b2, d2, hv2, -⟩ := row_form o5.opn
      obtain ⟨b3, d3, hv3, -⟩ := row_form o5.mad
      subst hv1 hv2 hv3
      have z5 := sG_kept hHeld k5
      go_wp2_with fail
      refine hK.out _ _ ?_ (fun hHeld => ?_)
      · exact z5
      clear hK K z5
      try simp only [Act.put, lz0, lz1, lz2, lz3, lz4, lz5]
      have HK2 : Hid (Kept [] wr u1) := HK.out.trans k5 (by simp)
      have B7x : Hid (_) := (k5.block _ (lt_of_heap B7.out) (by simp)).trans B7.out
      have B8x : Hid (_) := (k5.block _ (lt_of_heap B8.out) (by simp)).trans B8.out
      have O5 : Hid (Os u1 wr.heap.size (.slice b1 Z.ino.length d1) (.slice b2 Z.opn.length d2) (.slice b3 Z.made.length d3) eu Z) := o5.less HK.out.size
      clear o5 k5 HK B7 B8
      refine tkA 8 rfl ?_
      refine tkA 9 rfl ?_
      refine tkA 10 rfl ?_
      have HK : Hid (_) := HK2.out
      clear HK2
      have B7 : Hid (_) := B7x.out
      clear B7x
      have B8 : Hid (_) := B8x.out
      clear B8x
      have O : Hid (Os u1 wr.heap.size (.slice b1 Z.ino.length d1) (.slice b2 Z.opn.length d2) (.slice b3 Z.made.length d3) eu Z ∧ Off [Y7] (.slice b1 Z.ino.length d1) (.slice b2 Z.opn.length d2) (.slice b3 Z.made.length d3) eu ∧ Off [Y8] (.slice b1 Z.ino.length d1) (.slice b2 Z.opn.length d2) (.slice b3 Z.made.length d3) eu) := ⟨O5.out, off_type O5.out B7.out (by decide), off_type O5.out B8.out (by decide)⟩
      have N78 : Hid (Y7 ≠ Y8) := fun e => by have h1 := B7.out; rw [e, B8.out] at h1; simp at h1
      have L7 : Hid (wr.heap.size ≤ Y7) := M7.out
      have L8 : Hid (wr.heap.size ≤ Y8) := M8.out
      have N7 : Hid (X ≠ Y7 ∧ NB ≠ Y7) := by have h1 := HNb.out; have h3 := lt_of_heap HJ.out.1.box; have h2 := L7.out; exact ⟨by omega, by omega⟩
      have N8 : Hid (X ≠ Y8 ∧ NB ≠ Y8) := by have h1 := HNb.out; have h3 := lt_of_heap HJ.out.1.box; have h2 := L8.out; exact ⟨by omega, by omega⟩
      obtain ⟨g0, g1, g2, s0, s1, s2⟩ := zs3 B7.out
      refine wpAnyH_ready (rs := [13]) (by kernel_rfl) (by simp) ?_
      refine AllReadyH.cons rfl (fun K hK => ?_) AllReadyH.nil
      go_simp
      refine hK.out _ _ ?_ (fun hHeld => ?_)
      · exact sG_off hHeld (otherZ N7.out.1) (otherZ N7.out.2)
      clear hK K
      try simp only [Act.put, lz0, lz1, lz2, lz3, lz4, lz5]
      obtain ⟨x, hx⟩ : ∃ x, laidZ u1 Y7 (.slice b1 Z.ino.length d1) (.slice b2 Z.opn.length d2) (.slice b3 Z.made.length d3) = x := ⟨_, rfl⟩
      have C7 : Hid (_) := blockZ B7.out (.slice b1 Z.ino.length d1) (.slice b2 Z.opn.length d2) (.slice b3 Z.made.length d3)
      have C8 : Hid (_) := (otherZ (w := u1) (R := Y7) (a := .slice b1 Z.ino.length d1) (b := .slice b2 Z.opn.length d2) (c := .slice b3 Z.made.length d3) N78.out.symm).trans B8.out
      have Kx : Hid (_) := keptZ HK.out L7.out (.slice b1 Z.ino.length d1) (.slice b2 Z.opn.length d2) (.slice b3 Z.made.length d3)
      have Ox : Hid (_) := O.out.1.keep (kept3Z u1 Y7 (.slice b1 Z.ino.length d1) (.slice b2 Z.opn.length d2) (.slice b3 Z.made.length d3)) O.out.2.1
      rw [hx] at C7 C8 Kx Ox
      unfold Go.Proofs.YtffncojcnbhblaaGreatDoor.laidZ at hx
      rw [hx] at hHeld ⊢
      clear hx g0 g1 g2 s0 s1 s2
      obtain ⟨g0, g1, g2, g3, g4, g5, s0, s1, s2, s3, s4, s5⟩ := rs6 C8.out
      refine wpAnyH_ready (rs := [14]) (by kernel_rfl) (by simp) ?_
      refine AllReadyH.cons rfl (fun K hK => ?_) AllReadyH.nil
      go_simp
      refine hK.out _ _ ?_ (fun hHeld => ?_)
      · exact sG_off hHeld (otherY N8.out.1) (otherY N8.out.2)
      clear hK K
      try simp only [Act.put, lz0, lz1, lz2, lz3, lz4, lz5]
      obtain ⟨y, hy⟩ : ∃ y, laidY x Y8 (.int .i64 A.code) (.int .i64 A.fd) (.int .i64 A.num) (.bool A.dir) (.string A.data) (.slice z l k) = y := ⟨_, rfl⟩
      have D7 : Hid (_) := (otherY (w := x) (R := Y8) (a := .int .i64 A.code) (b := .int .i64 A.fd) (c := .int .i64 A.num) (d := .bool A.dir) (e := .string A.data) (f := .slice z l k) N78.out).trans C7.out
      have D8 : Hid (_) := blockY C8.out (.int .i64 A.code) (.int .i64 A.fd) (.int .i64 A.num) (.bool A.dir) (.string A.data) (.slice z l k)
      have Ky : Hid (_) := keptY Kx.out L8.out (.int .i64 A.code) (.int .i64 A.fd) (.int .i64 A.num) (.bool A.dir) (.string A.data) (.slice z l k)
      have Oy : Hid (_) := Ox.out.keep (kept6Y x Y8 (.int .i64 A.code) (.int .i64 A.fd) (.int .i64 A.num) (.bool A.dir) (.string A.data) (.slice z l k)) O.out.2.2
      rw [hy] at D7 D8 Ky Oy
      unfold Go.Proofs.YtffncojcnbhblaaGreatDoor.laidY at hy
      rw [hy] at hHeld ⊢
      clear hy hHeld g0 g1 g2 g3 g4 g5 s0 s1 s2 s3 s4 s5
      refine wpAnyH_done (by kernel_rfl) ?_ _
      go_wp2_with fail
      go_meet
      case rel => exact ⟨Y7, Y8, b1, b2, b3, d1, d2, d3, eu, z, l, k, rfl, rfl, D7.out, Oy.out, Ky.out, D8.out, HBz.out⟩
   case rest =>
    obtain ⟨Y, Y8, b1, b2, b3, d1, d2, d3, eu, z, l, k, rfl, rfl, HE8⟩ := hcut
    have HGc : Hid (_) := HG.out.kept HE8.out.2.2.1
    have hnw : wc.cell? ⟨NB, no + i, none⟩ = some (.string t) := HE8.out.2.2.1.cell HNw.out (by simp)
    clear HS HDc
    have hj1 : ((i + 1 : Nat) : Int) = (i : Int) + 1 := by omega
    obtain ⟨cd, hcd⟩ : ∃ cd, A.code = cd := ⟨_, rfl⟩
    have r0 : wc.cell? ⟨Y8, 0, none⟩ = some (.int .i64 cd) := by rw [cellB HE8.out.2.2.2.1, ← hcd]; rfl
    by_cases hc0 : cd = 0
    ·
     subst hc0
     go_wp2_with fail
     refine (f_check t _ (by omega)).mono ?_
     rintro e wn ⟨rfl, hwn⟩
     have hwn2 := hwn.symm
     subst hwn2
     clear hwn
     obtain ⟨ck, hck⟩ : ∃ ck, chk t = ck := ⟨_, rfl⟩
     rw [hck]
     by_cases hk0 : ck = 0
     ·
      subst hk0
      obtain ⟨E', I', hZ', hlE', hmay'⟩ := e_made hck HE.out.2.1 HMy.out (by have h9 := HZA.out; rw [HE.out.1, ← HPt.out] at h9; rw [h9]; exact hcd)
      have hZe : Z = gL E' I' (m + 1) := by have h9 := HZA.out; rw [HE.out.1, ← HPt.out] at h9; rw [h9] at hZ'; exact hZ'
      have HC2 : Hid (Gs w (laidZ wc X (.slice b1 Z.ino.length d1) (.slice b2 Z.opn.length d2) (.slice b3 Z.made.length d3)) X (.slice b1 Z.ino.length d1) (.slice b2 Z.opn.length d2) (.slice b3 Z.made.length d3) eu Z (many + 1)) := ⟨HGc.out.hc.putZ (HE8.out.2.1.less HG.out.hc.k.size), by rw [hZe]; exact hmay', HE8.out.2.2.2.2, E', I', m + 1, hZe, by have := HE.out.2.1; omega, by rw [hlE', HE.out.2.2]⟩
      obtain ⟨x0, x1, x2, -⟩ := zs3 HE8.out.1
      obtain ⟨y0, y1, y2, z0, z1, z2⟩ := zs3 HGc.out.hc.box
      obtain ⟨W5, hW5⟩ : ∃ W5, laidZ wc X (.slice b1 Z.ino.length d1) (.slice b2 Z.opn.length d2) (.slice b3 Z.made.length d3) = W5 := ⟨_, rfl⟩
      rw [hW5] at HC2
      unfold Go.Proofs.YtffncojcnbhblaaGreatDoor.laidZ at hW5
      have HW5 : Hid (_) := hW5
      have hm1 : ((many + 1 : Nat) : Int) = (many : Int) + 1 := by omega
      clear hW5 hck hcd hZ' hlE' hmay' hZe
      go_upto_region 7 with fail
      rw [HW5.out]
      clear x0 x1 x2 y0 y1 y2 z0 z1 z2 HW5 r0 hnw
      go_wp2_with fail
      go_roundw
      case rel => exact ⟨i + 1, many + 1, _, _, _, _, _, by rw [hj1], by rw [hm1], by omega, by omega, by omega, HC2.out⟩
      case measure => simp [intOf]; omega
     ·
      have q0 : (ck == 0) = false := beq_eq_false_iff_ne.2 hk0
      clear hck hcd
      go_wp2_with fail
      go_roundw
      case rel => exact ⟨i + 1, many, _, _, _, _, _, by rw [hj1], rfl, by omega, by omega, by omega, HGc.out⟩
      case measure => simp [intOf]; omega
    ·
     have q0 : (cd == 0) = false := beq_eq_false_iff_ne.2 hc0
     clear hcd
     go_wp2_with fail
     go_roundw
     case rel => exact ⟨i + 1, many, _, _, _, _, _, by rw [hj1], rfl, by omega, by omega, by omega, HGc.out⟩
     case measure => simp [intOf]; omega
  ·
   have HDl : Hid (DoL S ⟨12, 0, 0, 0, 0, ⟨#[47, 101]⟩, ⟨#[]⟩, ⟨#[]⟩⟩) := dl12 HG.out.may (Int.le_refl _) HG.out.one rfl
   have HPl : Hid (playR S ⟨12, 0, 0, 0, 0, ⟨#[47, 101]⟩, ⟨#[]⟩, ⟨#[]⟩⟩ headI = (S, ⟨0, 0, 0, false, ⟨#[]⟩, E.map Prod.fst⟩)) := by show _ = _; rw [HE.out.1]; exact e_list HMy.out
   obtain ⟨x0, x1, x2, -⟩ := zs3 HG.out.hc.box
   by_cases h1 : i < len
   ·
    have i2 : (i : Int) < (len : Int) := by omega
    have i3 : ¬ (i : Int) < 20 := by omega
    clear hlt hi hi20 hmi h1
    go_wp2_with fail
    refine (l_DoK HG.out.hc.os HG.out.bd (hT.out.kept HG.out.hc.k) ⟨12, 0, 0, 0, 0, ⟨#[47, 101]⟩, ⟨#[]⟩, ⟨#[]⟩⟩ HDl.out HPl.out).mono ?_
    rintro e U1 ⟨p1, p2, p3, eu, z, l, kk, rfl, ho1, hsr, -, k1, -⟩
    dsimp only at ho1 hsr ⊢
    obtain ⟨a1', c1', a2', c2', a3', c3', rfl, rfl, rfl⟩ := formsL ho1 _ _ _ rfl rfl rfl
    obtain ⟨za, zc, hzv, hzs, -⟩ := hsr.read
    simp only [Value.slice.injEq, List.length_map] at hzv
    obtain ⟨rfl, hlE, rfl⟩ := hzv
    have hlm : l = many := by rw [hlE]; exact HE.out.2.2
    clear hlE
    subst hlm
    obtain ⟨V1, T1', HX1, HXk1, HXb1⟩ := boxes2 U1 #[.slice a1' S.ino.length c1', .slice a2' S.opn.length c2', .slice a3' S.made.length c3'] #[.int .i64 0, .int .i64 0, .int .i64 0, .bool false, .string ⟨#[]⟩, .slice z l kk] 27 31
    obtain ⟨T1, hT1⟩ : ∃ T1, T1' + 1 = T1 := ⟨_, rfl⟩
    have HG2 : Hid (_) := (HG.out.kept k1).kept HXk1.out
    have HT2 : Hid (_) := HXb1.out.2.1
    have HSr2 : Hid (Ss V1 z (E.map Prod.fst)) := hzs.kept HXk1.out
    rw [hT1] at HT2
    clear x0 x1 x2
    go_upto_region 13 with fail
    rw [HX1.out.1, HX1.out.2]
    (try rw [hT1])
    clear ho1 k1 HX1 HXk1 HXb1 HG hsr hzs hT1
    obtain ⟨t0, -, -, -, -, t5, -⟩ := rs6 HT2.out
    have hl32 : l ≤ 32 := by have h1 := (e_rise HMy.out).2.2; have h2 := HE.out.2.2; omega
    go_wp2_with fail
    clear t0 t5
    go_loopw [10] (fun jx w9 => ∃ j : Nat, jx = .int .i64 (j : Int) ∧ j ≤ l ∧ Hid (Gs w w9 X (.slice a1 S.ino.length c1) (.slice a2 S.opn.length c2) (.slice a3 S.made.length c3) ev S l ∧ w9.heap[T1]? = some (.cells #[.int .i64 0, .int .i64 0, .int .i64 0, .bool false, .string ⟨#[]⟩, .slice z l kk] 31 (0, 0)) ∧ Ss w9 z (E.map Prod.fst))) (fun jx _ => (l - intOf jx).toNat)
    case atStart => exact ⟨0, rfl, by omega, HG2.out, HT2.out, HSr2.out⟩
    case round =>
     clear HG2 HT2 HSr2
     obtain ⟨j, rfl, hj, HI⟩ := hrel
     have HG1 : Hid (_) := HI.out.1
     have HT1 : Hid (_) := HI.out.2.1
     have HSr : Hid (_) := HI.out.2.2
     have HRd : Hid (_) := HI.out.2.2
     clear HI
     obtain ⟨x0, x1, x2, -⟩ := zs3 HG1.out.hc.box
     obtain ⟨-, -, -, -, -, t5, -⟩ := rs6 HT1.out
     by_cases hjl : j < l
     ·
      have i1 : (j : Int) < (l : Int) := by omega
      cases j with
      | zero =>
       have hjE : 0 < E.length := by rw [HE.out.2.2]; omega
       obtain ⟨t, ht⟩ : ∃ t, (E[0]).1 = t := ⟨_, rfl⟩
       have HSt : Hid (t.size ≤ 12) := by rw [← ht]; exact (e_rise HMy.out).2.1 _ hjE
       have ht12 := HSt.out
       have hs3 : ¬ 9223372036854775807 < 3 + t.size := by omega
       have hj20 : (0 : Int) ≤ (0 : Int) := by omega
       have HCc : Hid (∀ W, Kept [] wr W → Calls Tryz.prog 12 #[.agg #[.slice a1 S.ino.length c1, .slice a2 S.opn.length c2, .slice a3 S.made.length c3], .agg #[.int .i64 13, .int .i64 0, .int .i64 0, .int .i64 0, .int .i64 0, .string (⟨#[47, 101, 47]⟩ ++ t), .string ⟨#[]⟩, .string ⟨#[]⟩]] W fun e w' => e = .returned (.int .i64 0) ∧ Kept [] W w') := by
        have hCd : (playR S ⟨13, 0, 0, 0, 0, (⟨#[47, 101, 47]⟩ ++ t), ⟨#[]⟩, ⟨#[]⟩⟩ headI).2.code = 0 := by rw [HE.out.1]; exact e_stat HMy.out hjE ht
        obtain ⟨pt, hpt⟩ : ∃ pt, ⟨#[47, 101, 47]⟩ ++ t = pt := ⟨_, rfl⟩
        rw [hpt] at hCd ⊢
        intro W kW
        have h9 := l_codeK (HG1.out.hc.os.kept kW) HG1.out.bd (hT.out.kept (HG1.out.hc.k.trans kW (by simp))) ⟨13, 0, 0, 0, 0, pt, ⟨#[]⟩, ⟨#[]⟩⟩ (dl13 HG1.out.may (Int.le_refl _) HG1.out.one rfl) rfl
        rw [hCd] at h9
        exact h9
       obtain ⟨gz, ngz, hgz, hcz⟩ := HRd.out.2 (0) (by rw [List.length_map]; exact hjE)
       have htx : tx (E.map Prod.fst) (0) = t := by unfold tx; rw [List.getD_eq_getElem?_getD, List.getElem?_map, List.getElem?_eq_getElem hjE]; exact ht
       rw [htx] at hcz
       subst hgz
       have d0 : decide ((0 : Int) < ((0 : Nat) : Int)) = false := by decide
       have hcz' : wr.cell? ⟨gz, ngz, none⟩ = some (.string t) := hcz
       have i2 : (0 : Int) < (l : Int) := by omega
       have HC : Hid (_) := And.intro x0 (And.intro x1 (And.intro x2 (And.intro t5 hcz')))
       clear hcz hcz' ht htx x0 x1 x2 t5
       go_upto_region 18 with fail
       refine wp_region_held_drew (S := fun w' => w'.cell? ⟨X, 0, none⟩ = some (.slice a1 S.ino.length c1) ∧ w'.cell? ⟨X, 1, none⟩ = some (.slice a2 S.opn.length c2) ∧ w'.cell? ⟨X, 2, none⟩ = some (.slice a3 S.made.length c3) ∧ w'.cell? ⟨T1, 5, none⟩ = some (.slice (some ⟨gz, ngz, none⟩) l kk) ∧ w'.cell? ⟨gz, ngz, none⟩ = some (.string t)) (by kernel_rfl) ?_ (fun hHeld => ?_)
       · exact HC.out
       obtain ⟨u0, hu0⟩ : ∃ u, wr.drew = u := ⟨_, rfl⟩
       have HKu : Hid (Kept [] wr u0) := by rw [← hu0]; exact (Kept.refl [] wr).drew
       rw [hu0] at hHeld ⊢
       clear hu0
       refine tkA 0 rfl ?_
       refine tkA 1 rfl ?_
       refine tkA 2 rfl ?_
       refine skA 3 rfl ?_
       refine skA 4 rfl ?_
       refine skA 5 rfl ?_
       refine skA 6 rfl ?_
       refine skA 7 rfl ?_
       refine skA 8 rfl ?_
       refine skA 9 rfl ?_
       refine skA 10 rfl ?_
       refine skA 11 rfl ?_
       refine skA 12 rfl ?_
       refine skA 13 rfl ?_
       refine skA 14 rfl ?_
       refine skA 15 rfl ?_
       refine tkA 16 rfl ?_
       refine tkA 17 rfl ?_
       refine tkA 18 rfl ?_
       refine tkA 19 rfl ?_
       refine tkA 20 rfl ?_
       refine tkA 21 rfl ?_
       refine tkA 22 rfl ?_
       refine tkA 23 rfl ?_
       refine tkA 24 rfl ?_
       refine tkA 25 rfl ?_
       refine wpAnyH_ready (rs := [26]) (by kernel_rfl) (by simp) ?_
       refine AllReadyH.cons rfl (fun K hK => ?_) AllReadyH.nil
       go_simp
       refine (HCc.out _ HKu.out).mono ?_
       rintro e w7 ⟨rfl, k7⟩
       have HK7 : Hid (Kept [] wr w7) := HKu.out.trans k7 (by simp)
       have HS7 : Hid (_) := gk5 hHeld k7
       clear k7
       go_wp2_with fail
       refine hK.out _ _ ?_ (fun hHeld => ?_)
       · exact HS7.out
       clear hK K
       try simp only [Act.put, lz0, lz1, lz2, lz3, lz4, lz5]
       refine tkA 27 rfl ?_
       refine tkA 28 rfl ?_
       refine wpAnyH_done (by kernel_rfl) ?_ _
       clear hHeld HS7
       go_wp2_with fail
       go_roundw
       case rel => exact ⟨0 + 1, by go_num, by omega, HG1.out.kept HK7.out, kb HK7.out HT1.out, Ss.kept HSr.out HK7.out⟩
       case measure => simp [intOf]; omega
      | succ q =>
       have hjE : q + 1 < E.length := by rw [HE.out.2.2]; omega
       obtain ⟨t, ht⟩ : ∃ t, (E[q + 1]).1 = t := ⟨_, rfl⟩
       have HSt : Hid (t.size ≤ 12) := by rw [← ht]; exact (e_rise HMy.out).2.1 _ hjE
       have ht12 := HSt.out
       have hs3 : ¬ 9223372036854775807 < 3 + t.size := by omega
       have hj20 : (0 : Int) ≤ (q + 1 : Int) := by omega
       have HCc : Hid (∀ W, Kept [] wr W → Calls Tryz.prog 12 #[.agg #[.slice a1 S.ino.length c1, .slice a2 S.opn.length c2, .slice a3 S.made.length c3], .agg #[.int .i64 13, .int .i64 0, .int .i64 0, .int .i64 0, .int .i64 0, .string (⟨#[47, 101, 47]⟩ ++ t), .string ⟨#[]⟩, .string ⟨#[]⟩]] W fun e w' => e = .returned (.int .i64 0) ∧ Kept [] W w') := by
        have hCd : (playR S ⟨13, 0, 0, 0, 0, (⟨#[47, 101, 47]⟩ ++ t), ⟨#[]⟩, ⟨#[]⟩⟩ headI).2.code = 0 := by rw [HE.out.1]; exact e_stat HMy.out hjE ht
        obtain ⟨pt, hpt⟩ : ∃ pt, ⟨#[47, 101, 47]⟩ ++ t = pt := ⟨_, rfl⟩
        rw [hpt] at hCd ⊢
        intro W kW
        have h9 := l_codeK (HG1.out.hc.os.kept kW) HG1.out.bd (hT.out.kept (HG1.out.hc.k.trans kW (by simp))) ⟨13, 0, 0, 0, 0, pt, ⟨#[]⟩, ⟨#[]⟩⟩ (dl13 HG1.out.may (Int.le_refl _) HG1.out.one rfl) rfl
        rw [hCd] at h9
        exact h9
       obtain ⟨gz, ngz, hgz, hcz⟩ := HRd.out.2 (q + 1) (by rw [List.length_map]; exact hjE)
       have htx : tx (E.map Prod.fst) (q + 1) = t := by unfold tx; rw [List.getD_eq_getElem?_getD, List.getElem?_map, List.getElem?_eq_getElem hjE]; exact ht
       rw [htx] at hcz
       subst hgz
       have hqE : q < E.length := by omega
       obtain ⟨s, hs⟩ : ∃ s, (E[q]).1 = s := ⟨_, rfl⟩
       have HSs : Hid (s.size ≤ 12) := by rw [← hs]; exact (e_rise HMy.out).2.1 _ hqE
       have hbl : below s t = true := by rw [← hs, ← ht]; exact (e_rise HMy.out).1 q hjE
       obtain ⟨gz2, ngz2, hgz2, hcq⟩ := HRd.out.2 q (by rw [List.length_map]; exact hqE)
       simp only [Option.some.injEq, Addr.mk.injEq, and_true] at hgz2
       obtain ⟨rfl, rfl⟩ := hgz2
       have hts : tx (E.map Prod.fst) q = s := by unfold tx; rw [List.getD_eq_getElem?_getD, List.getElem?_map, List.getElem?_eq_getElem hqE]; exact hs
       rw [hts] at hcq
       have d0 : decide ((0 : Int) < (((q + 1 : Nat)) : Int)) = true := decide_eq_true (by omega)
       have d1 : (0 : Int) < (q : Int) + 1 := by omega
       have d2 : (0 : Int) ≤ (q : Int) := by omega
       have dw : IntKind.i64.wrap (q : Int) = (q : Int) := by rw [IntKind.wrap_i64]; omega
       have d3 : (q : Int) < (l : Int) := by omega
       have d4 : (q : Int) + 1 < (l : Int) := by omega
       have d5 : (0 : Int) ≤ (q : Int) + 1 := by omega
       have HC : Hid (_) := And.intro x0 (And.intro x1 (And.intro x2 (And.intro t5 (And.intro hcz hcq))))
       clear hcz hcq ht htx hs hts x0 x1 x2 t5
       go_upto_region 18 with fail
       refine wp_region_held_drew (S := fun w' => w'.cell? ⟨X, 0, none⟩ = some (.slice a1 S.ino.length c1) ∧ w'.cell? ⟨X, 1, none⟩ = some (.slice a2 S.opn.length c2) ∧ w'.cell? ⟨X, 2, none⟩ = some (.slice a3 S.made.length c3) ∧ w'.cell? ⟨T1, 5, none⟩ = some (.slice (some ⟨gz, ngz, none⟩) l kk) ∧ w'.cell? ⟨gz, ngz + (q + 1), none⟩ = some (.string t) ∧ w'.cell? ⟨gz, ngz + q, none⟩ = some (.string s)) (by kernel_rfl) ?_ (fun hHeld => ?_)
       · exact HC.out
       obtain ⟨u0, hu0⟩ : ∃ u, wr.drew = u := ⟨_, rfl⟩
       have HKu : Hid (Kept [] wr u0) := by rw [← hu0]; exact (Kept.refl [] wr).drew
       rw [hu0] at hHeld ⊢
       clear hu0
       refine tkA 0 rfl ?_
       refine tkA 1 rfl ?_
       refine tkA 2 rfl ?_
       refine tkA 3 rfl ?_
       refine tkA 4 rfl ?_
       refine tkA 5 rfl ?_
       refine tkA 6 rfl ?_
       refine tkA 7 rfl ?_
       refine tkA 8 rfl ?_
       refine tkA 9 rfl ?_
       refine tkA 10 rfl ?_
       refine tkA 11 rfl ?_
       refine tkA 12 rfl ?_
       refine tkA 13 rfl ?_
       refine wpAnyH_ready (rs := [14]) (by kernel_rfl) (by simp) ?_
       refine AllReadyH.cons rfl (fun K hK => ?_) AllReadyH.nil
       go_simp
       refine (f_below s t _ HSs.out HSt.out).mono ?_
       rintro e w6 ⟨rfl, m6, hw6⟩
       rw [hbl]
       have k6 : Kept [] u0 w6 := by rw [hw6]; exact (Kept.refl _ _).drewN _
       have HK6 : Hid (Kept [] wr w6) := HKu.out.trans k6 (by simp)
       have HS6 : Hid (_) := gk6 hHeld k6
       clear k6 hw6
       go_wp2_with fail
       refine hK.out _ _ ?_ (fun hHeld => ?_)
       · exact HS6.out
       clear hK K
       try simp only [Act.put, lz0, lz1, lz2, lz3, lz4, lz5]
       refine tkA 15 rfl ?_
       refine tkA 16 rfl ?_
       refine tkA 17 rfl ?_
       refine tkA 18 rfl ?_
       refine tkA 19 rfl ?_
       refine tkA 20 rfl ?_
       refine tkA 21 rfl ?_
       refine tkA 22 rfl ?_
       refine tkA 23 rfl ?_
       refine tkA 24 rfl ?_
       refine tkA 25 rfl ?_
       refine wpAnyH_ready (rs := [26]) (by kernel_rfl) (by simp) ?_
       refine AllReadyH.cons rfl (fun K hK => ?_) AllReadyH.nil
       go_simp
       refine (HCc.out _ HK6.out).mono ?_
       rintro e w7 ⟨rfl, k7⟩
       have HK7 : Hid (Kept [] wr w7) := HK6.out.trans k7 (by simp)
       have HS7 : Hid (_) := gk6 hHeld k7
       clear k7
       go_wp2_with fail
       refine hK.out _ _ ?_ (fun hHeld => ?_)
       · exact HS7.out
       clear hK K
       try simp only [Act.put, lz0, lz1, lz2, lz3, lz4, lz5]
       refine tkA 27 rfl ?_
       refine tkA 28 rfl ?_
       refine wpAnyH_done (by kernel_rfl) ?_ _
       clear hHeld HS7 HS6
       go_wp2_with fail
       go_roundw
       case rel => exact ⟨(q + 1) + 1, by go_num, by omega, HG1.out.kept HK7.out, kb HK7.out HT1.out, Ss.kept HSr.out HK7.out⟩
       case measure => simp [intOf]; omega
     ·
      have i1 : ¬ (j : Int) < (l : Int) := by omega
      clear t5
      have HDf : Hid (DoL S ⟨12, 0, 0, 0, 0, ⟨#[47, 102]⟩, ⟨#[]⟩, ⟨#[]⟩⟩) := dl12 HG1.out.may (Int.le_refl _) HG1.out.one rfl
      have HDq : Hid (DoL S ⟨12, 0, 0, 0, 0, ⟨#[47, 113]⟩, ⟨#[]⟩, ⟨#[]⟩⟩) := dl12 HG1.out.may (Int.le_refl _) HG1.out.one rfl
      have HCf : Hid ((playR S ⟨12, 0, 0, 0, 0, ⟨#[47, 102]⟩, ⟨#[]⟩, ⟨#[]⟩⟩ headI).2.code = 7) := by rw [HE.out.1]; exact e_nodir HMy.out
      have HCq : Hid ((playR S ⟨12, 0, 0, 0, 0, ⟨#[47, 113]⟩, ⟨#[]⟩, ⟨#[]⟩⟩ headI).2.code = 1) := by rw [HE.out.1]; exact e_nobody HMy.out
      go_wp2_with fail
      refine (l_codeK HG1.out.hc.os HG1.out.bd (hT.out.kept HG1.out.hc.k) ⟨12, 0, 0, 0, 0, ⟨#[47, 102]⟩, ⟨#[]⟩, ⟨#[]⟩⟩ HDf.out rfl).mono ?_
      rintro e w7 ⟨rfl, k7⟩
      rw [HCf.out]
      have HG7 : Hid (_) := HG1.out.kept k7
      clear k7 x0 x1 x2
      obtain ⟨x0, x1, x2, -⟩ := zs3 HG7.out.hc.box
      go_wp2_with fail
      refine (l_codeK HG7.out.hc.os HG7.out.bd (hT.out.kept HG7.out.hc.k) ⟨12, 0, 0, 0, 0, ⟨#[47, 113]⟩, ⟨#[]⟩, ⟨#[]⟩⟩ HDq.out rfl).mono ?_
      rintro e w8 ⟨rfl, k8⟩
      rw [HCq.out]
      have HK8 : Hid (_) := HG7.out.hc.k.trans k8 (by simp)
      clear k8 x0 x1 x2
      go_wp2_with fail
      go_ret
      exact ⟨rfl, HK8.out⟩
   ·
    have i2 : ¬ (i : Int) < (len : Int) := by omega
    have i3 : decide ((i : Int) < (len : Int)) = false := decide_eq_false i2
    clear hlt hi hi20 hmi h1
    go_wp2_with fail
    refine (l_DoK HG.out.hc.os HG.out.bd (hT.out.kept HG.out.hc.k) ⟨12, 0, 0, 0, 0, ⟨#[47, 101]⟩, ⟨#[]⟩, ⟨#[]⟩⟩ HDl.out HPl.out).mono ?_
    rintro e U1 ⟨p1, p2, p3, eu, z, l, kk, rfl, ho1, hsr, -, k1, -⟩
    dsimp only at ho1 hsr ⊢
    obtain ⟨a1', c1', a2', c2', a3', c3', rfl, rfl, rfl⟩ := formsL ho1 _ _ _ rfl rfl rfl
    obtain ⟨za, zc, hzv, hzs, -⟩ := hsr.read
    simp only [Value.slice.injEq, List.length_map] at hzv
    obtain ⟨rfl, hlE, rfl⟩ := hzv
    have hlm : l = many := by rw [hlE]; exact HE.out.2.2
    clear hlE
    subst hlm
    obtain ⟨V1, T1', HX1, HXk1, HXb1⟩ := boxes2 U1 #[.slice a1' S.ino.length c1', .slice a2' S.opn.length c2', .slice a3' S.made.length c3'] #[.int .i64 0, .int .i64 0, .int .i64 0, .bool false, .string ⟨#[]⟩, .slice z l kk] 27 31
    obtain ⟨T1, hT1⟩ : ∃ T1, T1' + 1 = T1 := ⟨_, rfl⟩
    have HG2 : Hid (_) := (HG.out.kept k1).kept HXk1.out
    have HT2 : Hid (_) := HXb1.out.2.1
    have HSr2 : Hid (Ss V1 z (E.map Prod.fst)) := hzs.kept HXk1.out
    rw [hT1] at HT2
    clear x0 x1 x2
    go_upto_region 13 with fail
    rw [HX1.out.1, HX1.out.2]
    (try rw [hT1])
    clear ho1 k1 HX1 HXk1 HXb1 HG hsr hzs hT1
    obtain ⟨t0, -, -, -, -, t5, -⟩ := rs6 HT2.out
    have hl32 : l ≤ 32 := by have h1 := (e_rise HMy.out).2.2; have h2 := HE.out.2.2; omega
    go_wp2_with fail
    clear t0 t5
    go_loopw [10] (fun jx w9 => ∃ j : Nat, jx = .int .i64 (j : Int) ∧ j ≤ l ∧ Hid (Gs w w9 X (.slice a1 S.ino.length c1) (.slice a2 S.opn.length c2) (.slice a3 S.made.length c3) ev S l ∧ w9.heap[T1]? = some (.cells #[.int .i64 0, .int .i64 0, .int .i64 0, .bool false, .string ⟨#[]⟩, .slice z l kk] 31 (0, 0)) ∧ Ss w9 z (E.map Prod.fst))) (fun jx _ => (l - intOf jx).toNat)
    case atStart => exact ⟨0, rfl, by omega, HG2.out, HT2.out, HSr2.out⟩
    case round =>
     clear HG2 HT2 HSr2
     obtain ⟨j, rfl, hj, HI⟩ := hrel
     have HG1 : Hid (_) := HI.out.1
     have HT1 : Hid (_) := HI.out.2.1
     have HSr : Hid (_) := HI.out.2.2
     have HRd : Hid (_) := HI.out.2.2
     clear HI
     obtain ⟨x0, x1, x2, -⟩ := zs3 HG1.out.hc.box
     obtain ⟨-, -, -, -, -, t5, -⟩ := rs6 HT1.out
     by_cases hjl : j < l
     ·
      have i1 : (j : Int) < (l : Int) := by omega
      cases j with
      | zero =>
       have hjE : 0 < E.length := by rw [HE.out.2.2]; omega
       obtain ⟨t, ht⟩ : ∃ t, (E[0]).1 = t := ⟨_, rfl⟩
       have HSt : Hid (t.size ≤ 12) := by rw [← ht]; exact (e_rise HMy.out).2.1 _ hjE
       have ht12 := HSt.out
       have hs3 : ¬ 9223372036854775807 < 3 + t.size := by omega
       have hj20 : (0 : Int) ≤ (0 : Int) := by omega
       have HCc : Hid (∀ W, Kept [] wr W → Calls Tryz.prog 12 #[.agg #[.slice a1 S.ino.length c1, .slice a2 S.opn.length c2, .slice a3 S.made.length c3], .agg #[.int .i64 13, .int .i64 0, .int .i64 0, .int .i64 0, .int .i64 0, .string (⟨#[47, 101, 47]⟩ ++ t), .string ⟨#[]⟩, .string ⟨#[]⟩]] W fun e w' => e = .returned (.int .i64 0) ∧ Kept [] W w') := by
        have hCd : (playR S ⟨13, 0, 0, 0, 0, (⟨#[47, 101, 47]⟩ ++ t), ⟨#[]⟩, ⟨#[]⟩⟩ headI).2.code = 0 := by rw [HE.out.1]; exact e_stat HMy.out hjE ht
        obtain ⟨pt, hpt⟩ : ∃ pt, ⟨#[47, 101, 47]⟩ ++ t = pt := ⟨_, rfl⟩
        rw [hpt] at hCd ⊢
        intro W kW
        have h9 := l_codeK (HG1.out.hc.os.kept kW) HG1.out.bd (hT.out.kept (HG1.out.hc.k.trans kW (by simp))) ⟨13, 0, 0, 0, 0, pt, ⟨#[]⟩, ⟨#[]⟩⟩ (dl13 HG1.out.may (Int.le_refl _) HG1.out.one rfl) rfl
        rw [hCd] at h9
        exact h9
       obtain ⟨gz, ngz, hgz, hcz⟩ := HRd.out.2 (0) (by rw [List.length_map]; exact hjE)
       have htx : tx (E.map Prod.fst) (0) = t := by unfold tx; rw [List.getD_eq_getElem?_getD, List.getElem?_map, List.getElem?_eq_getElem hjE]; exact ht
       rw [htx] at hcz
       subst hgz
       have d0 : decide ((0 : Int) < ((0 : Nat) : Int)) = false := by decide
       have hcz' : wr.cell? ⟨gz, ngz, none⟩ = some (.string t) := hcz
       have i2 : (0 : Int) < (l : Int) := by omega
       have HC : Hid (_) := And.intro x0 (And.intro x1 (And.intro x2 (And.intro t5 hcz')))
       clear hcz hcz' ht htx x0 x1 x2 t5
       go_upto_region 18 with fail
       refine wp_region_held_drew (S := fun w' => w'.cell? ⟨X, 0, none⟩ = some (.slice a1 S.ino.length c1) ∧ w'.cell? ⟨X, 1, none⟩ = some (.slice a2 S.opn.length c2) ∧ w'.cell? ⟨X, 2, none⟩ = some (.slice a3 S.made.length c3) ∧ w'.cell? ⟨T1, 5, none⟩ = some (.slice (some ⟨gz, ngz, none⟩) l kk) ∧ w'.cell? ⟨gz, ngz, none⟩ = some (.string t)) (by kernel_rfl) ?_ (fun hHeld => ?_)
       · exact HC.out
       obtain ⟨u0, hu0⟩ : ∃ u, wr.drew = u := ⟨_, rfl⟩
       have HKu : Hid (Kept [] wr u0) := by rw [← hu0]; exact (Kept.refl [] wr).drew
       rw [hu0] at hHeld ⊢
       clear hu0
       refine tkA 0 rfl ?_
       refine tkA 1 rfl ?_
       refine tkA 2 rfl ?_
       refine skA 3 rfl ?_
       refine skA 4 rfl ?_
       refine skA 5 rfl ?_
       refine skA 6 rfl ?_
       refine skA 7 rfl ?_
       refine skA 8 rfl ?_
       refine skA 9 rfl ?_
       refine skA 10 rfl ?_
       refine skA 11 rfl ?_
       refine skA 12 rfl ?_
       refine skA 13 rfl ?_
       refine skA 14 rfl ?_
       refine skA 15 rfl ?_
       refine tkA 16 rfl ?_
       refine tkA 17 rfl ?_
       refine tkA 18 rfl ?_
       refine tkA 19 rfl ?_
       refine tkA 20 rfl ?_
       refine tkA 21 rfl ?_
       refine tkA 22 rfl ?_
       refine tkA 23 rfl ?_
       refine tkA 24 rfl ?_
       refine tkA 25 rfl ?_
       refine wpAnyH_ready (rs := [26]) (by kernel_rfl) (by simp) ?_
       refine AllReadyH.cons rfl (fun K hK => ?_) AllReadyH.nil
       go_simp
       refine (HCc.out _ HKu.out).mono ?_
       rintro e w7 ⟨rfl, k7⟩
       have HK7 : Hid (Kept [] wr w7) := HKu.out.trans k7 (by simp)
       have HS7 : Hid (_) := gk5 hHeld k7
       clear k7
       go_wp2_with fail
       refine hK.out _ _ ?_ (fun hHeld => ?_)
       · exact HS7.out
       clear hK K
       try simp only [Act.put, lz0, lz1, lz2, lz3, lz4, lz5]
       refine tkA 27 rfl ?_
       refine tkA 28 rfl ?_
       refine wpAnyH_done (by kernel_rfl) ?_ _
       clear hHeld HS7
       go_wp2_with fail
       go_roundw
       case rel => exact ⟨0 + 1, by go_num, by omega, HG1.out.kept HK7.out, kb HK7.out HT1.out, Ss.kept HSr.out HK7.out⟩
       case measure => simp [intOf]; omega
      | succ q =>
       have hjE : q + 1 < E.length := by rw [HE.out.2.2]; omega
       obtain ⟨t, ht⟩ : ∃ t, (E[q + 1]).1 = t := ⟨_, rfl⟩
       have HSt : Hid (t.size ≤ 12) := by rw [← ht]; exact (e_rise HMy.out).2.1 _ hjE
       have ht12 := HSt.out
       have hs3 : ¬ 9223372036854775807 < 3 + t.size := by omega
       have hj20 : (0 : Int) ≤ (q + 1 : Int) := by omega
       have HCc : Hid (∀ W, Kept [] wr W → Calls Tryz.prog 12 #[.agg #[.slice a1 S.ino.length c1, .slice a2 S.opn.length c2, .slice a3 S.made.length c3], .agg #[.int .i64 13, .int .i64 0, .int .i64 0, .int .i64 0, .int .i64 0, .string (⟨#[47, 101, 47]⟩ ++ t), .string ⟨#[]⟩, .string ⟨#[]⟩]] W fun e w' => e = .returned (.int .i64 0) ∧ Kept [] W w') := by
        have hCd : (playR S ⟨13, 0, 0, 0, 0, (⟨#[47, 101, 47]⟩ ++ t), ⟨#[]⟩, ⟨#[]⟩⟩ headI).2.code = 0 := by rw [HE.out.1]; exact e_stat HMy.out hjE ht
        obtain ⟨pt, hpt⟩ : ∃ pt, ⟨#[47, 101, 47]⟩ ++ t = pt := ⟨_, rfl⟩
        rw [hpt] at hCd ⊢
        intro W kW
        have h9 := l_codeK (HG1.out.hc.os.kept kW) HG1.out.bd (hT.out.kept (HG1.out.hc.k.trans kW (by simp))) ⟨13, 0, 0, 0, 0, pt, ⟨#[]⟩, ⟨#[]⟩⟩ (dl13 HG1.out.may (Int.le_refl _) HG1.out.one rfl) rfl
        rw [hCd] at h9
        exact h9
       obtain ⟨gz, ngz, hgz, hcz⟩ := HRd.out.2 (q + 1) (by rw [List.length_map]; exact hjE)
       have htx : tx (E.map Prod.fst) (q + 1) = t := by unfold tx; rw [List.getD_eq_getElem?_getD, List.getElem?_map, List.getElem?_eq_getElem hjE]; exact ht
       rw [htx] at hcz
       subst hgz
       have hqE : q < E.length := by omega
       obtain ⟨s, hs⟩ : ∃ s, (E[q]).1 = s := ⟨_, rfl⟩
       have HSs : Hid (s.size ≤ 12) := by rw [← hs]; exact (e_rise HMy.out).2.1 _ hqE
       have hbl : below s t = true := by rw [← hs, ← ht]; exact (e_rise HMy.out).1 q hjE
       obtain ⟨gz2, ngz2, hgz2, hcq⟩ := HRd.out.2 q (by rw [List.length_map]; exact hqE)
       simp only [Option.some.injEq, Addr.mk.injEq, and_true] at hgz2
       obtain ⟨rfl, rfl⟩ := hgz2
       have hts : tx (E.map Prod.fst) q = s := by unfold tx; rw [List.getD_eq_getElem?_getD, List.getElem?_map, List.getElem?_eq_getElem hqE]; exact hs
       rw [hts] at hcq
       have d0 : decide ((0 : Int) < (((q + 1 : Nat)) : Int)) = true := decide_eq_true (by omega)
       have d1 : (0 : Int) < (q : Int) + 1 := by omega
       have d2 : (0 : Int) ≤ (q : Int) := by omega
       have dw : IntKind.i64.wrap (q : Int) = (q : Int) := by rw [IntKind.wrap_i64]; omega
       have d3 : (q : Int) < (l : Int) := by omega
       have d4 : (q : Int) + 1 < (l : Int) := by omega
       have d5 : (0 : Int) ≤ (q : Int) + 1 := by omega
       have HC : Hid (_) := And.intro x0 (And.intro x1 (And.intro x2 (And.intro t5 (And.intro hcz hcq))))
       clear hcz hcq ht htx hs hts x0 x1 x2 t5
       go_upto_region 18 with fail
       refine wp_region_held_drew (S := fun w' => w'.cell? ⟨X, 0, none⟩ = some (.slice a1 S.ino.length c1) ∧ w'.cell? ⟨X, 1, none⟩ = some (.slice a2 S.opn.length c2) ∧ w'.cell? ⟨X, 2, none⟩ = some (.slice a3 S.made.length c3) ∧ w'.cell? ⟨T1, 5, none⟩ = some (.slice (some ⟨gz, ngz, none⟩) l kk) ∧ w'.cell? ⟨gz, ngz + (q + 1), none⟩ = some (.string t) ∧ w'.cell? ⟨gz, ngz + q, none⟩ = some (.string s)) (by kernel_rfl) ?_ (fun hHeld => ?_)
       · exact HC.out
       obtain ⟨u0, hu0⟩ : ∃ u, wr.drew = u := ⟨_, rfl⟩
       have HKu : Hid (Kept [] wr u0) := by rw [← hu0]; exact (Kept.refl [] wr).drew
       rw [hu0] at hHeld ⊢
       clear hu0
       refine tkA 0 rfl ?_
       refine tkA 1 rfl ?_
       refine tkA 2 rfl ?_
       refine tkA 3 rfl ?_
       refine tkA 4 rfl ?_
       refine tkA 5 rfl ?_
       refine tkA 6 rfl ?_
       refine tkA 7 rfl ?_
       refine tkA 8 rfl ?_
       refine tkA 9 rfl ?_
       refine tkA 10 rfl ?_
       refine tkA 11 rfl ?_
       refine tkA 12 rfl ?_
       refine tkA 13 rfl ?_
       refine wpAnyH_ready (rs := [14]) (by kernel_rfl) (by simp) ?_
       refine AllReadyH.cons rfl (fun K hK => ?_) AllReadyH.nil
       go_simp
       refine (f_below s t _ HSs.out HSt.out).mono ?_
       rintro e w6 ⟨rfl, m6, hw6⟩
       rw [hbl]
       have k6 : Kept [] u0 w6 := by rw [hw6]; exact (Kept.refl _ _).drewN _
       have HK6 : Hid (Kept [] wr w6) := HKu.out.trans k6 (by simp)
       have HS6 : Hid (_) := gk6 hHeld k6
       clear k6 hw6
       go_wp2_with fail
       refine hK.out _ _ ?_ (fun hHeld => ?_)
       · exact HS6.out
       clear hK K
       try simp only [Act.put, lz0, lz1, lz2, lz3, lz4, lz5]
       refine tkA 15 rfl ?_
       refine tkA 16 rfl ?_
       refine tkA 17 rfl ?_
       refine tkA 18 rfl ?_
       refine tkA 19 rfl ?_
       refine tkA 20 rfl ?_
       refine tkA 21 rfl ?_
       refine tkA 22 rfl ?_
       refine tkA 23 rfl ?_
       refine tkA 24 rfl ?_
       refine tkA 25 rfl ?_
       refine wpAnyH_ready (rs := [26]) (by kernel_rfl) (by simp) ?_
       refine AllReadyH.cons rfl (fun K hK => ?_) AllReadyH.nil
       go_simp
       refine (HCc.out _ HK6.out).mono ?_
       rintro e w7 ⟨rfl, k7⟩
       have HK7 : Hid (Kept [] wr w7) := HK6.out.trans k7 (by simp)
       have HS7 : Hid (_) := gk6 hHeld k7
       clear k7
       go_wp2_with fail
       refine hK.out _ _ ?_ (fun hHeld => ?_)
       · exact HS7.out
       clear hK K
       try simp only [Act.put, lz0, lz1, lz2, lz3, lz4, lz5]
       refine tkA 27 rfl ?_
       refine tkA 28 rfl ?_
       refine wpAnyH_done (by kernel_rfl) ?_ _
       clear hHeld HS7 HS6
       go_wp2_with fail
       go_roundw
       case rel => exact ⟨(q + 1) + 1, by go_num, by omega, HG1.out.kept HK7.out, kb HK7.out HT1.out, Ss.kept HSr.out HK7.out⟩
       case measure => simp [intOf]; omega
     ·
      have i1 : ¬ (j : Int) < (l : Int) := by omega
      clear t5
      have HDf : Hid (DoL S ⟨12, 0, 0, 0, 0, ⟨#[47, 102]⟩, ⟨#[]⟩, ⟨#[]⟩⟩) := dl12 HG1.out.may (Int.le_refl _) HG1.out.one rfl
      have HDq : Hid (DoL S ⟨12, 0, 0, 0, 0, ⟨#[47, 113]⟩, ⟨#[]⟩, ⟨#[]⟩⟩) := dl12 HG1.out.may (Int.le_refl _) HG1.out.one rfl
      have HCf : Hid ((playR S ⟨12, 0, 0, 0, 0, ⟨#[47, 102]⟩, ⟨#[]⟩, ⟨#[]⟩⟩ headI).2.code = 7) := by rw [HE.out.1]; exact e_nodir HMy.out
      have HCq : Hid ((playR S ⟨12, 0, 0, 0, 0, ⟨#[47, 113]⟩, ⟨#[]⟩, ⟨#[]⟩⟩ headI).2.code = 1) := by rw [HE.out.1]; exact e_nobody HMy.out
      go_wp2_with fail
      refine (l_codeK HG1.out.hc.os HG1.out.bd (hT.out.kept HG1.out.hc.k) ⟨12, 0, 0, 0, 0, ⟨#[47, 102]⟩, ⟨#[]⟩, ⟨#[]⟩⟩ HDf.out rfl).mono ?_
      rintro e w7 ⟨rfl, k7⟩
      rw [HCf.out]
      have HG7 : Hid (_) := HG1.out.kept k7
      clear k7 x0 x1 x2
      obtain ⟨x0, x1, x2, -⟩ := zs3 HG7.out.hc.box
      go_wp2_with fail
      refine (l_codeK HG7.out.hc.os HG7.out.bd (hT.out.kept HG7.out.hc.k) ⟨12, 0, 0, 0, 0, ⟨#[47, 113]⟩, ⟨#[]⟩, ⟨#[]⟩⟩ HDq.out rfl).mono ?_
      rintro e w8 ⟨rfl, k8⟩
      rw [HCq.out]
      have HK8 : Hid (_) := HG7.out.hc.k.trans k8 (by simp)
      clear k8 x0 x1 x2
      go_wp2_with fail
      go_ret
      exact ⟨rfl, HK8.out⟩
end Go.Proofs.YtffncojcnbhblaaGreatDoor
