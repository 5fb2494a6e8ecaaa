/-
  Joined of my texts Fy.
-/
import Derived.Test.YtffncojcnbhblaaGreatDoorJc45
import Derived.Test.YtffncojcnbhblaaGreatDoorJc44
import Derived.Test.YtffncojcnbhblaaGreatDoorJc3
import Derived.Deep.CutRange
import Derived.Deep.CutBlock
import Derived.Test.YtffncojcnbhblaaGreatDoorTk
set_option linter.unusedVariables false
set_option linter.unusedSimpArgs false
set_option maxRecDepth 100000
set_option maxHeartbeats 8000000
namespace Go.Proofs.YtffncojcnbhblaaGreatDoor
open List renaming setIfInBounds_toArray → lz0, set_cons_zero → lz1, set_cons_succ → lz2, getElem_toArray → lz3, getElem_cons_zero → lz4, getElem_cons_succ → lz5
open Go.RowKit
def cF (a b : ByteArray) (o : Nat) : Nat → Cal
 | 0 => ⟨2, 0, 0, 0, 0, ⟨#[47, 100, 47, 104]⟩, ⟨#[]⟩, ⟨#[]⟩⟩
 | 1 => ⟨5, 0, 1, (o : Int), 0, ⟨#[]⟩, ⟨#[]⟩, a⟩
 | _ => ⟨5, 0, 0, 0, 0, ⟨#[]⟩, ⟨#[]⟩, b⟩
def mF (a b : ByteArray) (o : Nat) : Nat → Sta
 | 0 => mS1 7
 | 1 => gF ⟨#[]⟩ ⟨#[48, 49, 50, 51, 52, 53, 54, 55, 56, 57]⟩
 | 2 => gF (fD ⟨#[]⟩ a o) ⟨#[48, 49, 50, 51, 52, 53, 54, 55, 56, 57]⟩
 | _ => gF (fD ⟨#[]⟩ a o) (fD ⟨#[48, 49, 50, 51, 52, 53, 54, 55, 56, 57]⟩ b 0)
def aF (a b : ByteArray) (o : Nat) : Nat → Ans
 | 0 => ⟨0, 1, 0, false, ⟨#[]⟩, []⟩
 | 1 => wA o a
 | _ => wA 0 b
def rwF (a b : ByteArray) (o : Nat) : Array Value := #[.int .i64 2, .int .i64 0, .int .i64 0, .int .i64 0, .int .i64 0, .string ⟨#[47, 100, 47, 104]⟩, .string ⟨#[]⟩, .string ⟨#[]⟩, .int .i64 5, .int .i64 0, .int .i64 1, .int .i64 (o : Int), .int .i64 0, .string ⟨#[]⟩, .string ⟨#[]⟩, .string a, .int .i64 5, .int .i64 0, .int .i64 0, .int .i64 0, .int .i64 0, .string ⟨#[]⟩, .string ⟨#[]⟩, .string b]
theorem three_of {j : Nat} (h : j < 3) : j = 0 ∨ j = 1 ∨ j = 2 := by omega
theorem z0 : (⟨#[]⟩ : ByteArray).size ≤ 256 := by decide
theorem z10 : (⟨#[48, 49, 50, 51, 52, 53, 54, 55, 56, 57]⟩ : ByteArray).size ≤ 256 := by decide
theorem f_play {a b : ByteArray} {o : Nat} (ho : o ≤ 15) {j : Nat} (hj : j < 3) : playR (mF a b o j) (cF a b o j) headI = (mF a b o (j + 1), aF a b o j) := by
 rcases three_of hj with rfl | rfl | rfl
 · exact gf_open
 · exact f_w1 z0 z10 ho a
 · exact f_w2 (fD_size z0) z10 (o := 0) (by omega) b
theorem f_may {a b : ByteArray} {o : Nat} {j : Nat} (hj : j < 3) : mayB (mF a b o j) = true ∧ Bd (mF a b o j) ∧ (0 : Int) < ((mF a b o j).made.length : Int) := by
 rcases three_of hj with rfl | rfl | rfl
 · exact ⟨mb1_7, md1_7, mt1⟩
 · exact ⟨gf_may z0 z10, gf_bd z0 z10, gf_made _ _⟩
 · exact ⟨gf_may (fD_size z0) z10, gf_bd (fD_size z0) z10, gf_made _ _⟩
theorem f_dl {a b : ByteArray} {o : Nat} {j : Nat} (hj : j < 3) (ha : a.size ≤ 140737488351232) (hb : b.size ≤ 140737488351232) : DoL (mF a b o j) (cF a b o j) := by
 obtain ⟨h1, -, h3⟩ := f_may (a := a) (b := b) (o := o) hj
 rcases three_of hj with rfl | rfl | rfl
 · exact dl2 h1 (Int.le_refl _) h3 rfl
 · exact dl5 h1 (Int.le_refl _) h3 rfl (by show a.size ≤ _; omega)
 · exact dl5 h1 (Int.le_refl _) h3 rfl (by show b.size ≤ _; omega)
theorem f_err {a b : ByteArray} {o : Nat} (ho : o ≤ 15) {j : Nat} (hj : j < 3) (h : ¬ (aF a b o j).code = 0) : 200 < a.size ∨ 200 < b.size := by
 rcases three_of hj with rfl | rfl | rfl
 · exact absurd rfl h
 · exact Or.inl (wA_code ho h)
 · exact Or.inr (wA_code (o := 0) (by omega) h)
theorem cellsF {w : World} {C j : Nat} {a b : ByteArray} {o : Nat} (hj : j < 3) (h : w.heap[C]? = some (.cells (rwF a b o) 35 (0, 0))) : w.cell? ⟨C, j * 8, none⟩ = some (.int .i64 (cF a b o j).kind) ∧ w.cell? ⟨C, j * 8 + 1, none⟩ = some (.int .i64 (cF a b o j).core) ∧ w.cell? ⟨C, j * 8 + 2, none⟩ = some (.int .i64 (cF a b o j).fd) ∧ w.cell? ⟨C, j * 8 + 3, none⟩ = some (.int .i64 (cF a b o j).off) ∧ w.cell? ⟨C, j * 8 + 4, none⟩ = some (.int .i64 (cF a b o j).num) ∧ w.cell? ⟨C, j * 8 + 5, none⟩ = some (.string (cF a b o j).path) ∧ w.cell? ⟨C, j * 8 + 6, none⟩ = some (.string (cF a b o j).path2) ∧ w.cell? ⟨C, j * 8 + 7, none⟩ = some (.string (cF a b o j).data) := by
 rcases three_of hj with rfl | rfl | rfl <;> exact ⟨cellB h, cellB h, cellB h, cellB h, cellB h, cellB h, cellB h, cellB h⟩
theorem sF_kept {w w' : World} {X R j : Nat} {a1 a2 a3 : Option Addr} {c1 c2 c3 : Nat} {a b : ByteArray} {o : Nat} (h : w.cell? ⟨X, 0, none⟩ = some (.slice a1 (mF a b o j).ino.length c1) ∧ w.cell? ⟨X, 1, none⟩ = some (.slice a2 (mF a b o j).opn.length c2) ∧ w.cell? ⟨X, 2, none⟩ = some (.slice a3 (mF a b o j).made.length c3) ∧ w.cell? ⟨R, j * 8, none⟩ = some (.int .i64 (cF a b o j).kind) ∧ w.cell? ⟨R, j * 8 + 1, none⟩ = some (.int .i64 (cF a b o j).core) ∧ w.cell? ⟨R, j * 8 + 2, none⟩ = some (.int .i64 (cF a b o j).fd) ∧ w.cell? ⟨R, j * 8 + 3, none⟩ = some (.int .i64 (cF a b o j).off) ∧ w.cell? ⟨R, j * 8 + 4, none⟩ = some (.int .i64 (cF a b o j).num) ∧ w.cell? ⟨R, j * 8 + 5, none⟩ = some (.string (cF a b o j).path) ∧ w.cell? ⟨R, j * 8 + 6, none⟩ = some (.string (cF a b o j).path2) ∧ w.cell? ⟨R, j * 8 + 7, none⟩ = some (.string (cF a b o j).data)) (k : Kept [] w w') : w'.cell? ⟨X, 0, none⟩ = some (.slice a1 (mF a b o j).ino.length c1) ∧ w'.cell? ⟨X, 1, none⟩ = some (.slice a2 (mF a b o j).opn.length c2) ∧ w'.cell? ⟨X, 2, none⟩ = some (.slice a3 (mF a b o j).made.length c3) ∧ w'.cell? ⟨R, j * 8, none⟩ = some (.int .i64 (cF a b o j).kind) ∧ w'.cell? ⟨R, j * 8 + 1, none⟩ = some (.int .i64 (cF a b o j).core) ∧ w'.cell? ⟨R, j * 8 + 2, none⟩ = some (.int .i64 (cF a b o j).fd) ∧ w'.cell? ⟨R, j * 8 + 3, none⟩ = some (.int .i64 (cF a b o j).off) ∧ w'.cell? ⟨R, j * 8 + 4, none⟩ = some (.int .i64 (cF a b o j).num) ∧ w'.cell? ⟨R, j * 8 + 5, none⟩ = some (.string (cF a b o j).path) ∧ w'.cell? ⟨R, j * 8 + 6, none⟩ = some (.string (cF a b o j).path2) ∧ w'.cell? ⟨R, j * 8 + 7, none⟩ = some (.string (cF a b o j).data) :=
 ⟨k.cell h.1 (by simp), k.cell h.2.1 (by simp), k.cell h.2.2.1 (by simp), k.cell h.2.2.2.1 (by simp), k.cell h.2.2.2.2.1 (by simp), k.cell h.2.2.2.2.2.1 (by simp), k.cell h.2.2.2.2.2.2.1 (by simp), k.cell h.2.2.2.2.2.2.2.1 (by simp), k.cell h.2.2.2.2.2.2.2.2.1 (by simp), k.cell h.2.2.2.2.2.2.2.2.2.1 (by simp), k.cell h.2.2.2.2.2.2.2.2.2.2 (by simp)⟩
theorem sF_off {w w' : World} {X R j : Nat} {a1 a2 a3 : Option Addr} {c1 c2 c3 : Nat} {a b : ByteArray} {o : Nat} (h : w.cell? ⟨X, 0, none⟩ = some (.slice a1 (mF a b o j).ino.length c1) ∧ w.cell? ⟨X, 1, none⟩ = some (.slice a2 (mF a b o j).opn.length c2) ∧ w.cell? ⟨X, 2, none⟩ = some (.slice a3 (mF a b o j).made.length c3) ∧ w.cell? ⟨R, j * 8, none⟩ = some (.int .i64 (cF a b o j).kind) ∧ w.cell? ⟨R, j * 8 + 1, none⟩ = some (.int .i64 (cF a b o j).core) ∧ w.cell? ⟨R, j * 8 + 2, none⟩ = some (.int .i64 (cF a b o j).fd) ∧ w.cell? ⟨R, j * 8 + 3, none⟩ = some (.int .i64 (cF a b o j).off) ∧ w.cell? ⟨R, j * 8 + 4, none⟩ = some (.int .i64 (cF a b o j).num) ∧ w.cell? ⟨R, j * 8 + 5, none⟩ = some (.string (cF a b o j).path) ∧ w.cell? ⟨R, j * 8 + 6, none⟩ = some (.string (cF a b o j).path2) ∧ w.cell? ⟨R, j * 8 + 7, none⟩ = some (.string (cF a b o j).data)) (e1 : w'.heap[X]? = w.heap[X]?) (e2 : w'.heap[R]? = w.heap[R]?) : w'.cell? ⟨X, 0, none⟩ = some (.slice a1 (mF a b o j).ino.length c1) ∧ w'.cell? ⟨X, 1, none⟩ = some (.slice a2 (mF a b o j).opn.length c2) ∧ w'.cell? ⟨X, 2, none⟩ = some (.slice a3 (mF a b o j).made.length c3) ∧ w'.cell? ⟨R, j * 8, none⟩ = some (.int .i64 (cF a b o j).kind) ∧ w'.cell? ⟨R, j * 8 + 1, none⟩ = some (.int .i64 (cF a b o j).core) ∧ w'.cell? ⟨R, j * 8 + 2, none⟩ = some (.int .i64 (cF a b o j).fd) ∧ w'.cell? ⟨R, j * 8 + 3, none⟩ = some (.int .i64 (cF a b o j).off) ∧ w'.cell? ⟨R, j * 8 + 4, none⟩ = some (.int .i64 (cF a b o j).num) ∧ w'.cell? ⟨R, j * 8 + 5, none⟩ = some (.string (cF a b o j).path) ∧ w'.cell? ⟨R, j * 8 + 6, none⟩ = some (.string (cF a b o j).path2) ∧ w'.cell? ⟨R, j * 8 + 7, none⟩ = some (.string (cF a b o j).data) :=
 ⟨(World.cell?_of_block (a := ⟨X, 0, none⟩) e1).trans h.1, (World.cell?_of_block (a := ⟨X, 1, none⟩) e1).trans h.2.1, (World.cell?_of_block (a := ⟨X, 2, none⟩) e1).trans h.2.2.1, (World.cell?_of_block (a := ⟨R, j * 8, none⟩) e2).trans h.2.2.2.1, (World.cell?_of_block (a := ⟨R, j * 8 + 1, none⟩) e2).trans h.2.2.2.2.1, (World.cell?_of_block (a := ⟨R, j * 8 + 2, none⟩) e2).trans h.2.2.2.2.2.1, (World.cell?_of_block (a := ⟨R, j * 8 + 3, none⟩) e2).trans h.2.2.2.2.2.2.1, (World.cell?_of_block (a := ⟨R, j * 8 + 4, none⟩) e2).trans h.2.2.2.2.2.2.2.1, (World.cell?_of_block (a := ⟨R, j * 8 + 5, none⟩) e2).trans h.2.2.2.2.2.2.2.2.1, (World.cell?_of_block (a := ⟨R, j * 8 + 6, none⟩) e2).trans h.2.2.2.2.2.2.2.2.2.1, (World.cell?_of_block (a := ⟨R, j * 8 + 7, none⟩) e2).trans h.2.2.2.2.2.2.2.2.2.2⟩
theorem l_links {w : World} {H : Nat} {v1 v2 v3 : Value} {ev : List Value} {S : Sta} (h : Os w H v1 v2 v3 ev S) (hb : Bd S) (num : Int) (hs : S.ino.length ≤ 60000) :
  Calls Tryz.prog 13 #[.agg #[v1, v2, v3], .int .i64 num] w fun e w' => e = .returned (.int .i64 ((linksR S.ino num : Nat) : Int)) ∧ Kept [] w w' := by
 obtain ⟨p, e1, e2, e3, hv, -⟩ := h.sv hb
 have := r_links hv num hs
 unfold sval at this
 rw [← e1, ← e2, ← e3] at this
 exact this
theorem files_w {w : World} (hT0 : Tab w) {a b : ByteArray} {x : Int} {o : Nat} (hoo : bits .and .i64 x 15 = (o : Int)) (ho : o ≤ 15) (ha : a.size ≤ 140737488351232) (hb : b.size ≤ 140737488351232) :
  Calls Tryz.prog 6 #[.string a, .string b, .int .i64 x] w fun e w' => e = .returned (.bool true) ∧ Kept [] w w' := by
 have HSz : Hid (a.size ≤ 140737488351232 ∧ b.size ≤ 140737488351232 ∧ o ≤ 15) := ⟨ha, hb, ho⟩
 have hT : Hid (Tab w) := hT0
 clear hT0
 go_enter Tryz.func6, Tryz.ntmps6
 go_wp2_with fail
 refine (awake_k hT.out).mono ?_
 rintro e U1 ⟨rfl, kk1⟩
 have HK_2 : Hid (Kept [] w U1) := kk1
 clear kk1
 go_wp2_with fail
 refine (l_made1).mono ?_
 rintro e U3 ⟨a3, b3, d3, eu3, rfl, ho3, kk3⟩
 obtain ⟨p3, m3, q3, n3, r3, t3, rfl, rfl, rfl⟩ := formsL ho3 5 1 1 rfl rfl rfl
 have HOs_3 : Hid (_) := ho3.less HK_2.out.size
 have HK_4 : Hid (_) := kt HK_2.out kk3
 clear HK_2
 clear ho3 kk3
 obtain ⟨V5, X5, HX5, HXk5, HXb5⟩ := boxR U3 #[.slice p3 5 m3, .slice q3 1 n3, .slice r3 1 t3] 27
 go_upto_region 4 with fail
 rw [HX5.out.1, HX5.out.2]
 have HLw : Hid (w.heap.size ≤ X5) := by have h1 := HK_4.out.size; have h2 := HX5.out.2; show _ ≤ _; omega
 have HOs_6 : Hid (_) := HOs_3.out.kept HXk5.out
 have HK_6 : Hid (_) := kt HK_4.out HXk5.out
 clear HOs_3 HK_4
 clear HX5 HXk5
 obtain ⟨V7, X7, HX7, HXk7, HXb7⟩ := boxR V5 #[.int .i64 2, .int .i64 0, .int .i64 0, .int .i64 0, .int .i64 0, .string ⟨#[47, 100, 47, 104]⟩, .string ⟨#[]⟩, .string ⟨#[]⟩, .int .i64 5, .int .i64 0, .int .i64 1, .int .i64 (o : Int), .int .i64 0, .string ⟨#[]⟩, .string ⟨#[]⟩, .string a, .int .i64 5, .int .i64 0, .int .i64 0, .int .i64 0, .int .i64 0, .string ⟨#[]⟩, .string ⟨#[]⟩, .string b] 35
 go_upto_region 5 with fail
 rw [HX7.out.1, HX7.out.2]
 have HLX5X7 : Hid (X5 < X7) := by have h1 := lt_of_heap HXb5.out; have h2 := HX7.out.2; show _ < _; omega
 have HBX5_8 : Hid (_) := kb HXk7.out HXb5.out
 have HOs_8 : Hid (_) := HOs_6.out.kept HXk7.out
 have HK_8 : Hid (_) := kt HK_6.out HXk7.out
 clear HXb5 HOs_6 HK_6
 clear HX7 HXk7
 have HRow0 : Hid (V7.heap[X7]? = some (.cells (rwF a b o) 35 (0, 0))) := HXb7.out
 have HC0 : Hid (Hc w V7 X5 (.slice p3 5 m3) (.slice q3 1 n3) (.slice r3 1 t3) eu3 (mF a b o 0)) := ⟨HBX5_8.out, HOs_8.out, off_type HOs_8.out HBX5_8.out (by decide), HLw.out, HK_8.out⟩
 clear HOs_8 HBX5_8 HXb7 HK_8
 obtain ⟨X, hXe⟩ : ∃ X, X5 = X := ⟨_, rfl⟩
 obtain ⟨R, hRe⟩ : ∃ R, X7 = R := ⟨_, rfl⟩
 rw [hXe] at HC0
 rw [hRe] at HRow0
 go_wp2_with fail
 rw [hXe, hRe]
 clear hXe hRe
 go_loopw [9] (fun i wr => ∃ (j : Nat) (v1 v2 v3 : Value) (ev : List Value), i = .int .i64 (j : Int) ∧ j ≤ 3 ∧ Hid (Hc w wr X v1 v2 v3 ev (mF a b o j) ∧ wr.heap[R]? = some (.cells (rwF a b o) 35 (0, 0)) ∧ ∀ i, i < j → (aF a b o i).code = 0)) (fun i _ => (3 - intOf i).toNat)
 case atStart => exact ⟨0, _, _, _, _, rfl, by omega, HC0.out, HRow0.out, fun i hi => absurd hi (by omega)⟩
 case round =>
  obtain ⟨j, v1, v2, v3, ev, rfl, hj, HJ⟩ := hrel
  clear HC0 HRow0
  obtain ⟨a1, c1, hv1, -⟩ := row_form HJ.out.1.os.ino
  obtain ⟨a2, c2, hv2, -⟩ := row_form HJ.out.1.os.opn
  obtain ⟨a3, c3, hv3, -⟩ := row_form HJ.out.1.os.mad
  subst hv1 hv2 hv3
  by_cases hlt : j < 3
  ·
   have i0 : (j : Int) < 3 := by omega
   have i1 : (0 : Int) ≤ (j : Int) := by omega
   have HS : Hid (wr.cell? ⟨X, 0, none⟩ = some (.slice a1 (mF a b o j).ino.length c1) ∧ wr.cell? ⟨X, 1, none⟩ = some (.slice a2 (mF a b o j).opn.length c2) ∧ wr.cell? ⟨X, 2, none⟩ = some (.slice a3 (mF a b o j).made.length c3) ∧ wr.cell? ⟨R, j * 8, none⟩ = some (.int .i64 (cF a b o j).kind) ∧ wr.cell? ⟨R, j * 8 + 1, none⟩ = some (.int .i64 (cF a b o j).core) ∧ wr.cell? ⟨R, j * 8 + 2, none⟩ = some (.int .i64 (cF a b o j).fd) ∧ wr.cell? ⟨R, j * 8 + 3, none⟩ = some (.int .i64 (cF a b o j).off) ∧ wr.cell? ⟨R, j * 8 + 4, none⟩ = some (.int .i64 (cF a b o j).num) ∧ wr.cell? ⟨R, j * 8 + 5, none⟩ = some (.string (cF a b o j).path) ∧ wr.cell? ⟨R, j * 8 + 6, none⟩ = some (.string (cF a b o j).path2) ∧ wr.cell? ⟨R, j * 8 + 7, none⟩ = some (.string (cF a b o j).data)) := by
    obtain ⟨y0, y1, y2, y3, y4, y5, y6, y7⟩ := cellsF hlt HJ.out.2.1
    exact ⟨cellB HJ.out.1.box, cellB HJ.out.1.box, cellB HJ.out.1.box, y0, y1, y2, y3, y4, y5, y6, y7⟩
   have HDc : Hid (∀ W, Kept [] wr W → Calls Tryz.prog 9 #[.agg #[.slice a1 (mF a b o j).ino.length c1, .slice a2 (mF a b o j).opn.length c2, .slice a3 (mF a b o j).made.length c3], .agg #[.int .i64 (cF a b o j).kind, .int .i64 (cF a b o j).core, .int .i64 (cF a b o j).fd, .int .i64 (cF a b o j).off, .int .i64 (cF a b o j).num, .string (cF a b o j).path, .string (cF a b o j).path2, .string (cF a b o j).data]] W fun e w' => ∃ v1 v2 v3 eu z l k, e = .returned (.tuple #[.agg #[v1, v2, v3], .agg #[.int .i64 (aF a b o j).code, .int .i64 (aF a b o j).fd, .int .i64 (aF a b o j).num, .bool (aF a b o j).dir, .string (aF a b o j).data, .slice z l k]]) ∧ Os w' W.heap.size v1 v2 v3 eu (mF a b o (j + 1)) ∧ Kept [] W w') := fun W kW => by
    refine (l_DoK (HJ.out.1.os.kept kW) (f_may hlt).2.1 (hT.out.kept (HJ.out.1.k.trans kW (by simp))) (cF a b o j) (f_dl hlt HSz.out.1 HSz.out.2.1) (f_play HSz.out.2.2 hlt)).mono ?_
    rintro e w' ⟨v1, v2, v3, eu, z, l, k, he, ho, -, -, kk, -⟩
    exact ⟨v1, v2, v3, eu, z, l, k, he, ho, kk⟩
   go_upto_region 8 with fail
   go_cut [10, 11] from 31 to 39 (fun v v8 wx => ∃ (Y Y8 : Nat) (b1 b2 b3 : Option Addr) (d1 d2 d3 : Nat) (eu : List Value) (z : Option Addr) (l k : Nat), v = .pointer (some ⟨Y, 0, none⟩) ∧ v8 = .pointer (some ⟨Y8, 0, none⟩) ∧ Hid (wx.heap[Y]? = some (.cells #[.slice b1 (mF a b o (j + 1)).ino.length d1, .slice b2 (mF a b o (j + 1)).opn.length d2, .slice b3 (mF a b o (j + 1)).made.length d3] 27 (0, 0)) ∧ Os wx wr.heap.size (.slice b1 (mF a b o (j + 1)).ino.length d1) (.slice b2 (mF a b o (j + 1)).opn.length d2) (.slice b3 (mF a b o (j + 1)).made.length d3) eu (mF a b o (j + 1)) ∧ Kept [] wr wx ∧ wx.heap[Y8]? = some (.cells #[.int .i64 (aF a b o j).code, .int .i64 (aF a b o j).fd, .int .i64 (aF a b o j).num, .bool (aF a b o j).dir, .string (aF a b o j).data, .slice z l k] 31 (0, 0))))
   case first =>
    refine wp_region_held_drew (S := fun w' => w'.cell? ⟨X, 0, none⟩ = some (.slice a1 (mF a b o j).ino.length c1) ∧ w'.cell? ⟨X, 1, none⟩ = some (.slice a2 (mF a b o j).opn.length c2) ∧ w'.cell? ⟨X, 2, none⟩ = some (.slice a3 (mF a b o j).made.length c3) ∧ w'.cell? ⟨R, j * 8, none⟩ = some (.int .i64 (cF a b o j).kind) ∧ w'.cell? ⟨R, j * 8 + 1, none⟩ = some (.int .i64 (cF a b o j).core) ∧ w'.cell? ⟨R, j * 8 + 2, none⟩ = some (.int .i64 (cF a b o j).fd) ∧ w'.cell? ⟨R, j * 8 + 3, none⟩ = some (.int .i64 (cF a b o j).off) ∧ w'.cell? ⟨R, j * 8 + 4, none⟩ = some (.int .i64 (cF a b o j).num) ∧ w'.cell? ⟨R, j * 8 + 5, none⟩ = some (.string (cF a b o j).path) ∧ w'.cell? ⟨R, j * 8 + 6, none⟩ = some (.string (cF a b o j).path2) ∧ w'.cell? ⟨R, j * 8 + 7, none⟩ = some (.string (cF a b o j).data)) (by kernel_rfl) ?_ (fun hHeld => ?_)
    · exact HS.out
    obtain ⟨u0, hu0⟩ : ∃ u0, wr.drew = u0 := ⟨_, rfl⟩
    have HK : Hid (Kept [] wr u0) := by rw [← hu0]; exact (Kept.refl _ _).drew
    rw [hu0] at hHeld ⊢
    clear hu0
    refine tkA 0 rfl ?_
    refine tkA 1 rfl ?_
    refine tkA 2 rfl ?_
    refine tkA 3 rfl ?_
    refine tkA 4 rfl ?_
    refine wpAnyH_ready (rs := [5, 9, 10]) (by kernel_rfl) (by simp) ?_
    refine AllReadyH.cons rfl (fun K hK => ?_) (AllReadyH.cons rfl (fun K hK => ?_) (AllReadyH.cons rfl (fun K hK => ?_) AllReadyH.nil))
    ·
     go_simp
     refine (HDc.out _ HK.out).mono ?_
     rintro e u1 ⟨v1, v2, v3, eu, z, l, k, rfl, o5, k5⟩
     obtain ⟨b1, d1, hv1, -⟩ := row_form o5.ino
     obtain ⟨b2, d2, hv2, -⟩ := row_form o5.opn
     obtain ⟨b3, d3, hv3, -⟩ := row_form o5.mad
     subst hv1 hv2 hv3
     have z5 := sF_kept hHeld k5
     go_wp2_with fail
     refine hK.out _ _ ?_ (fun hHeld => ?_)
     · exact z5
     clear hK K z5
     try simp only [Act.put, lz0, lz1, lz2, lz3, lz4, lz5]
     have HK2 : Hid (Kept [] wr u1) := HK.out.trans k5 (by simp)
     have O5 : Hid (Os u1 wr.heap.size (.slice b1 (mF a b o (j + 1)).ino.length d1) (.slice b2 (mF a b o (j + 1)).opn.length d2) (.slice b3 (mF a b o (j + 1)).made.length d3) eu (mF a b o (j + 1))) := o5.less HK.out.size
     clear o5 k5 HK 
     refine tkA 6 rfl ?_
     refine tkA 7 rfl ?_
     refine tkA 8 rfl ?_
     have HK : Hid (_) := HK2.out
     clear HK2
     refine wpAnyH_ready (rs := [9, 10]) (by kernel_rfl) (by simp) ?_
     refine AllReadyH.cons rfl (fun K hK => ?_) (AllReadyH.cons rfl (fun K hK => ?_) AllReadyH.nil)
     ·
      go_simp
      refine hK.out _ _ ?_ (fun hHeld => ?_)
      · exact sF_kept hHeld ((Kept.refl _ _).alloc _)
      clear hK K
      try simp only [Act.put, lz0, lz1, lz2, lz3, lz4, lz5]
      obtain ⟨ux57, Y7, HY, HKY, B7⟩ := boxY u1 #[.slice none 0 0, .slice none 0 0, .slice none 0 0] 27
      rw [HY.out.1] at hHeld
      rw [HY.out.1, HY.out.2]
      have M7 : Hid (wr.heap.size ≤ Y7) := by have h1 := HK.out.size; have h2 := HY.out.2; show _ ≤ _; omega
      have HK2 : Hid (_) := HK.out.trans HKY.out (by simp)
      have O5x : Hid (_) := O5.out.kept HKY.out
      clear HK HY HKY  O5
      have HK : Hid (_) := HK2.out
      clear HK2
      have O5 : Hid (_) := O5x.out
      clear O5x
      refine wpAnyH_ready (rs := [10]) (by kernel_rfl) (by simp) ?_
      refine AllReadyH.cons rfl (fun K hK => ?_) AllReadyH.nil
      go_simp
      refine hK.out _ _ ?_ (fun hHeld => ?_)
      · exact sF_kept hHeld ((Kept.refl _ _).alloc _)
      clear hK K
      try simp only [Act.put, lz0, lz1, lz2, lz3, lz4, lz5]
      obtain ⟨ux578, Y8, HY, HKY, B8⟩ := boxY ux57 #[.int .i64 0, .int .i64 0, .int .i64 0, .bool false, .string ⟨#[]⟩, .slice none 0 0] 31
      rw [HY.out.1] at hHeld
      rw [HY.out.1, HY.out.2]
      have M8 : Hid (wr.heap.size ≤ Y8) := by have h1 := HK.out.size; have h2 := HY.out.2; show _ ≤ _; omega
      have HK2 : Hid (_) := HK.out.trans HKY.out (by simp)
      have B7x : Hid (_) := (HKY.out.block _ (lt_of_heap B7.out) (by simp)).trans B7.out
      have O5x : Hid (_) := O5.out.kept HKY.out
      clear HK HY HKY B7 O5
      have HK : Hid (_) := HK2.out
      clear HK2
      have B7 : Hid (_) := B7x.out
      clear B7x
      have O5 : Hid (_) := O5x.out
      clear O5x
      have O : Hid (Os ux578 wr.heap.size (.slice b1 (mF a b o (j + 1)).ino.length d1) (.slice b2 (mF a b o (j + 1)).opn.length d2) (.slice b3 (mF a b o (j + 1)).made.length d3) eu (mF a b o (j + 1)) ∧ Off [Y7] (.slice b1 (mF a b o (j + 1)).ino.length d1) (.slice b2 (mF a b o (j + 1)).opn.length d2) (.slice b3 (mF a b o (j + 1)).made.length d3) eu ∧ Off [Y8] (.slice b1 (mF a b o (j + 1)).ino.length d1) (.slice b2 (mF a b o (j + 1)).opn.length d2) (.slice b3 (mF a b o (j + 1)).made.length d3) eu) := ⟨O5.out, off_type O5.out B7.out (by decide), off_type O5.out B8.out (by decide)⟩
      have N78 : Hid (Y7 ≠ Y8) := fun e => by have h1 := B7.out; rw [e, B8.out] at h1; simp at h1
      have L7 : Hid (wr.heap.size ≤ Y7) := M7.out
      have L8 : Hid (wr.heap.size ≤ Y8) := M8.out
      have N7 : Hid (X ≠ Y7 ∧ R ≠ Y7) := by have h1 := lt_of_heap HJ.out.2.1; have h3 := lt_of_heap HJ.out.1.box; have h2 := L7.out; exact ⟨by omega, by omega⟩
      have N8 : Hid (X ≠ Y8 ∧ R ≠ Y8) := by have h1 := lt_of_heap HJ.out.2.1; have h3 := lt_of_heap HJ.out.1.box; have h2 := L8.out; exact ⟨by omega, by omega⟩
      obtain ⟨g0, g1, g2, s0, s1, s2⟩ := zs3 B7.out
      refine wpAnyH_ready (rs := [11]) (by kernel_rfl) (by simp) ?_
      refine AllReadyH.cons rfl (fun K hK => ?_) AllReadyH.nil
      go_simp
      refine hK.out _ _ ?_ (fun hHeld => ?_)
      · exact sF_off hHeld (otherZ N7.out.1) (otherZ N7.out.2)
      clear hK K
      try simp only [Act.put, lz0, lz1, lz2, lz3, lz4, lz5]
      obtain ⟨x, hx⟩ : ∃ x, laidZ ux578 Y7 (.slice b1 (mF a b o (j + 1)).ino.length d1) (.slice b2 (mF a b o (j + 1)).opn.length d2) (.slice b3 (mF a b o (j + 1)).made.length d3) = x := ⟨_, rfl⟩
      have C7 : Hid (_) := blockZ B7.out (.slice b1 (mF a b o (j + 1)).ino.length d1) (.slice b2 (mF a b o (j + 1)).opn.length d2) (.slice b3 (mF a b o (j + 1)).made.length d3)
      have C8 : Hid (_) := (otherZ (w := ux578) (R := Y7) (a := .slice b1 (mF a b o (j + 1)).ino.length d1) (b := .slice b2 (mF a b o (j + 1)).opn.length d2) (c := .slice b3 (mF a b o (j + 1)).made.length d3) N78.out.symm).trans B8.out
      have Kx : Hid (_) := keptZ HK.out L7.out (.slice b1 (mF a b o (j + 1)).ino.length d1) (.slice b2 (mF a b o (j + 1)).opn.length d2) (.slice b3 (mF a b o (j + 1)).made.length d3)
      have Ox : Hid (_) := O.out.1.keep (kept3Z ux578 Y7 (.slice b1 (mF a b o (j + 1)).ino.length d1) (.slice b2 (mF a b o (j + 1)).opn.length d2) (.slice b3 (mF a b o (j + 1)).made.length d3)) O.out.2.1
      rw [hx] at C7 C8 Kx Ox
      unfold Go.Proofs.YtffncojcnbhblaaGreatDoor.laidZ at hx
      rw [hx] at hHeld ⊢
      clear hx g0 g1 g2 s0 s1 s2
      obtain ⟨g0, g1, g2, g3, g4, g5, s0, s1, s2, s3, s4, s5⟩ := rs6 C8.out
      refine wpAnyH_ready (rs := [12]) (by kernel_rfl) (by simp) ?_
      refine AllReadyH.cons rfl (fun K hK => ?_) AllReadyH.nil
      go_simp
      refine hK.out _ _ ?_ (fun hHeld => ?_)
      · exact sF_off hHeld (otherY N8.out.1) (otherY N8.out.2)
      clear hK K
      try simp only [Act.put, lz0, lz1, lz2, lz3, lz4, lz5]
      obtain ⟨y, hy⟩ : ∃ y, laidY x Y8 (.int .i64 (aF a b o j).code) (.int .i64 (aF a b o j).fd) (.int .i64 (aF a b o j).num) (.bool (aF a b o j).dir) (.string (aF a b o j).data) (.slice z l k) = y := ⟨_, rfl⟩
      have D7 : Hid (_) := (otherY (w := x) (R := Y8) (a := .int .i64 (aF a b o j).code) (b := .int .i64 (aF a b o j).fd) (c := .int .i64 (aF a b o j).num) (d := .bool (aF a b o j).dir) (e := .string (aF a b o j).data) (f := .slice z l k) N78.out).trans C7.out
      have D8 : Hid (_) := blockY C8.out (.int .i64 (aF a b o j).code) (.int .i64 (aF a b o j).fd) (.int .i64 (aF a b o j).num) (.bool (aF a b o j).dir) (.string (aF a b o j).data) (.slice z l k)
      have Ky : Hid (_) := keptY Kx.out L8.out (.int .i64 (aF a b o j).code) (.int .i64 (aF a b o j).fd) (.int .i64 (aF a b o j).num) (.bool (aF a b o j).dir) (.string (aF a b o j).data) (.slice z l k)
      have Oy : Hid (_) := Ox.out.keep (kept6Y x Y8 (.int .i64 (aF a b o j).code) (.int .i64 (aF a b o j).fd) (.int .i64 (aF a b o j).num) (.bool (aF a b o j).dir) (.string (aF a b o j).data) (.slice z l k)) O.out.2.2
      rw [hy] at D7 D8 Ky Oy
      unfold Go.Proofs.YtffncojcnbhblaaGreatDoor.laidY at hy
      rw [hy] at hHeld ⊢
      clear hy hHeld g0 g1 g2 g3 g4 g5 s0 s1 s2 s3 s4 s5
      refine wpAnyH_done (by kernel_rfl) ?_ _
      go_wp2_with fail
      go_meet
      case rel => exact ⟨Y7, Y8, b1, b2, b3, d1, d2, d3, eu, z, l, k, rfl, rfl, D7.out, Oy.out, Ky.out, D8.out⟩
     ·
      go_simp
      refine hK.out _ _ ?_ (fun hHeld => ?_)
      · exact sF_kept hHeld ((Kept.refl _ _).alloc _)
      clear hK K
      try simp only [Act.put, lz0, lz1, lz2, lz3, lz4, lz5]
      obtain ⟨ux58, Y8, HY, HKY, B8⟩ := boxY u1 #[.int .i64 0, .int .i64 0, .int .i64 0, .bool false, .string ⟨#[]⟩, .slice none 0 0] 31
      rw [HY.out.1] at hHeld
      rw [HY.out.1, HY.out.2]
      have M8 : Hid (wr.heap.size ≤ Y8) := by have h1 := HK.out.size; have h2 := HY.out.2; show _ ≤ _; omega
      have HK2 : Hid (_) := HK.out.trans HKY.out (by simp)
      have O5x : Hid (_) := O5.out.kept HKY.out
      clear HK HY HKY  O5
      have HK : Hid (_) := HK2.out
      clear HK2
      have O5 : Hid (_) := O5x.out
      clear O5x
      refine wpAnyH_ready (rs := [9]) (by kernel_rfl) (by simp) ?_
      refine AllReadyH.cons rfl (fun K hK => ?_) AllReadyH.nil
      go_simp
      refine hK.out _ _ ?_ (fun hHeld => ?_)
      · exact sF_kept hHeld ((Kept.refl _ _).alloc _)
      clear hK K
      try simp only [Act.put, lz0, lz1, lz2, lz3, lz4, lz5]
      obtain ⟨ux587, Y7, HY, HKY, B7⟩ := boxY ux58 #[.slice none 0 0, .slice none 0 0, .slice none 0 0] 27
      rw [HY.out.1] at hHeld
      rw [HY.out.1, HY.out.2]
      have M7 : Hid (wr.heap.size ≤ Y7) := by have h1 := HK.out.size; have h2 := HY.out.2; show _ ≤ _; omega
      have HK2 : Hid (_) := HK.out.trans HKY.out (by simp)
      have B8x : Hid (_) := (HKY.out.block _ (lt_of_heap B8.out) (by simp)).trans B8.out
      have O5x : Hid (_) := O5.out.kept HKY.out
      clear HK HY HKY B8 O5
      have HK : Hid (_) := HK2.out
      clear HK2
      have B8 : Hid (_) := B8x.out
      clear B8x
      have O5 : Hid (_) := O5x.out
      clear O5x
      have O : Hid (Os ux587 wr.heap.size (.slice b1 (mF a b o (j + 1)).ino.length d1) (.slice b2 (mF a b o (j + 1)).opn.length d2) (.slice b3 (mF a b o (j + 1)).made.length d3) eu (mF a b o (j + 1)) ∧ Off [Y7] (.slice b1 (mF a b o (j + 1)).ino.length d1) (.slice b2 (mF a b o (j + 1)).opn.length d2) (.slice b3 (mF a b o (j + 1)).made.length d3) eu ∧ Off [Y8] (.slice b1 (mF a b o (j + 1)).ino.length d1) (.slice b2 (mF a b o (j + 1)).opn.length d2) (.slice b3 (mF a b o (j + 1)).made.length d3) eu) := ⟨O5.out, off_type O5.out B7.out (by decide), off_type O5.out B8.out (by decide)⟩
      have N78 : Hid (Y7 ≠ Y8) := fun e => by have h1 := B7.out; rw [e, B8.out] at h1; simp at h1
      have L7 : Hid (wr.heap.size ≤ Y7) := M7.out
      have L8 : Hid (wr.heap.size ≤ Y8) := M8.out
      have N7 : Hid (X ≠ Y7 ∧ R ≠ Y7) := by have h1 := lt_of_heap HJ.out.2.1; have h3 := lt_of_heap HJ.out.1.box; have h2 := L7.out; exact ⟨by omega, by omega⟩
      have N8 : Hid (X ≠ Y8 ∧ R ≠ Y8) := by have h1 := lt_of_heap HJ.out.2.1; have h3 := lt_of_heap HJ.out.1.box; have h2 := L8.out; exact ⟨by omega, by omega⟩
      obtain ⟨g0, g1, g2, s0, s1, s2⟩ := zs3 B7.out
      refine wpAnyH_ready (rs := [11]) (by kernel_rfl) (by simp) ?_
      refine AllReadyH.cons rfl (fun K hK => ?_) AllReadyH.nil
      go_simp
      refine hK.out _ _ ?_ (fun hHeld => ?_)
      · exact sF_off hHeld (otherZ N7.out.1) (otherZ N7.out.2)
      clear hK K
      try simp only [Act.put, lz0, lz1, lz2, lz3, lz4, lz5]
      obtain ⟨x, hx⟩ : ∃ x, laidZ ux587 Y7 (.slice b1 (mF a b o (j + 1)).ino.length d1) (.slice b2 (mF a b o (j + 1)).opn.length d2) (.slice b3 (mF a b o (j + 1)).made.length d3) = x := ⟨_, rfl⟩
      have C7 : Hid (_) := blockZ B7.out (.slice b1 (mF a b o (j + 1)).ino.length d1) (.slice b2 (mF a b o (j + 1)).opn.length d2) (.slice b3 (mF a b o (j + 1)).made.length d3)
      have C8 : Hid (_) := (otherZ (w := ux587) (R := Y7) (a := .slice b1 (mF a b o (j + 1)).ino.length d1) (b := .slice b2 (mF a b o (j + 1)).opn.length d2) (c := .slice b3 (mF a b o (j + 1)).made.length d3) N78.out.symm).trans B8.out
      have Kx : Hid (_) := keptZ HK.out L7.out (.slice b1 (mF a b o (j + 1)).ino.length d1) (.slice b2 (mF a b o (j + 1)).opn.length d2) (.slice b3 (mF a b o (j + 1)).made.length d3)
      have Ox : Hid (_) := O.out.1.keep (kept3Z ux587 Y7 (.slice b1 (mF a b o (j + 1)).ino.length d1) (.slice b2 (mF a b o (j + 1)).opn.length d2) (.slice b3 (mF a b o (j + 1)).made.length d3)) O.out.2.1
      rw [hx] at C7 C8 Kx Ox
      unfold Go.Proofs.YtffncojcnbhblaaGreatDoor.laidZ at hx
      rw [hx] at hHeld ⊢
      clear hx g0 g1 g2 s0 s1 s2
      obtain ⟨g0, g1, g2, g3, g4, g5, s0, s1, s2, s3, s4, s5⟩ := rs6 C8.out
      refine wpAnyH_ready (rs := [12]) (by kernel_rfl) (by simp) ?_
      refine AllReadyH.cons rfl (fun K hK => ?_) AllReadyH.nil
      go_simp
      refine hK.out _ _ ?_ (fun hHeld => ?_)
      · exact sF_off hHeld (otherY N8.out.1) (otherY N8.out.2)
      clear hK K
      try simp only [Act.put, lz0, lz1, lz2, lz3, lz4, lz5]
      obtain ⟨y, hy⟩ : ∃ y, laidY x Y8 (.int .i64 (aF a b o j).code) (.int .i64 (aF a b o j).fd) (.int .i64 (aF a b o j).num) (.bool (aF a b o j).dir) (.string (aF a b o j).data) (.slice z l k) = y := ⟨_, rfl⟩
      have D7 : Hid (_) := (otherY (w := x) (R := Y8) (a := .int .i64 (aF a b o j).code) (b := .int .i64 (aF a b o j).fd) (c := .int .i64 (aF a b o j).num) (d := .bool (aF a b o j).dir) (e := .string (aF a b o j).data) (f := .slice z l k) N78.out).trans C7.out
      have D8 : Hid (_) := blockY C8.out (.int .i64 (aF a b o j).code) (.int .i64 (aF a b o j).fd) (.int .i64 (aF a b o j).num) (.bool (aF a b o j).dir) (.string (aF a b o j).data) (.slice z l k)
      have Ky : Hid (_) := keptY Kx.out L8.out (.int .i64 (aF a b o j).code) (.int .i64 (aF a b o j).fd) (.int .i64 (aF a b o j).num) (.bool (aF a b o j).dir) (.string (aF a b o j).data) (.slice z l k)
      have Oy : Hid (_) := Ox.out.keep (kept6Y x Y8 (.int .i64 (aF a b o j).code) (.int .i64 (aF a b o j).fd) (.int .i64 (aF a b o j).num) (.bool (aF a b o j).dir) (.string (aF a b o j).data) (.slice z l k)) O.out.2.2
      rw [hy] at D7 D8 Ky Oy
      unfold Go.Proofs.YtffncojcnbhblaaGreatDoor.laidY at hy
      rw [hy] at hHeld ⊢
      clear hy hHeld g0 g1 g2 g3 g4 g5 s0 s1 s2 s3 s4 s5
      refine wpAnyH_done (by kernel_rfl) ?_ _
      go_wp2_with fail
      go_meet
      case rel => exact ⟨Y7, Y8, b1, b2, b3, d1, d2, d3, eu, z, l, k, rfl, rfl, D7.out, Oy.out, Ky.out, D8.out⟩
    ·
     go_simp
     refine hK.out _ _ ?_ (fun hHeld => ?_)
     · exact sF_kept hHeld ((Kept.refl _ _).alloc _)
     clear hK K
     try simp only [Act.put, lz0, lz1, lz2, lz3, lz4, lz5]
     obtain ⟨ux7, Y7, HY, HKY, B7⟩ := boxY u0 #[.slice none 0 0, .slice none 0 0, .slice none 0 0] 27
     rw [HY.out.1] at hHeld
     rw [HY.out.1, HY.out.2]
     have M7 : Hid (wr.heap.size ≤ Y7) := by have h1 := HK.out.size; have h2 := HY.out.2; show _ ≤ _; omega
     have HK2 : Hid (_) := HK.out.trans HKY.out (by simp)
     clear HK HY HKY 
     have HK : Hid (_) := HK2.out
     clear HK2
     refine wpAnyH_ready (rs := [5, 10]) (by kernel_rfl) (by simp) ?_
     refine AllReadyH.cons rfl (fun K hK => ?_) (AllReadyH.cons rfl (fun K hK => ?_) AllReadyH.nil)
     ·
      go_simp
      refine (HDc.out _ HK.out).mono ?_
      rintro e u1 ⟨v1, v2, v3, eu, z, l, k, rfl, o5, k5⟩
      obtain ⟨b1, d1, hv1, -⟩ := row_form o5.ino
      obtain ⟨b2, d2, hv2, -⟩ := row_form o5.opn
      obtain ⟨b3, d3, hv3, -⟩ := row_form o5.mad
      subst hv1 hv2 hv3
      have z5 := sF_kept hHeld k5
      go_wp2_with fail
      refine hK.out _ _ ?_ (fun hHeld => ?_)
      · exact z5
      clear hK K z5
      try simp only [Act.put, lz0, lz1, lz2, lz3, lz4, lz5]
      have HK2 : Hid (Kept [] wr u1) := HK.out.trans k5 (by simp)
      have B7x : Hid (_) := (k5.block _ (lt_of_heap B7.out) (by simp)).trans B7.out
      have O5 : Hid (Os u1 wr.heap.size (.slice b1 (mF a b o (j + 1)).ino.length d1) (.slice b2 (mF a b o (j + 1)).opn.length d2) (.slice b3 (mF a b o (j + 1)).made.length d3) eu (mF a b o (j + 1))) := o5.less HK.out.size
      clear o5 k5 HK B7
      refine tkA 6 rfl ?_
      refine tkA 7 rfl ?_
      refine tkA 8 rfl ?_
      have HK : Hid (_) := HK2.out
      clear HK2
      have B7 : Hid (_) := B7x.out
      clear B7x
      refine wpAnyH_ready (rs := [10]) (by kernel_rfl) (by simp) ?_
      refine AllReadyH.cons rfl (fun K hK => ?_) AllReadyH.nil
      go_simp
      refine hK.out _ _ ?_ (fun hHeld => ?_)
      · exact sF_kept hHeld ((Kept.refl _ _).alloc _)
      clear hK K
      try simp only [Act.put, lz0, lz1, lz2, lz3, lz4, lz5]
      obtain ⟨ux758, Y8, HY, HKY, B8⟩ := boxY u1 #[.int .i64 0, .int .i64 0, .int .i64 0, .bool false, .string ⟨#[]⟩, .slice none 0 0] 31
      rw [HY.out.1] at hHeld
      rw [HY.out.1, HY.out.2]
      have M8 : Hid (wr.heap.size ≤ Y8) := by have h1 := HK.out.size; have h2 := HY.out.2; show _ ≤ _; omega
      have HK2 : Hid (_) := HK.out.trans HKY.out (by simp)
      have B7x : Hid (_) := (HKY.out.block _ (lt_of_heap B7.out) (by simp)).trans B7.out
      have O5x : Hid (_) := O5.out.kept HKY.out
      clear HK HY HKY B7 O5
      have HK : Hid (_) := HK2.out
      clear HK2
      have B7 : Hid (_) := B7x.out
      clear B7x
      have O5 : Hid (_) := O5x.out
      clear O5x
      have O : Hid (Os ux758 wr.heap.size (.slice b1 (mF a b o (j + 1)).ino.length d1) (.slice b2 (mF a b o (j + 1)).opn.length d2) (.slice b3 (mF a b o (j + 1)).made.length d3) eu (mF a b o (j + 1)) ∧ Off [Y7] (.slice b1 (mF a b o (j + 1)).ino.length d1) (.slice b2 (mF a b o (j + 1)).opn.length d2) (.slice b3 (mF a b o (j + 1)).made.length d3) eu ∧ Off [Y8] (.slice b1 (mF a b o (j + 1)).ino.length d1) (.slice b2 (mF a b o (j + 1)).opn.length d2) (.slice b3 (mF a b o (j + 1)).made.length d3) eu) := ⟨O5.out, off_type O5.out B7.out (by decide), off_type O5.out B8.out (by decide)⟩
      have N78 : Hid (Y7 ≠ Y8) := fun e => by have h1 := B7.out; rw [e, B8.out] at h1; simp at h1
      have L7 : Hid (wr.heap.size ≤ Y7) := M7.out
      have L8 : Hid (wr.heap.size ≤ Y8) := M8.out
      have N7 : Hid (X ≠ Y7 ∧ R ≠ Y7) := by have h1 := lt_of_heap HJ.out.2.1; have h3 := lt_of_heap HJ.out.1.box; have h2 := L7.out; exact ⟨by omega, by omega⟩
      have N8 : Hid (X ≠ Y8 ∧ R ≠ Y8) := by have h1 := lt_of_heap HJ.out.2.1; have h3 := lt_of_heap HJ.out.1.box; have h2 := L8.out; exact ⟨by omega, by omega⟩
      obtain ⟨g0, g1, g2, s0, s1, s2⟩ := zs3 B7.out
      refine wpAnyH_ready (rs := [11]) (by kernel_rfl) (by simp) ?_
      refine AllReadyH.cons rfl (fun K hK => ?_) AllReadyH.nil
      go_simp
      refine hK.out _ _ ?_ (fun hHeld => ?_)
      · exact sF_off hHeld (otherZ N7.out.1) (otherZ N7.out.2)
      clear hK K
      try simp only [Act.put, lz0, lz1, lz2, lz3, lz4, lz5]
      obtain ⟨x, hx⟩ : ∃ x, laidZ ux758 Y7 (.slice b1 (mF a b o (j + 1)).ino.length d1) (.slice b2 (mF a b o (j + 1)).opn.length d2) (.slice b3 (mF a b o (j + 1)).made.length d3) = x := ⟨_, rfl⟩
      have C7 : Hid (_) := blockZ B7.out (.slice b1 (mF a b o (j + 1)).ino.length d1) (.slice b2 (mF a b o (j + 1)).opn.length d2) (.slice b3 (mF a b o (j + 1)).made.length d3)
      have C8 : Hid (_) := (otherZ (w := ux758) (R := Y7) (a := .slice b1 (mF a b o (j + 1)).ino.length d1) (b := .slice b2 (mF a b o (j + 1)).opn.length d2) (c := .slice b3 (mF a b o (j + 1)).made.length d3) N78.out.symm).trans B8.out
      have Kx : Hid (_) := keptZ HK.out L7.out (.slice b1 (mF a b o (j + 1)).ino.length d1) (.slice b2 (mF a b o (j + 1)).opn.length d2) (.slice b3 (mF a b o (j + 1)).made.length d3)
      have Ox : Hid (_) := O.out.1.keep (kept3Z ux758 Y7 (.slice b1 (mF a b o (j + 1)).ino.length d1) (.slice b2 (mF a b o (j + 1)).opn.length d2) (.slice b3 (mF a b o (j + 1)).made.length d3)) O.out.2.1
      rw [hx] at C7 C8 Kx Ox
      unfold Go.Proofs.YtffncojcnbhblaaGreatDoor.laidZ at hx
      rw [hx] at hHeld ⊢
      clear hx g0 g1 g2 s0 s1 s2
      obtain ⟨g0, g1, g2, g3, g4, g5, s0, s1, s2, s3, s4, s5⟩ := rs6 C8.out
      refine wpAnyH_ready (rs := [12]) (by kernel_rfl) (by simp) ?_
      refine AllReadyH.cons rfl (fun K hK => ?_) AllReadyH.nil
      go_simp
      refine hK.out _ _ ?_ (fun hHeld => ?_)
      · exact sF_off hHeld (otherY N8.out.1) (otherY N8.out.2)
      clear hK K
      try simp only [Act.put, lz0, lz1, lz2, lz3, lz4, lz5]
      obtain ⟨y, hy⟩ : ∃ y, laidY x Y8 (.int .i64 (aF a b o j).code) (.int .i64 (aF a b o j).fd) (.int .i64 (aF a b o j).num) (.bool (aF a b o j).dir) (.string (aF a b o j).data) (.slice z l k) = y := ⟨_, rfl⟩
      have D7 : Hid (_) := (otherY (w := x) (R := Y8) (a := .int .i64 (aF a b o j).code) (b := .int .i64 (aF a b o j).fd) (c := .int .i64 (aF a b o j).num) (d := .bool (aF a b o j).dir) (e := .string (aF a b o j).data) (f := .slice z l k) N78.out).trans C7.out
      have D8 : Hid (_) := blockY C8.out (.int .i64 (aF a b o j).code) (.int .i64 (aF a b o j).fd) (.int .i64 (aF a b o j).num) (.bool (aF a b o j).dir) (.string (aF a b o j).data) (.slice z l k)
      have Ky : Hid (_) := keptY Kx.out L8.out (.int .i64 (aF a b o j).code) (.int .i64 (aF a b o j).fd) (.int .i64 (aF a b o j).num) (.bool (aF a b o j).dir) (.string (aF a b o j).data) (.slice z l k)
      have Oy : Hid (_) := Ox.out.keep (kept6Y x Y8 (.int .i64 (aF a b o j).code) (.int .i64 (aF a b o j).fd) (.int .i64 (aF a b o j).num) (.bool (aF a b o j).dir) (.string (aF a b o j).data) (.slice z l k)) O.out.2.2
      rw [hy] at D7 D8 Ky Oy
      unfold Go.Proofs.YtffncojcnbhblaaGreatDoor.laidY at hy
      rw [hy] at hHeld ⊢
      clear hy hHeld g0 g1 g2 g3 g4 g5 s0 s1 s2 s3 s4 s5
      refine wpAnyH_done (by kernel_rfl) ?_ _
      go_wp2_with fail
      go_meet
      case rel => exact ⟨Y7, Y8, b1, b2, b3, d1, d2, d3, eu, z, l, k, rfl, rfl, D7.out, Oy.out, Ky.out, D8.out⟩
     ·
      go_simp
      refine hK.out _ _ ?_ (fun hHeld => ?_)
      · exact sF_kept hHeld ((Kept.refl _ _).alloc _)
      clear hK K
      try simp only [Act.put, lz0, lz1, lz2, lz3, lz4, lz5]
      obtain ⟨ux78, Y8, HY, HKY, B8⟩ := boxY ux7 #[.int .i64 0, .int .i64 0, .int .i64 0, .bool false, .string ⟨#[]⟩, .slice none 0 0] 31
      rw [HY.out.1] at hHeld
      rw [HY.out.1, HY.out.2]
      have M8 : Hid (wr.heap.size ≤ Y8) := by have h1 := HK.out.size; have h2 := HY.out.2; show _ ≤ _; omega
      have HK2 : Hid (_) := HK.out.trans HKY.out (by simp)
      have B7x : Hid (_) := (HKY.out.block _ (lt_of_heap B7.out) (by simp)).trans B7.out
      clear HK HY HKY B7
      have HK : Hid (_) := HK2.out
      clear HK2
      have B7 : Hid (_) := B7x.out
      clear B7x
      refine wpAnyH_ready (rs := [5]) (by kernel_rfl) (by simp) ?_
      refine AllReadyH.cons rfl (fun K hK => ?_) AllReadyH.nil
      go_simp
      refine (HDc.out _ HK.out).mono ?_
      rintro e u1 ⟨v1, v2, v3, eu, z, l, k, rfl, o5, k5⟩
      obtain ⟨b1, d1, hv1, -⟩ := row_form o5.ino
      obtain ⟨b2, d2, hv2, -⟩ := row_form o5.opn
      obtain ⟨b3, d3, hv3, -⟩ := row_form o5.mad
      subst hv1 hv2 hv3
      have z5 := sF_kept hHeld k5
      go_wp2_with fail
      refine hK.out _ _ ?_ (fun hHeld => ?_)
      · exact z5
      clear hK K z5
      try simp only [Act.put, lz0, lz1, lz2, lz3, lz4, lz5]
      have HK2 : Hid (Kept [] wr u1) := HK.out.trans k5 (by simp)
      have B7x : Hid (_) := (k5.block _ (lt_of_heap B7.out) (by simp)).trans B7.out
      have B8x : Hid (_) := (k5.block _ (lt_of_heap B8.out) (by simp)).trans B8.out
      have O5 : Hid (Os u1 wr.heap.size (.slice b1 (mF a b o (j + 1)).ino.length d1) (.slice b2 (mF a b o (j + 1)).opn.length d2) (.slice b3 (mF a b o (j + 1)).made.length d3) eu (mF a b o (j + 1))) := o5.less HK.out.size
      clear o5 k5 HK B7 B8
      refine tkA 6 rfl ?_
      refine tkA 7 rfl ?_
      refine tkA 8 rfl ?_
      have HK : Hid (_) := HK2.out
      clear HK2
      have B7 : Hid (_) := B7x.out
      clear B7x
      have B8 : Hid (_) := B8x.out
      clear B8x
      have O : Hid (Os u1 wr.heap.size (.slice b1 (mF a b o (j + 1)).ino.length d1) (.slice b2 (mF a b o (j + 1)).opn.length d2) (.slice b3 (mF a b o (j + 1)).made.length d3) eu (mF a b o (j + 1)) ∧ Off [Y7] (.slice b1 (mF a b o (j + 1)).ino.length d1) (.slice b2 (mF a b o (j + 1)).opn.length d2) (.slice b3 (mF a b o (j + 1)).made.length d3) eu ∧ Off [Y8] (.slice b1 (mF a b o (j + 1)).ino.length d1) (.slice b2 (mF a b o (j + 1)).opn.length d2) (.slice b3 (mF a b o (j + 1)).made.length d3) eu) := ⟨O5.out, off_type O5.out B7.out (by decide), off_type O5.out B8.out (by decide)⟩
      have N78 : Hid (Y7 ≠ Y8) := fun e => by have h1 := B7.out; rw [e, B8.out] at h1; simp at h1
      have L7 : Hid (wr.heap.size ≤ Y7) := M7.out
      have L8 : Hid (wr.heap.size ≤ Y8) := M8.out
      have N7 : Hid (X ≠ Y7 ∧ R ≠ Y7) := by have h1 := lt_of_heap HJ.out.2.1; have h3 := lt_of_heap HJ.out.1.box; have h2 := L7.out; exact ⟨by omega, by omega⟩
      have N8 : Hid (X ≠ Y8 ∧ R ≠ Y8) := by have h1 := lt_of_heap HJ.out.2.1; have h3 := lt_of_heap HJ.out.1.box; have h2 := L8.out; exact ⟨by omega, by omega⟩
      obtain ⟨g0, g1, g2, s0, s1, s2⟩ := zs3 B7.out
      refine wpAnyH_ready (rs := [11]) (by kernel_rfl) (by simp) ?_
      refine AllReadyH.cons rfl (fun K hK => ?_) AllReadyH.nil
      go_simp
      refine hK.out _ _ ?_ (fun hHeld => ?_)
      · exact sF_off hHeld (otherZ N7.out.1) (otherZ N7.out.2)
      clear hK K
      try simp only [Act.put, lz0, lz1, lz2, lz3, lz4, lz5]
      obtain ⟨x, hx⟩ : ∃ x, laidZ u1 Y7 (.slice b1 (mF a b o (j + 1)).ino.length d1) (.slice b2 (mF a b o (j + 1)).opn.length d2) (.slice b3 (mF a b o (j + 1)).made.length d3) = x := ⟨_, rfl⟩
      have C7 : Hid (_) := blockZ B7.out (.slice b1 (mF a b o (j + 1)).ino.length d1) (.slice b2 (mF a b o (j + 1)).opn.length d2) (.slice b3 (mF a b o (j + 1)).made.length d3)
      have C8 : Hid (_) := (otherZ (w := u1) (R := Y7) (a := .slice b1 (mF a b o (j + 1)).ino.length d1) (b := .slice b2 (mF a b o (j + 1)).opn.length d2) (c := .slice b3 (mF a b o (j + 1)).made.length d3) N78.out.symm).trans B8.out
      have Kx : Hid (_) := keptZ HK.out L7.out (.slice b1 (mF a b o (j + 1)).ino.length d1) (.slice b2 (mF a b o (j + 1)).opn.length d2) (.slice b3 (mF a b o (j + 1)).made.length d3)
      have Ox : Hid (_) := O.out.1.keep (kept3Z u1 Y7 (.slice b1 (mF a b o (j + 1)).ino.length d1) (.slice b2 (mF a b o (j + 1)).opn.length d2) (.slice b3 (mF a b o (j + 1)).made.length d3)) O.out.2.1
      rw [hx] at C7 C8 Kx Ox
      unfold Go.Proofs.YtffncojcnbhblaaGreatDoor.laidZ at hx
      rw [hx] at hHeld ⊢
      clear hx g0 g1 g2 s0 s1 s2
      obtain ⟨g0, g1, g2, g3, g4, g5, s0, s1, s2, s3, s4, s5⟩ := rs6 C8.out
      refine wpAnyH_ready (rs := [12]) (by kernel_rfl) (by simp) ?_
      refine AllReadyH.cons rfl (fun K hK => ?_) AllReadyH.nil
      go_simp
      refine hK.out _ _ ?_ (fun hHeld => ?_)
      · exact sF_off hHeld (otherY N8.out.1) (otherY N8.out.2)
      clear hK K
      try simp only [Act.put, lz0, lz1, lz2, lz3, lz4, lz5]
      obtain ⟨y, hy⟩ : ∃ y, laidY x Y8 (.int .i64 (aF a b o j).code) (.int .i64 (aF a b o j).fd) (.int .i64 (aF a b o j).num) (.bool (aF a b o j).dir) (.string (aF a b o j).data) (.slice z l k) = y := ⟨_, rfl⟩
      have D7 : Hid (_) := (otherY (w := x) (R := Y8) (a := .int .i64 (aF a b o j).code) (b := .int .i64 (aF a b o j).fd) (c := .int .i64 (aF a b o j).num) (d := .bool (aF a b o j).dir) (e := .string (aF a b o j).data) (f := .slice z l k) N78.out).trans C7.out
      have D8 : Hid (_) := blockY C8.out (.int .i64 (aF a b o j).code) (.int .i64 (aF a b o j).fd) (.int .i64 (aF a b o j).num) (.bool (aF a b o j).dir) (.string (aF a b o j).data) (.slice z l k)
      have Ky : Hid (_) := keptY Kx.out L8.out (.int .i64 (aF a b o j).code) (.int .i64 (aF a b o j).fd) (.int .i64 (aF a b o j).num) (.bool (aF a b o j).dir) (.string (aF a b o j).data) (.slice z l k)
      have Oy : Hid (_) := Ox.out.keep (kept6Y x Y8 (.int .i64 (aF a b o j).code) (.int .i64 (aF a b o j).fd) (.int .i64 (aF a b o j).num) (.bool (aF a b o j).dir) (.string (aF a b o j).data) (.slice z l k)) O.out.2.2
      rw [hy] at D7 D8 Ky Oy
      unfold Go.Proofs.YtffncojcnbhblaaGreatDoor.laidY at hy
      rw [hy] at hHeld ⊢
      clear hy hHeld g0 g1 g2 g3 g4 g5 s0 s1 s2 s3 s4 s5
      refine wpAnyH_done (by kernel_rfl) ?_ _
      go_wp2_with fail
      go_meet
      case rel => exact ⟨Y7, Y8, b1, b2, b3, d1, d2, d3, eu, z, l, k, rfl, rfl, D7.out, Oy.out, Ky.out, D8.out⟩
    ·
     go_simp
     refine hK.out _ _ ?_ (fun hHeld => ?_)
     · exact sF_kept hHeld ((Kept.refl _ _).alloc _)
     clear hK K
     try simp only [Act.put, lz0, lz1, lz2, lz3, lz4, lz5]
     obtain ⟨ux8, Y8, HY, HKY, B8⟩ := boxY u0 #[.int .i64 0, .int .i64 0, .int .i64 0, .bool false, .string ⟨#[]⟩, .slice none 0 0] 31
     rw [HY.out.1] at hHeld
     rw [HY.out.1, HY.out.2]
     have M8 : Hid (wr.heap.size ≤ Y8) := by have h1 := HK.out.size; have h2 := HY.out.2; show _ ≤ _; omega
     have HK2 : Hid (_) := HK.out.trans HKY.out (by simp)
     clear HK HY HKY 
     have HK : Hid (_) := HK2.out
     clear HK2
     refine wpAnyH_ready (rs := [5, 9]) (by kernel_rfl) (by simp) ?_
     refine AllReadyH.cons rfl (fun K hK => ?_) (AllReadyH.cons rfl (fun K hK => ?_) AllReadyH.nil)
     ·
      go_simp
      refine (HDc.out _ HK.out).mono ?_
      rintro e u1 ⟨v1, v2, v3, eu, z, l, k, rfl, o5, k5⟩
      obtain ⟨b1, d1, hv1, -⟩ := row_form o5.ino
      obtain ⟨b2, d2, hv2, -⟩ := row_form o5.opn
      obtain ⟨b3, d3, hv3, -⟩ := row_form o5.mad
      subst hv1 hv2 hv3
      have z5 := sF_kept hHeld k5
      go_wp2_with fail
      refine hK.out _ _ ?_ (fun hHeld => ?_)
      · exact z5
      clear hK K z5
      try simp only [Act.put, lz0, lz1, lz2, lz3, lz4, lz5]
      have HK2 : Hid (Kept [] wr u1) := HK.out.trans k5 (by simp)
      have B8x : Hid (_) := (k5.block _ (lt_of_heap B8.out) (by simp)).trans B8.out
      have O5 : Hid (Os u1 wr.heap.size (.slice b1 (mF a b o (j + 1)).ino.length d1) (.slice b2 (mF a b o (j + 1)).opn.length d2) (.slice b3 (mF a b o (j + 1)).made.length d3) eu (mF a b o (j + 1))) := o5.less HK.out.size
      clear o5 k5 HK B8
      refine tkA 6 rfl ?_
      refine tkA 7 rfl ?_
      refine tkA 8 rfl ?_
      have HK : Hid (_) := HK2.out
      clear HK2
      have B8 : Hid (_) := B8x.out
      clear B8x
      refine wpAnyH_ready (rs := [9]) (by kernel_rfl) (by simp) ?_
      refine AllReadyH.cons rfl (fun K hK => ?_) AllReadyH.nil
      go_simp
      refine hK.out _ _ ?_ (fun hHeld => ?_)
      · exact sF_kept hHeld ((Kept.refl _ _).alloc _)
      clear hK K
      try simp only [Act.put, lz0, lz1, lz2, lz3, lz4, lz5]
      obtain ⟨ux857, Y7, HY, HKY, B7⟩ := boxY u1 #[.slice none 0 0, .slice none 0 0, .slice none 0 0] 27
      rw [HY.out.1] at hHeld
      rw [HY.out.1, HY.out.2]
      have M7 : Hid (wr.heap.size ≤ Y7) := by have h1 := HK.out.size; have h2 := HY.out.2; show _ ≤ _; omega
      have HK2 : Hid (_) := HK.out.trans HKY.out (by simp)
      have B8x : Hid (_) := (HKY.out.block _ (lt_of_heap B8.out) (by simp)).trans B8.out
      have O5x : Hid (_) := O5.out.kept HKY.out
      clear HK HY HKY B8 O5
      have HK : Hid (_) := HK2.out
      clear HK2
      have B8 : Hid (_) := B8x.out
      clear B8x
      have O5 : Hid (_) := O5x.out
      clear O5x
      have O : Hid (Os ux857 wr.heap.size (.slice b1 (mF a b o (j + 1)).ino.length d1) (.slice b2 (mF a b o (j + 1)).opn.length d2) (.slice b3 (mF a b o (j + 1)).made.length d3) eu (mF a b o (j + 1)) ∧ Off [Y7] (.slice b1 (mF a b o (j + 1)).ino.length d1) (.slice b2 (mF a b o (j + 1)).opn.length d2) (.slice b3 (mF a b o (j + 1)).made.length d3) eu ∧ Off [Y8] (.slice b1 (mF a b o (j + 1)).ino.length d1) (.slice b2 (mF a b o (j + 1)).opn.length d2) (.slice b3 (mF a b o (j + 1)).made.length d3) eu) := ⟨O5.out, off_type O5.out B7.out (by decide), off_type O5.out B8.out (by decide)⟩
      have N78 : Hid (Y7 ≠ Y8) := fun e => by have h1 := B7.out; rw [e, B8.out] at h1; simp at h1
      have L7 : Hid (wr.heap.size ≤ Y7) := M7.out
      have L8 : Hid (wr.heap.size ≤ Y8) := M8.out
      have N7 : Hid (X ≠ Y7 ∧ R ≠ Y7) := by have h1 := lt_of_heap HJ.out.2.1; have h3 := lt_of_heap HJ.out.1.box; have h2 := L7.out; exact ⟨by omega, by omega⟩
      have N8 : Hid (X ≠ Y8 ∧ R ≠ Y8) := by have h1 := lt_of_heap HJ.out.2.1; have h3 := lt_of_heap HJ.out.1.box; have h2 := L8.out; exact ⟨by omega, by omega⟩
      obtain ⟨g0, g1, g2, s0, s1, s2⟩ := zs3 B7.out
      refine wpAnyH_ready (rs := [11]) (by kernel_rfl) (by simp) ?_
      refine AllReadyH.cons rfl (fun K hK => ?_) AllReadyH.nil
      go_simp
      refine hK.out _ _ ?_ (fun hHeld => ?_)
      · exact sF_off hHeld (otherZ N7.out.1) (otherZ N7.out.2)
      clear hK K
      try simp only [Act.put, lz0, lz1, lz2, lz3, lz4, lz5]
      obtain ⟨x, hx⟩ : ∃ x, laidZ ux857 Y7 (.slice b1 (mF a b o (j + 1)).ino.length d1) (.slice b2 (mF a b o (j + 1)).opn.length d2) (.slice b3 (mF a b o (j + 1)).made.length d3) = x := ⟨_, rfl⟩
      have C7 : Hid (_) := blockZ B7.out (.slice b1 (mF a b o (j + 1)).ino.length d1) (.slice b2 (mF a b o (j + 1)).opn.length d2) (.slice b3 (mF a b o (j + 1)).made.length d3)
      have C8 : Hid (_) := (otherZ (w := ux857) (R := Y7) (a := .slice b1 (mF a b o (j + 1)).ino.length d1) (b := .slice b2 (mF a b o (j + 1)).opn.length d2) (c := .slice b3 (mF a b o (j + 1)).made.length d3) N78.out.symm).trans B8.out
      have Kx : Hid (_) := keptZ HK.out L7.out (.slice b1 (mF a b o (j + 1)).ino.length d1) (.slice b2 (mF a b o (j + 1)).opn.length d2) (.slice b3 (mF a b o (j + 1)).made.length d3)
      have Ox : Hid (_) := O.out.1.keep (kept3Z ux857 Y7 (.slice b1 (mF a b o (j + 1)).ino.length d1) (.slice b2 (mF a b o (j + 1)).opn.length d2) (.slice b3 (mF a b o (j + 1)).made.length d3)) O.out.2.1
      rw [hx] at C7 C8 Kx Ox
      unfold Go.Proofs.YtffncojcnbhblaaGreatDoor.laidZ at hx
      rw [hx] at hHeld ⊢
      clear hx g0 g1 g2 s0 s1 s2
      obtain ⟨g0, g1, g2, g3, g4, g5, s0, s1, s2, s3, s4, s5⟩ := rs6 C8.out
      refine wpAnyH_ready (rs := [12]) (by kernel_rfl) (by simp) ?_
      refine AllReadyH.cons rfl (fun K hK => ?_) AllReadyH.nil
      go_simp
      refine hK.out _ _ ?_ (fun hHeld => ?_)
      · exact sF_off hHeld (otherY N8.out.1) (otherY N8.out.2)
      clear hK K
      try simp only [Act.put, lz0, lz1, lz2, lz3, lz4, lz5]
      obtain ⟨y, hy⟩ : ∃ y, laidY x Y8 (.int .i64 (aF a b o j).code) (.int .i64 (aF a b o j).fd) (.int .i64 (aF a b o j).num) (.bool (aF a b o j).dir) (.string (aF a b o j).data) (.slice z l k) = y := ⟨_, rfl⟩
      have D7 : Hid (_) := (otherY (w := x) (R := Y8) (a := .int .i64 (aF a b o j).code) (b := .int .i64 (aF a b o j).fd) (c := .int .i64 (aF a b o j).num) (d := .bool (aF a b o j).dir) (e := .string (aF a b o j).data) (f := .slice z l k) N78.out).trans C7.out
      have D8 : Hid (_) := blockY C8.out (.int .i64 (aF a b o j).code) (.int .i64 (aF a b o j).fd) (.int .i64 (aF a b o j).num) (.bool (aF a b o j).dir) (.string (aF a b o j).data) (.slice z l k)
      have Ky : Hid (_) := keptY Kx.out L8.out (.int .i64 (aF a b o j).code) (.int .i64 (aF a b o j).fd) (.int .i64 (aF a b o j).num) (.bool (aF a b o j).dir) (.string (aF a b o j).data) (.slice z l k)
      have Oy : Hid (_) := Ox.out.keep (kept6Y x Y8 (.int .i64 (aF a b o j).code) (.int .i64 (aF a b o j).fd) (.int .i64 (aF a b o j).num) (.bool (aF a b o j).dir) (.string (aF a b o j).data) (.slice z l k)) O.out.2.2
      rw [hy] at D7 D8 Ky Oy
      unfold Go.Proofs.YtffncojcnbhblaaGreatDoor.laidY at hy
      rw [hy] at hHeld ⊢
      clear hy hHeld g0 g1 g2 g3 g4 g5 s0 s1 s2 s3 s4 s5
      refine wpAnyH_done (by kernel_rfl) ?_ _
      go_wp2_with fail
      go_meet
      case rel => exact ⟨Y7, Y8, b1, b2, b3, d1, d2, d3, eu, z, l, k, rfl, rfl, D7.out, Oy.out, Ky.out, D8.out⟩
     ·
      go_simp
      refine hK.out _ _ ?_ (fun hHeld => ?_)
      · exact sF_kept hHeld ((Kept.refl _ _).alloc _)
      clear hK K
      try simp only [Act.put, lz0, lz1, lz2, lz3, lz4, lz5]
      obtain ⟨ux87, Y7, HY, HKY, B7⟩ := boxY ux8 #[.slice none 0 0, .slice none 0 0, .slice none 0 0] 27
      rw [HY.out.1] at hHeld
      rw [HY.out.1, HY.out.2]
      have M7 : Hid (wr.heap.size ≤ Y7) := by have h1 := HK.out.size; have h2 := HY.out.2; show _ ≤ _; omega
      have HK2 : Hid (_) := HK.out.trans HKY.out (by simp)
      have B8x : Hid (_) := (HKY.out.block _ (lt_of_heap B8.out) (by simp)).trans B8.out
      clear HK HY HKY B8
      have HK : Hid (_) := HK2.out
      clear HK2
      have B8 : Hid (_) := B8x.out
      clear B8x
      refine wpAnyH_ready (rs := [5]) (by kernel_rfl) (by simp) ?_
      refine AllReadyH.cons rfl (fun K hK => ?_) AllReadyH.nil
      go_simp
      refine (HDc.out _ HK.out).mono ?_
      rintro e u1 ⟨v1, v2, v3, eu, z, l, k, rfl, o5, k5⟩
      obtain ⟨b1, d1, hv1, -⟩ := row_form o5.ino
      obtain ⟨b2, d2, hv2, -⟩ := row_form o5.opn
      obtain ⟨b3, d3, hv3, -⟩ := row_form o5.mad
      subst hv1 hv2 hv3
      have z5 := sF_kept hHeld k5
      go_wp2_with fail
      refine hK.out _ _ ?_ (fun hHeld => ?_)
      · exact z5
      clear hK K z5
      try simp only [Act.put, lz0, lz1, lz2, lz3, lz4, lz5]
      have HK2 : Hid (Kept [] wr u1) := HK.out.trans k5 (by simp)
      have B7x : Hid (_) := (k5.block _ (lt_of_heap B7.out) (by simp)).trans B7.out
      have B8x : Hid (_) := (k5.block _ (lt_of_heap B8.out) (by simp)).trans B8.out
      have O5 : Hid (Os u1 wr.heap.size (.slice b1 (mF a b o (j + 1)).ino.length d1) (.slice b2 (mF a b o (j + 1)).opn.length d2) (.slice b3 (mF a b o (j + 1)).made.length d3) eu (mF a b o (j + 1))) := o5.less HK.out.size
      clear o5 k5 HK B7 B8
      refine tkA 6 rfl ?_
      refine tkA 7 rfl ?_
      refine tkA 8 rfl ?_
      have HK : Hid (_) := HK2.out
      clear HK2
      have B7 : Hid (_) := B7x.out
      clear B7x
      have B8 : Hid (_) := B8x.out
      clear B8x
      have O : Hid (Os u1 wr.heap.size (.slice b1 (mF a b o (j + 1)).ino.length d1) (.slice b2 (mF a b o (j + 1)).opn.length d2) (.slice b3 (mF a b o (j + 1)).made.length d3) eu (mF a b o (j + 1)) ∧ Off [Y7] (.slice b1 (mF a b o (j + 1)).ino.length d1) (.slice b2 (mF a b o (j + 1)).opn.length d2) (.slice b3 (mF a b o (j + 1)).made.length d3) eu ∧ Off [Y8] (.slice b1 (mF a b o (j + 1)).ino.length d1) (.slice b2 (mF a b o (j + 1)).opn.length d2) (.slice b3 (mF a b o (j + 1)).made.length d3) eu) := ⟨O5.out, off_type O5.out B7.out (by decide), off_type O5.out B8.out (by decide)⟩
      have N78 : Hid (Y7 ≠ Y8) := fun e => by have h1 := B7.out; rw [e, B8.out] at h1; simp at h1
      have L7 : Hid (wr.heap.size ≤ Y7) := M7.out
      have L8 : Hid (wr.heap.size ≤ Y8) := M8.out
      have N7 : Hid (X ≠ Y7 ∧ R ≠ Y7) := by have h1 := lt_of_heap HJ.out.2.1; have h3 := lt_of_heap HJ.out.1.box; have h2 := L7.out; exact ⟨by omega, by omega⟩
      have N8 : Hid (X ≠ Y8 ∧ R ≠ Y8) := by have h1 := lt_of_heap HJ.out.2.1; have h3 := lt_of_heap HJ.out.1.box; have h2 := L8.out; exact ⟨by omega, by omega⟩
      obtain ⟨g0, g1, g2, s0, s1, s2⟩ := zs3 B7.out
      refine wpAnyH_ready (rs := [11]) (by kernel_rfl) (by simp) ?_
      refine AllReadyH.cons rfl (fun K hK => ?_) AllReadyH.nil
      go_simp
      refine hK.out _ _ ?_ (fun hHeld => ?_)
      · exact sF_off hHeld (otherZ N7.out.1) (otherZ N7.out.2)
      clear hK K
      try simp only [Act.put, lz0, lz1, lz2, lz3, lz4, lz5]
      obtain ⟨x, hx⟩ : ∃ x, laidZ u1 Y7 (.slice b1 (mF a b o (j + 1)).ino.length d1) (.slice b2 (mF a b o (j + 1)).opn.length d2) (.slice b3 (mF a b o (j + 1)).made.length d3) = x := ⟨_, rfl⟩
      have C7 : Hid (_) := blockZ B7.out (.slice b1 (mF a b o (j + 1)).ino.length d1) (.slice b2 (mF a b o (j + 1)).opn.length d2) (.slice b3 (mF a b o (j + 1)).made.length d3)
      have C8 : Hid (_) := (otherZ (w := u1) (R := Y7) (a := .slice b1 (mF a b o (j + 1)).ino.length d1) (b := .slice b2 (mF a b o (j + 1)).opn.length d2) (c := .slice b3 (mF a b o (j + 1)).made.length d3) N78.out.symm).trans B8.out
      have Kx : Hid (_) := keptZ HK.out L7.out (.slice b1 (mF a b o (j + 1)).ino.length d1) (.slice b2 (mF a b o (j + 1)).opn.length d2) (.slice b3 (mF a b o (j + 1)).made.length d3)
      have Ox : Hid (_) := O.out.1.keep (kept3Z u1 Y7 (.slice b1 (mF a b o (j + 1)).ino.length d1) (.slice b2 (mF a b o (j + 1)).opn.length d2) (.slice b3 (mF a b o (j + 1)).made.length d3)) O.out.2.1
      rw [hx] at C7 C8 Kx Ox
      unfold Go.Proofs.YtffncojcnbhblaaGreatDoor.laidZ at hx
      rw [hx] at hHeld ⊢
      clear hx g0 g1 g2 s0 s1 s2
      obtain ⟨g0, g1, g2, g3, g4, g5, s0, s1, s2, s3, s4, s5⟩ := rs6 C8.out
      refine wpAnyH_ready (rs := [12]) (by kernel_rfl) (by simp) ?_
      refine AllReadyH.cons rfl (fun K hK => ?_) AllReadyH.nil
      go_simp
      refine hK.out _ _ ?_ (fun hHeld => ?_)
      · exact sF_off hHeld (otherY N8.out.1) (otherY N8.out.2)
      clear hK K
      try simp only [Act.put, lz0, lz1, lz2, lz3, lz4, lz5]
      obtain ⟨y, hy⟩ : ∃ y, laidY x Y8 (.int .i64 (aF a b o j).code) (.int .i64 (aF a b o j).fd) (.int .i64 (aF a b o j).num) (.bool (aF a b o j).dir) (.string (aF a b o j).data) (.slice z l k) = y := ⟨_, rfl⟩
      have D7 : Hid (_) := (otherY (w := x) (R := Y8) (a := .int .i64 (aF a b o j).code) (b := .int .i64 (aF a b o j).fd) (c := .int .i64 (aF a b o j).num) (d := .bool (aF a b o j).dir) (e := .string (aF a b o j).data) (f := .slice z l k) N78.out).trans C7.out
      have D8 : Hid (_) := blockY C8.out (.int .i64 (aF a b o j).code) (.int .i64 (aF a b o j).fd) (.int .i64 (aF a b o j).num) (.bool (aF a b o j).dir) (.string (aF a b o j).data) (.slice z l k)
      have Ky : Hid (_) := keptY Kx.out L8.out (.int .i64 (aF a b o j).code) (.int .i64 (aF a b o j).fd) (.int .i64 (aF a b o j).num) (.bool (aF a b o j).dir) (.string (aF a b o j).data) (.slice z l k)
      have Oy : Hid (_) := Ox.out.keep (kept6Y x Y8 (.int .i64 (aF a b o j).code) (.int .i64 (aF a b o j).fd) (.int .i64 (aF a b o j).num) (.bool (aF a b o j).dir) (.string (aF a b o j).data) (.slice z l k)) O.out.2.2
      rw [hy] at D7 D8 Ky Oy
      unfold Go.Proofs.YtffncojcnbhblaaGreatDoor.laidY at hy
      rw [hy] at hHeld ⊢
      clear hy hHeld g0 g1 g2 g3 g4 g5 s0 s1 s2 s3 s4 s5
      refine wpAnyH_done (by kernel_rfl) ?_ _
      go_wp2_with fail
      go_meet
      case rel => exact ⟨Y7, Y8, b1, b2, b3, d1, d2, d3, eu, z, l, k, rfl, rfl, D7.out, Oy.out, Ky.out, D8.out⟩
   case rest =>
    obtain ⟨Y, Y8, b1, b2, b3, d1, d2, d3, eu, z, l, k, rfl, rfl, HE⟩ := hcut
    have HC : Hid (_) := HJ.out.1.kept HE.out.2.2.1
    clear HS HDc
    by_cases hcode : (aF a b o j).code = 0
    ·
     have HC2 : Hid (_) := HC.out.putZ (HE.out.2.1.less HJ.out.1.k.size)
     have HNX : Hid (R ≠ X) := fun e => by have h1 := HJ.out.2.1; rw [e, HJ.out.1.box] at h1; simp at h1
     have HM2 : Hid (_) := (otherZ (w := wc) (R := X) (Z := R) (a := .slice b1 (mF a b o (j + 1)).ino.length d1) (b := .slice b2 (mF a b o (j + 1)).opn.length d2) (c := .slice b3 (mF a b o (j + 1)).made.length d3) HNX.out).trans ((HE.out.2.2.1.block _ (lt_of_heap HJ.out.2.1) (by simp)).trans HJ.out.2.1)
     have r0 : wc.cell? ⟨Y8, 0, none⟩ = some (.int .i64 0) := by rw [cellB HE.out.2.2.2, ← hcode]; rfl
     have HCo : Hid (∀ i, i < j + 1 → (aF a b o i).code = 0) := fun i hi => by
      by_cases e : i = j
      · subst e; exact hcode
      · exact HJ.out.2.2 i (by omega)
     clear hcode
     obtain ⟨x0, x1, x2, -⟩ := zs3 HE.out.1
     obtain ⟨y0, y1, y2, z0, z1, z2⟩ := zs3 HC.out.box
     obtain ⟨W5, hW5⟩ : ∃ W5, laidZ wc X (.slice b1 (mF a b o (j + 1)).ino.length d1) (.slice b2 (mF a b o (j + 1)).opn.length d2) (.slice b3 (mF a b o (j + 1)).made.length d3) = W5 := ⟨_, rfl⟩
     rw [hW5] at HC2 HM2
     have hj1 : ((j + 1 : Nat) : Int) = (j : Int) + 1 := by omega
     unfold Go.Proofs.YtffncojcnbhblaaGreatDoor.laidZ at hW5
     have HW5 : Hid (_) := hW5
     clear hW5
     go_upto_region 7 with fail
     rw [HW5.out]
     clear x0 x1 x2 y0 y1 y2 z0 z1 z2 HW5 r0
     go_wp2_with fail
     go_roundw
     case rel => exact ⟨j + 1, _, _, _, _, by rw [hj1], by omega, HC2.out, HM2.out, HCo.out⟩
     case measure => simp [intOf]; omega
    ·
     have HEr : Hid (200 < a.size ∨ 200 < b.size) := f_err HSz.out.2.2 hlt hcode
     obtain ⟨cd, hcd⟩ : ∃ cd, (aF a b o j).code = cd := ⟨_, rfl⟩
     have r0 : wc.cell? ⟨Y8, 0, none⟩ = some (.int .i64 cd) := by rw [cellB HE.out.2.2.2, ← hcd]; rfl
     rw [hcd] at hcode
     have q0 : (cd == 0) = false := beq_eq_false_iff_ne.2 hcode
     have q1 : (cd != 0) = true := bne_iff_ne.2 hcode
     have HKe : Hid (Kept [] w wc) := HC.out.k
     clear hcd
     by_cases h2 : 200 < a.size
     ·
      have d0 : (200 : Int) < (a.size : Int) := by omega
      have d1 : decide ((200 : Int) < (a.size : Int)) = true := decide_eq_true d0
      go_wp2_with fail
      go_ret
      exact ⟨rfl, HKe.out⟩
     ·
      have d0 : ¬ (200 : Int) < (a.size : Int) := by omega
      have d1 : decide ((200 : Int) < (a.size : Int)) = false := decide_eq_false d0
      have h3 : 200 < b.size := by have := HEr.out; omega
      have e0 : (200 : Int) < (b.size : Int) := by omega
      have e1 : decide ((200 : Int) < (b.size : Int)) = true := decide_eq_true e0
      go_wp2_with fail
      go_ret
      exact ⟨rfl, HKe.out⟩
  ·
   have hj3 : j = 3 := by omega
   subst hj3
   have HFt : Hid (o + a.size ≤ 256 ∧ b.size ≤ 256) := ⟨wA_fits (HJ.out.2.2 1 (by omega)), by have := wA_fits (HJ.out.2.2 2 (by omega)); show _ ≤ _; omega⟩
   have hD := fD_size (X := ⟨#[]⟩) (d := a) (o := o) z0
   have hE := fD_size (X := ⟨#[48, 49, 50, 51, 52, 53, 54, 55, 56, 57]⟩) (d := b) (o := 0) z10
   have HB3 : Hid (Bd (mF a b o 3)) := gf_bd hD hE
   have HD1 : Hid (DoL (mF a b o 3) ⟨4, 0, 1, (o : Int), (a.size : Int), ⟨#[]⟩, ⟨#[]⟩, ⟨#[]⟩⟩) := dl4 (gf_may hD hE) (Int.le_refl _) (gf_made _ _) rfl
   have HD2 : Hid (DoL (mF a b o 3) ⟨4, 0, 0, 0, (b.size : Int), ⟨#[]⟩, ⟨#[]⟩, ⟨#[]⟩⟩) := dl4 (gf_may hD hE) (Int.le_refl _) (gf_made _ _) rfl
   have HP1 : Hid (playR (mF a b o 3) ⟨4, 0, 1, (o : Int), (a.size : Int), ⟨#[]⟩, ⟨#[]⟩, ⟨#[]⟩⟩ headI = (mF a b o 3, ⟨0, 0, 0, false, a, []⟩)) := by
    have h := f_r1 hD hE (o := o) (n := a.size) HSz.out.2.2 (by have := HFt.out; omega)
    rw [wr_back HFt.out.1] at h
    exact h
   have HP2 : Hid (playR (mF a b o 3) ⟨4, 0, 0, 0, (b.size : Int), ⟨#[]⟩, ⟨#[]⟩, ⟨#[]⟩⟩ headI = (mF a b o 3, ⟨0, 0, 0, false, b, []⟩)) := by
    have h := f_r2 hD hE (o := 0) (n := b.size) (by omega) HFt.out.2
    rw [wr_back (o := 0) (by have := HFt.out; omega)] at h
    exact h
   have HLn : Hid (((linksR (mF a b o 3).ino 2 : Nat) : Int) = 1) := by show _ = _; rw [show linksR (mF a b o 3).ino 2 = 1 from gf_links _ _]; rfl
   have hl3 : (mF a b o 3).ino.length ≤ 60000 := by show 5 ≤ 60000; decide
   have HJ1 : Hid (_) := HJ.out.1
   clear hD hE HJ
   obtain ⟨x0, x1, x2, -⟩ := zs3 HJ1.out.box
   go_wp2_with fail
   refine (l_DoK HJ1.out.os HB3.out (hT.out.kept HJ1.out.k) ⟨4, 0, 1, (o : Int), (a.size : Int), ⟨#[]⟩, ⟨#[]⟩, ⟨#[]⟩⟩ HD1.out HP1.out).mono ?_
   rintro e U1 ⟨p1, p2, p3, eu, z, l, kk, rfl, ho1, -, -, k1, -⟩
   dsimp only at ho1 ⊢
   obtain ⟨a1', c1', a2', c2', a3', c3', rfl, rfl, rfl⟩ := formsL ho1 _ _ _ rfl rfl rfl
   obtain ⟨V1, T1, HX1, HXk1, HXb1⟩ := boxes2 U1 #[.slice a1' (mF a b o 3).ino.length c1', .slice a2' (mF a b o 3).opn.length c2', .slice a3' (mF a b o 3).made.length c3'] #[.int .i64 0, .int .i64 0, .int .i64 0, .bool false, .string a, .slice z l kk] 27 31
   have HJ2 : Hid (_) := (HJ1.out.kept k1).kept HXk1.out
   have HT1 : Hid (_) := HXb1.out.2.1
   clear x0 x1 x2
   go_upto_region 13 with fail
   rw [HX1.out.1, HX1.out.2]
   clear ho1 k1 HX1 HXk1 HXb1 HJ1
   obtain ⟨x0, x1, x2, -⟩ := zs3 HJ2.out.box
   go_wp2_with fail
   refine (l_DoK HJ2.out.os HB3.out (hT.out.kept HJ2.out.k) ⟨4, 0, 0, 0, (b.size : Int), ⟨#[]⟩, ⟨#[]⟩, ⟨#[]⟩⟩ HD2.out HP2.out).mono ?_
   rintro e U2 ⟨p1, p2, p3, eu, z, l, kk, rfl, ho2, -, -, k2, -⟩
   dsimp only at ho2 ⊢
   obtain ⟨a1', c1', a2', c2', a3', c3', rfl, rfl, rfl⟩ := formsL ho2 _ _ _ rfl rfl rfl
   obtain ⟨V2, T2, HX2, HXk2, HXb2⟩ := boxes2 U2 #[.slice a1' (mF a b o 3).ino.length c1', .slice a2' (mF a b o 3).opn.length c2', .slice a3' (mF a b o 3).made.length c3'] #[.int .i64 0, .int .i64 0, .int .i64 0, .bool false, .string b, .slice z l kk] 27 31
   have HJ3 : Hid (_) := (HJ2.out.kept k2).kept HXk2.out
   have HT2 : Hid (_) := HXb2.out.2.1
   have HT3 : Hid (_) := kb HXk2.out (kb k2 HT1.out)
   clear x0 x1 x2
   go_upto_region 14 with fail
   rw [HX2.out.1, HX2.out.2]
   clear ho2 k2 HX2 HXk2 HXb2 HJ2 HT1
   obtain ⟨x0, x1, x2, -⟩ := zs3 HJ3.out.box
   obtain ⟨-, -, -, -, t4, -⟩ := rs6 HT3.out
   obtain ⟨-, -, -, -, s4, -⟩ := rs6 HT2.out
   go_wp2_with fail
   refine (l_links HJ3.out.os HB3.out 2 hl3).mono ?_
   rintro e U3 ⟨rfl, k3⟩
   rw [HLn.out]
   have HK3 : Hid (Kept [] w U3) := HJ3.out.k.trans k3 (by simp)
   clear k3
   go_wp2_with fail
   go_ret
   exact ⟨rfl, HK3.out⟩
theorem files_any {w : World} (hT : Tab w) (a b : ByteArray) (x : Int) (ha : a.size ≤ 140737488351232) (hb : b.size ≤ 140737488351232) :
  Calls Tryz.prog 6 #[.string a, .string b, .int .i64 x] w fun e w' => e = .returned (.bool true) ∧ Kept [] w w' :=
 files_w hT (o := (x % 16).toNat) (by rw [i64_and15]; omega) (by omega) ha hb
end Go.Proofs.YtffncojcnbhblaaGreatDoor
