/-
  Joined of my texts Mj.
-/
import Derived.Test.YtffncojcnbhblaaGreatDoorJd41
import Derived.Test.YtffncojcnbhblaaGreatDoorTk
set_option linter.unusedVariables false
set_option linter.unusedSimpArgs false
set_option maxRecDepth 100000
set_option maxHeartbeats 8000000
namespace Go.Proofs.YtffncojcnbhblaaGreatDoor
open List renaming setIfInBounds_toArray → lz0, set_cons_zero → lz1, set_cons_succ → lz2, getElem_toArray → lz3, getElem_cons_zero → lz4, getElem_cons_succ → lz5
open Go.RowKit
def calM : Nat → Cal
 | 0 => ⟨1, 0, 0, 0, 0, ⟨#[47, 100]⟩, ⟨#[]⟩, ⟨#[]⟩⟩
 | 1 => ⟨1, 0, 0, 0, 0, ⟨#[47, 101]⟩, ⟨#[]⟩, ⟨#[]⟩⟩
 | 2 => ⟨0, 0, 0, 0, 0, ⟨#[47, 102]⟩, ⟨#[]⟩, ⟨#[]⟩⟩
 | 3 => ⟨8, 0, 0, 0, 0, ⟨#[47, 102]⟩, ⟨#[47, 103]⟩, ⟨#[]⟩⟩
 | 4 => ⟨0, 0, 0, 0, 0, ⟨#[47, 100, 47, 104]⟩, ⟨#[]⟩, ⟨#[]⟩⟩
 | 5 => ⟨2, 0, 0, 0, 0, ⟨#[47, 102]⟩, ⟨#[]⟩, ⟨#[]⟩⟩
 | _ => ⟨5, 0, 0, 0, 0, ⟨#[]⟩, ⟨#[]⟩, ⟨#[48, 49, 50, 51, 52, 53, 54, 55, 56, 57]⟩⟩
def rowM : Array Value := #[.int .i64 1, .int .i64 0, .int .i64 0, .int .i64 0, .int .i64 0, .string ⟨#[47, 100]⟩, .string ⟨#[]⟩, .string ⟨#[]⟩, .int .i64 1, .int .i64 0, .int .i64 0, .int .i64 0, .int .i64 0, .string ⟨#[47, 101]⟩, .string ⟨#[]⟩, .string ⟨#[]⟩, .int .i64 0, .int .i64 0, .int .i64 0, .int .i64 0, .int .i64 0, .string ⟨#[47, 102]⟩, .string ⟨#[]⟩, .string ⟨#[]⟩, .int .i64 8, .int .i64 0, .int .i64 0, .int .i64 0, .int .i64 0, .string ⟨#[47, 102]⟩, .string ⟨#[47, 103]⟩, .string ⟨#[]⟩, .int .i64 0, .int .i64 0, .int .i64 0, .int .i64 0, .int .i64 0, .string ⟨#[47, 100, 47, 104]⟩, .string ⟨#[]⟩, .string ⟨#[]⟩, .int .i64 2, .int .i64 0, .int .i64 0, .int .i64 0, .int .i64 0, .string ⟨#[47, 102]⟩, .string ⟨#[]⟩, .string ⟨#[]⟩, .int .i64 5, .int .i64 0, .int .i64 0, .int .i64 0, .int .i64 0, .string ⟨#[]⟩, .string ⟨#[]⟩, .string ⟨#[48, 49, 50, 51, 52, 53, 54, 55, 56, 57]⟩]
theorem cellsM {w : World} {C j : Nat} (hj : j < 7) (h : w.heap[C]? = some (.cells rowM 35 (0, 0))) : w.cell? ⟨C, j * 8, none⟩ = some (.int .i64 (calM j).kind) ∧ w.cell? ⟨C, j * 8 + 1, none⟩ = some (.int .i64 (calM j).core) ∧ w.cell? ⟨C, j * 8 + 2, none⟩ = some (.int .i64 (calM j).fd) ∧ w.cell? ⟨C, j * 8 + 3, none⟩ = some (.int .i64 (calM j).off) ∧ w.cell? ⟨C, j * 8 + 4, none⟩ = some (.int .i64 (calM j).num) ∧ w.cell? ⟨C, j * 8 + 5, none⟩ = some (.string (calM j).path) ∧ w.cell? ⟨C, j * 8 + 6, none⟩ = some (.string (calM j).path2) ∧ w.cell? ⟨C, j * 8 + 7, none⟩ = some (.string (calM j).data) := by
 have hc : j = 0 ∨ j = 1 ∨ j = 2 ∨ j = 3 ∨ j = 4 ∨ j = 5 ∨ j = 6 := by omega
 rcases hc with rfl | rfl | rfl | rfl | rfl | rfl | rfl <;> exact ⟨cellB h, cellB h, cellB h, cellB h, cellB h, cellB h, cellB h, cellB h⟩
def DoM (c : Cal) (S S' : Sta) : Prop :=
 ∃ m : Int, ∀ (w : World) (p : Pl), Sv w p S → Calls Tryz.prog 21 #[.agg #[.slice p.a1 S.ino.length p.c1, .slice p.a2 S.opn.length p.c2, .slice p.a3 S.made.length p.c3], .agg #[.int .i64 c.kind, .int .i64 c.core, .int .i64 c.fd, .int .i64 c.off, .int .i64 c.num, .string c.path, .string c.path2, .string c.data]] w
  fun e w' => ∃ v1 v2 v3 ev, e = .returned (.tuple #[.agg #[v1, v2, v3], .agg #[.int .i64 0, .int .i64 0, .int .i64 m, .bool false, .string ⟨#[]⟩, .slice none 0 0]]) ∧ Os w' w.heap.size v1 v2 v3 ev S' ∧ Kept [] w w'
theorem kept3Z (w : World) (Z : Nat) (a b c : Value) : Kept [Z] w (laidZ w Z a b c) :=
 (((Kept.refl [Z] w).setCell (Or.inl (by simp)) a).setCell (Or.inl (by simp)) b).setCell (Or.inl (by simp)) c
theorem Hc.putZ {w0 w : World} {X : Nat} {v1 v2 v3 u1 u2 u3 : Value} {ev eu : List Value} {S S' : Sta} (h : Hc w0 w X v1 v2 v3 ev S) (ho : Os w w0.heap.size u1 u2 u3 eu S') : Hc w0 (laidZ w X u1 u2 u3) X u1 u2 u3 eu S' :=
 have hx := off_type ho h.box (by decide)
 ⟨blockZ h.box _ _ _, ho.keep (kept3Z w X u1 u2 u3) hx, hx, h.lo, keptZ h.k h.lo _ _ _⟩
theorem s_kept {w w' : World} {X j : Nat} {a1 a2 a3 : Option Addr} {c1 c2 c3 : Nat} {MS : Nat → Sta} (h : w.cell? ⟨X, 0, none⟩ = some (.slice a1 (MS j).ino.length c1) ∧ w.cell? ⟨X, 1, none⟩ = some (.slice a2 (MS j).opn.length c2) ∧ w.cell? ⟨X, 2, none⟩ = some (.slice a3 (MS j).made.length c3) ∧ w.cell? ⟨X + 1, j * 8, none⟩ = some (.int .i64 (calM j).kind) ∧ w.cell? ⟨X + 1, j * 8 + 1, none⟩ = some (.int .i64 (calM j).core) ∧ w.cell? ⟨X + 1, j * 8 + 2, none⟩ = some (.int .i64 (calM j).fd) ∧ w.cell? ⟨X + 1, j * 8 + 3, none⟩ = some (.int .i64 (calM j).off) ∧ w.cell? ⟨X + 1, j * 8 + 4, none⟩ = some (.int .i64 (calM j).num) ∧ w.cell? ⟨X + 1, j * 8 + 5, none⟩ = some (.string (calM j).path) ∧ w.cell? ⟨X + 1, j * 8 + 6, none⟩ = some (.string (calM j).path2) ∧ w.cell? ⟨X + 1, j * 8 + 7, none⟩ = some (.string (calM j).data)) (k : Kept [] w w') : w'.cell? ⟨X, 0, none⟩ = some (.slice a1 (MS j).ino.length c1) ∧ w'.cell? ⟨X, 1, none⟩ = some (.slice a2 (MS j).opn.length c2) ∧ w'.cell? ⟨X, 2, none⟩ = some (.slice a3 (MS j).made.length c3) ∧ w'.cell? ⟨X + 1, j * 8, none⟩ = some (.int .i64 (calM j).kind) ∧ w'.cell? ⟨X + 1, j * 8 + 1, none⟩ = some (.int .i64 (calM j).core) ∧ w'.cell? ⟨X + 1, j * 8 + 2, none⟩ = some (.int .i64 (calM j).fd) ∧ w'.cell? ⟨X + 1, j * 8 + 3, none⟩ = some (.int .i64 (calM j).off) ∧ w'.cell? ⟨X + 1, j * 8 + 4, none⟩ = some (.int .i64 (calM j).num) ∧ w'.cell? ⟨X + 1, j * 8 + 5, none⟩ = some (.string (calM j).path) ∧ w'.cell? ⟨X + 1, j * 8 + 6, none⟩ = some (.string (calM j).path2) ∧ w'.cell? ⟨X + 1, j * 8 + 7, none⟩ = some (.string (calM j).data) :=
 ⟨k.cell h.1 (by simp), k.cell h.2.1 (by simp), k.cell h.2.2.1 (by simp), k.cell h.2.2.2.1 (by simp), k.cell h.2.2.2.2.1 (by simp), k.cell h.2.2.2.2.2.1 (by simp), k.cell h.2.2.2.2.2.2.1 (by simp), k.cell h.2.2.2.2.2.2.2.1 (by simp), k.cell h.2.2.2.2.2.2.2.2.1 (by simp), k.cell h.2.2.2.2.2.2.2.2.2.1 (by simp), k.cell h.2.2.2.2.2.2.2.2.2.2 (by simp)⟩
theorem s_off {w w' : World} {X j : Nat} {a1 a2 a3 : Option Addr} {c1 c2 c3 : Nat} {MS : Nat → Sta} (h : w.cell? ⟨X, 0, none⟩ = some (.slice a1 (MS j).ino.length c1) ∧ w.cell? ⟨X, 1, none⟩ = some (.slice a2 (MS j).opn.length c2) ∧ w.cell? ⟨X, 2, none⟩ = some (.slice a3 (MS j).made.length c3) ∧ w.cell? ⟨X + 1, j * 8, none⟩ = some (.int .i64 (calM j).kind) ∧ w.cell? ⟨X + 1, j * 8 + 1, none⟩ = some (.int .i64 (calM j).core) ∧ w.cell? ⟨X + 1, j * 8 + 2, none⟩ = some (.int .i64 (calM j).fd) ∧ w.cell? ⟨X + 1, j * 8 + 3, none⟩ = some (.int .i64 (calM j).off) ∧ w.cell? ⟨X + 1, j * 8 + 4, none⟩ = some (.int .i64 (calM j).num) ∧ w.cell? ⟨X + 1, j * 8 + 5, none⟩ = some (.string (calM j).path) ∧ w.cell? ⟨X + 1, j * 8 + 6, none⟩ = some (.string (calM j).path2) ∧ w.cell? ⟨X + 1, j * 8 + 7, none⟩ = some (.string (calM j).data)) (e1 : w'.heap[X]? = w.heap[X]?) (e2 : w'.heap[X + 1]? = w.heap[X + 1]?) : w'.cell? ⟨X, 0, none⟩ = some (.slice a1 (MS j).ino.length c1) ∧ w'.cell? ⟨X, 1, none⟩ = some (.slice a2 (MS j).opn.length c2) ∧ w'.cell? ⟨X, 2, none⟩ = some (.slice a3 (MS j).made.length c3) ∧ w'.cell? ⟨X + 1, j * 8, none⟩ = some (.int .i64 (calM j).kind) ∧ w'.cell? ⟨X + 1, j * 8 + 1, none⟩ = some (.int .i64 (calM j).core) ∧ w'.cell? ⟨X + 1, j * 8 + 2, none⟩ = some (.int .i64 (calM j).fd) ∧ w'.cell? ⟨X + 1, j * 8 + 3, none⟩ = some (.int .i64 (calM j).off) ∧ w'.cell? ⟨X + 1, j * 8 + 4, none⟩ = some (.int .i64 (calM j).num) ∧ w'.cell? ⟨X + 1, j * 8 + 5, none⟩ = some (.string (calM j).path) ∧ w'.cell? ⟨X + 1, j * 8 + 6, none⟩ = some (.string (calM j).path2) ∧ w'.cell? ⟨X + 1, j * 8 + 7, none⟩ = some (.string (calM j).data) :=
 ⟨(World.cell?_of_block (a := ⟨X, 0, none⟩) e1).trans h.1, (World.cell?_of_block (a := ⟨X, 1, none⟩) e1).trans h.2.1, (World.cell?_of_block (a := ⟨X, 2, none⟩) e1).trans h.2.2.1, (World.cell?_of_block (a := ⟨X + 1, j * 8, none⟩) e2).trans h.2.2.2.1, (World.cell?_of_block (a := ⟨X + 1, j * 8 + 1, none⟩) e2).trans h.2.2.2.2.1, (World.cell?_of_block (a := ⟨X + 1, j * 8 + 2, none⟩) e2).trans h.2.2.2.2.2.1, (World.cell?_of_block (a := ⟨X + 1, j * 8 + 3, none⟩) e2).trans h.2.2.2.2.2.2.1, (World.cell?_of_block (a := ⟨X + 1, j * 8 + 4, none⟩) e2).trans h.2.2.2.2.2.2.2.1, (World.cell?_of_block (a := ⟨X + 1, j * 8 + 5, none⟩) e2).trans h.2.2.2.2.2.2.2.2.1, (World.cell?_of_block (a := ⟨X + 1, j * 8 + 6, none⟩) e2).trans h.2.2.2.2.2.2.2.2.2.1, (World.cell?_of_block (a := ⟨X + 1, j * 8 + 7, none⟩) e2).trans h.2.2.2.2.2.2.2.2.2.2⟩
theorem kept6Y (w : World) (Z : Nat) (a b c d e f : Value) : Kept [Z] w (laidY w Z a b c d e f) :=
 ((((((Kept.refl [Z] w).setCell (Or.inl (by simp)) a).setCell (Or.inl (by simp)) b).setCell (Or.inl (by simp)) c).setCell (Or.inl (by simp)) d).setCell (Or.inl (by simp)) e).setCell (Or.inl (by simp)) f
theorem r_made {w : World} (n : Nat) (MS : Nat → Sta) (hnew : ∀ W, Calls Tryz.prog 20 #[.int .i64 (n : Int)] W fun e w' => ∃ u1 u2 u3 eu, e = .returned (.tuple #[.agg #[u1, u2, u3], .int .i64 0]) ∧ Os w' W.heap.size u1 u2 u3 eu (MS 0) ∧ Kept [] W w')
  (hbd : ∀ j, j < 7 → Bd (MS j)) (hdo : ∀ j, j < 7 → DoM (calM j) (MS j) (MS (j + 1))) :
  Calls Tryz.prog 8 #[.int .i64 (n : Int)] w fun e w' => ∃ v1 v2 v3 ev, e = .returned (.agg #[v1, v2, v3]) ∧ Os w' w.heap.size v1 v2 v3 ev (MS 7) ∧ Kept [] w w' := by
 obtain ⟨W1, R, HR, HKR, HRb⟩ := boxY w #[.slice none 0 0, .slice none 0 0, .slice none 0 0] 27
 have HNw : Hid (_) := hnew
 have HBd : Hid (_) := hbd
 have HDo : Hid (_) := hdo
 clear hnew hbd hdo
 go_enter Tryz.func8, Tryz.ntmps8
 go_upto_region 1 with fail
 rw [HR.out.1, HR.out.2]
 go_wp2_with fail
 refine (HNw.out W1).mono ?_
 rintro e w2 ⟨v1, v2, v3, ev, rfl, o2, k2⟩
 obtain ⟨a1, c1, hv1, -⟩ := row_form o2.ino
 obtain ⟨a2, c2, hv2, -⟩ := row_form o2.opn
 obtain ⟨a3, c3, hv3, -⟩ := row_form o2.mad
 subst hv1 hv2 hv3
 obtain ⟨W3, X, HX, HKX, HXb⟩ := twoY w2 #[.slice a1 (MS 0).ino.length c1, .slice a2 (MS 0).opn.length c2, .slice a3 (MS 0).made.length c3] rowM 27 35
 have HC3 : Hid (Hc W1 W3 X (.slice a1 (MS 0).ino.length c1) (.slice a2 (MS 0).opn.length c2) (.slice a3 (MS 0).made.length c3) ev (MS 0)) := by
  have o3 := o2.kept HKX.out
  exact ⟨HXb.out.1, o3, off_type o3 HXb.out.1 (by decide), by have := k2.size; rw [← HX.out.2]; exact this, k2.trans HKX.out (by simp)⟩
 clear o2 k2
 have hM : rowM = #[.int .i64 1, .int .i64 0, .int .i64 0, .int .i64 0, .int .i64 0, .string ⟨#[47, 100]⟩, .string ⟨#[]⟩, .string ⟨#[]⟩, .int .i64 1, .int .i64 0, .int .i64 0, .int .i64 0, .int .i64 0, .string ⟨#[47, 101]⟩, .string ⟨#[]⟩, .string ⟨#[]⟩, .int .i64 0, .int .i64 0, .int .i64 0, .int .i64 0, .int .i64 0, .string ⟨#[47, 102]⟩, .string ⟨#[]⟩, .string ⟨#[]⟩, .int .i64 8, .int .i64 0, .int .i64 0, .int .i64 0, .int .i64 0, .string ⟨#[47, 102]⟩, .string ⟨#[47, 103]⟩, .string ⟨#[]⟩, .int .i64 0, .int .i64 0, .int .i64 0, .int .i64 0, .int .i64 0, .string ⟨#[47, 100, 47, 104]⟩, .string ⟨#[]⟩, .string ⟨#[]⟩, .int .i64 2, .int .i64 0, .int .i64 0, .int .i64 0, .int .i64 0, .string ⟨#[47, 102]⟩, .string ⟨#[]⟩, .string ⟨#[]⟩, .int .i64 5, .int .i64 0, .int .i64 0, .int .i64 0, .int .i64 0, .string ⟨#[]⟩, .string ⟨#[]⟩, .string ⟨#[48, 49, 50, 51, 52, 53, 54, 55, 56, 57]⟩] := rfl
 rw [hM] at HX
 go_upto_region 3 with fail
 rw [HX.out.1, HX.out.2]
 clear HX hM
 go_wp2_with fail
 go_loopw [6] (fun i wr => ∃ (j : Nat) (v1 v2 v3 : Value) (ev : List Value), i = .int .i64 (j : Int) ∧ j ≤ 7 ∧ Hid (Hc W1 wr X v1 v2 v3 ev (MS j) ∧ wr.heap[X + 1]? = some (.cells rowM 35 (0, 0)))) (fun i _ => (7 - intOf i).toNat)
 case atStart => exact ⟨0, _, _, _, _, rfl, by omega, HC3.out, HXb.out.2.1⟩
 case round =>
  obtain ⟨j, v1, v2, v3, ev, rfl, hj, HJ⟩ := hrel
  clear HC3 HXb
  obtain ⟨a1, c1, hv1, -⟩ := row_form HJ.out.1.os.ino
  obtain ⟨a2, c2, hv2, -⟩ := row_form HJ.out.1.os.opn
  obtain ⟨a3, c3, hv3, -⟩ := row_form HJ.out.1.os.mad
  subst hv1 hv2 hv3
  by_cases hlt : j < 7
  ·
   have i0 : (j : Int) < 7 := by omega
   have i1 : (0 : Int) ≤ (j : Int) := by omega
   have HS : Hid (wr.cell? ⟨X, 0, none⟩ = some (.slice a1 (MS j).ino.length c1) ∧ wr.cell? ⟨X, 1, none⟩ = some (.slice a2 (MS j).opn.length c2) ∧ wr.cell? ⟨X, 2, none⟩ = some (.slice a3 (MS j).made.length c3) ∧ wr.cell? ⟨X + 1, j * 8, none⟩ = some (.int .i64 (calM j).kind) ∧ wr.cell? ⟨X + 1, j * 8 + 1, none⟩ = some (.int .i64 (calM j).core) ∧ wr.cell? ⟨X + 1, j * 8 + 2, none⟩ = some (.int .i64 (calM j).fd) ∧ wr.cell? ⟨X + 1, j * 8 + 3, none⟩ = some (.int .i64 (calM j).off) ∧ wr.cell? ⟨X + 1, j * 8 + 4, none⟩ = some (.int .i64 (calM j).num) ∧ wr.cell? ⟨X + 1, j * 8 + 5, none⟩ = some (.string (calM j).path) ∧ wr.cell? ⟨X + 1, j * 8 + 6, none⟩ = some (.string (calM j).path2) ∧ wr.cell? ⟨X + 1, j * 8 + 7, none⟩ = some (.string (calM j).data)) := by
    obtain ⟨y0, y1, y2, y3, y4, y5, y6, y7⟩ := cellsM hlt HJ.out.2
    exact ⟨cellB HJ.out.1.box, cellB HJ.out.1.box, cellB HJ.out.1.box, y0, y1, y2, y3, y4, y5, y6, y7⟩
   have HKw : Hid (Kept [] wr wr) := Kept.refl _ _
   obtain ⟨m, hdo⟩ := HDo.out j hlt
   have HDc : Hid (∀ W, Kept [] wr W → Calls Tryz.prog 21 #[.agg #[.slice a1 (MS j).ino.length c1, .slice a2 (MS j).opn.length c2, .slice a3 (MS j).made.length c3], .agg #[.int .i64 (calM j).kind, .int .i64 (calM j).core, .int .i64 (calM j).fd, .int .i64 (calM j).off, .int .i64 (calM j).num, .string (calM j).path, .string (calM j).path2, .string (calM j).data]] W fun e w' => ∃ v1 v2 v3 ev, e = .returned (.tuple #[.agg #[v1, v2, v3], .agg #[.int .i64 0, .int .i64 0, .int .i64 m, .bool false, .string ⟨#[]⟩, .slice none 0 0]]) ∧ Os w' W.heap.size v1 v2 v3 ev (MS (j + 1)) ∧ Kept [] W w') := fun W kW => by
    obtain ⟨p, e1, e2, e3, hsv, -⟩ := (HJ.out.1.os.kept kW).sv (HBd.out j hlt)
    simp only [Value.slice.injEq, true_and] at e1 e2 e3
    obtain ⟨pa1, pc1, pa2, pc2, pa3, pc3⟩ := p
    dsimp only at e1 e2 e3
    obtain ⟨rfl, rfl⟩ := e1
    obtain ⟨rfl, rfl⟩ := e2
    obtain ⟨rfl, rfl⟩ := e3
    have h9 := hdo W _ hsv
    dsimp only at h9
    exact h9
   clear hdo
   go_upto_region 6 with fail
   go_cut [7, 8] from 22 to 37 (fun v v8 wx => ∃ (Y Y8 : Nat) (b1 b2 b3 : Option Addr) (d1 d2 d3 : Nat) (eu : List Value), v = .pointer (some ⟨Y, 0, none⟩) ∧ v8 = .pointer (some ⟨Y8, 0, none⟩) ∧ Hid (wx.heap[Y]? = some (.cells #[.slice b1 (MS (j + 1)).ino.length d1, .slice b2 (MS (j + 1)).opn.length d2, .slice b3 (MS (j + 1)).made.length d3] 27 (0, 0)) ∧ Os wx wr.heap.size (.slice b1 (MS (j + 1)).ino.length d1) (.slice b2 (MS (j + 1)).opn.length d2) (.slice b3 (MS (j + 1)).made.length d3) eu (MS (j + 1)) ∧ Kept [] wr wx))
   case first =>
    refine wp_region_held_drew (S := fun w' => w'.cell? ⟨X, 0, none⟩ = some (.slice a1 (MS j).ino.length c1) ∧ w'.cell? ⟨X, 1, none⟩ = some (.slice a2 (MS j).opn.length c2) ∧ w'.cell? ⟨X, 2, none⟩ = some (.slice a3 (MS j).made.length c3) ∧ w'.cell? ⟨X + 1, j * 8, none⟩ = some (.int .i64 (calM j).kind) ∧ w'.cell? ⟨X + 1, j * 8 + 1, none⟩ = some (.int .i64 (calM j).core) ∧ w'.cell? ⟨X + 1, j * 8 + 2, none⟩ = some (.int .i64 (calM j).fd) ∧ w'.cell? ⟨X + 1, j * 8 + 3, none⟩ = some (.int .i64 (calM j).off) ∧ w'.cell? ⟨X + 1, j * 8 + 4, none⟩ = some (.int .i64 (calM j).num) ∧ w'.cell? ⟨X + 1, j * 8 + 5, none⟩ = some (.string (calM j).path) ∧ w'.cell? ⟨X + 1, j * 8 + 6, none⟩ = some (.string (calM j).path2) ∧ w'.cell? ⟨X + 1, j * 8 + 7, none⟩ = some (.string (calM j).data)) (by kernel_rfl) ?_ (fun hHeld => ?_)
    · exact HS.out
    obtain ⟨u0, hu0⟩ : ∃ u0, wr.drew = u0 := ⟨_, rfl⟩
    have HK : Hid (Kept [] wr u0) := by rw [← hu0]; exact (Kept.refl _ _).drew
    rw [hu0] at hHeld ⊢
    clear hu0
    refine tkA 0 rfl ?_
    refine tkA 1 rfl ?_
    refine tkA 2 rfl ?_
    refine tkA 3 rfl ?_
    refine tkA 4 rfl ?_
    refine wpAnyH_ready (rs := [5, 9, 10]) (by kernel_rfl) (by simp) ?_
    refine AllReadyH.cons rfl (fun K hK => ?_) (AllReadyH.cons rfl (fun K hK => ?_) (AllReadyH.cons rfl (fun K hK => ?_) AllReadyH.nil))
    ·
     go_simp
     refine (HDc.out _ HK.out).mono ?_
     rintro e u1 ⟨v1, v2, v3, eu, rfl, o5, k5⟩
     obtain ⟨b1, d1, hv1, -⟩ := row_form o5.ino
     obtain ⟨b2, d2, hv2, -⟩ := row_form o5.opn
     obtain ⟨b3, d3, hv3, -⟩ := row_form o5.mad
     subst hv1 hv2 hv3
     have z5 := s_kept hHeld k5
     go_wp2_with fail
     refine hK.out _ _ ?_ (fun hHeld => ?_)
     · exact z5
     clear hK K z5
     try simp only [Act.put, lz0, lz1, lz2, lz3, lz4, lz5]
     have HK2 : Hid (Kept [] wr u1) := HK.out.trans k5 (by simp)
     have O5 : Hid (Os u1 wr.heap.size (.slice b1 (MS (j + 1)).ino.length d1) (.slice b2 (MS (j + 1)).opn.length d2) (.slice b3 (MS (j + 1)).made.length d3) eu (MS (j + 1))) := o5.less HK.out.size
     clear o5 k5 HK 
     refine tkA 6 rfl ?_
     refine tkA 7 rfl ?_
     refine tkA 8 rfl ?_
     have HK : Hid (_) := HK2.out
     clear HK2
     refine wpAnyH_ready (rs := [9, 10]) (by kernel_rfl) (by simp) ?_
     refine AllReadyH.cons rfl (fun K hK => ?_) (AllReadyH.cons rfl (fun K hK => ?_) AllReadyH.nil)
     ·
      go_simp
      refine hK.out _ _ ?_ (fun hHeld => ?_)
      · exact s_kept hHeld ((Kept.refl _ _).alloc _)
      clear hK K
      try simp only [Act.put, lz0, lz1, lz2, lz3, lz4, lz5]
      obtain ⟨ux57, Y7, HY, HKY, B7⟩ := boxY u1 #[.slice none 0 0, .slice none 0 0, .slice none 0 0] 27
      rw [HY.out.1] at hHeld
      rw [HY.out.1, HY.out.2]
      have M7 : Hid (wr.heap.size ≤ Y7) := by have h1 := HK.out.size; have h2 := HY.out.2; show _ ≤ _; omega
      have HK2 : Hid (_) := HK.out.trans HKY.out (by simp)
      have O5x : Hid (_) := O5.out.kept HKY.out
      clear HK HY HKY  O5
      have HK : Hid (_) := HK2.out
      clear HK2
      have O5 : Hid (_) := O5x.out
      clear O5x
      refine wpAnyH_ready (rs := [10]) (by kernel_rfl) (by simp) ?_
      refine AllReadyH.cons rfl (fun K hK => ?_) AllReadyH.nil
      go_simp
      refine hK.out _ _ ?_ (fun hHeld => ?_)
      · exact s_kept hHeld ((Kept.refl _ _).alloc _)
      clear hK K
      try simp only [Act.put, lz0, lz1, lz2, lz3, lz4, lz5]
      obtain ⟨ux578, Y8, HY, HKY, B8⟩ := boxY ux57 #[.int .i64 0, .int .i64 0, .int .i64 0, .bool false, .string ⟨#[]⟩, .slice none 0 0] 31
      rw [HY.out.1] at hHeld
      rw [HY.out.1, HY.out.2]
      have M8 : Hid (wr.heap.size ≤ Y8) := by have h1 := HK.out.size; have h2 := HY.out.2; show _ ≤ _; omega
      have HK2 : Hid (_) := HK.out.trans HKY.out (by simp)
      have B7x : Hid (_) := (HKY.out.block _ (lt_of_heap B7.out) (by simp)).trans B7.out
      have O5x : Hid (_) := O5.out.kept HKY.out
      clear HK HY HKY B7 O5
      have HK : Hid (_) := HK2.out
      clear HK2
      have B7 : Hid (_) := B7x.out
      clear B7x
      have O5 : Hid (_) := O5x.out
      clear O5x
      have O : Hid (Os ux578 wr.heap.size (.slice b1 (MS (j + 1)).ino.length d1) (.slice b2 (MS (j + 1)).opn.length d2) (.slice b3 (MS (j + 1)).made.length d3) eu (MS (j + 1)) ∧ Off [Y7] (.slice b1 (MS (j + 1)).ino.length d1) (.slice b2 (MS (j + 1)).opn.length d2) (.slice b3 (MS (j + 1)).made.length d3) eu ∧ Off [Y8] (.slice b1 (MS (j + 1)).ino.length d1) (.slice b2 (MS (j + 1)).opn.length d2) (.slice b3 (MS (j + 1)).made.length d3) eu) := ⟨O5.out, off_type O5.out B7.out (by decide), off_type O5.out B8.out (by decide)⟩
      have N78 : Hid (Y7 ≠ Y8) := fun e => by have h1 := B7.out; rw [e, B8.out] at h1; simp at h1
      have L7 : Hid (wr.heap.size ≤ Y7) := M7.out
      have L8 : Hid (wr.heap.size ≤ Y8) := M8.out
      have N7 : Hid (X ≠ Y7 ∧ X + 1 ≠ Y7) := by have h1 := lt_of_heap HJ.out.2; have h2 := L7.out; exact ⟨by omega, by omega⟩
      have N8 : Hid (X ≠ Y8 ∧ X + 1 ≠ Y8) := by have h1 := lt_of_heap HJ.out.2; have h2 := L8.out; exact ⟨by omega, by omega⟩
      obtain ⟨g0, g1, g2, s0, s1, s2⟩ := zs3 B7.out
      refine wpAnyH_ready (rs := [11]) (by kernel_rfl) (by simp) ?_
      refine AllReadyH.cons rfl (fun K hK => ?_) AllReadyH.nil
      go_simp
      refine hK.out _ _ ?_ (fun hHeld => ?_)
      · exact s_off hHeld (otherZ N7.out.1) (otherZ N7.out.2)
      clear hK K
      try simp only [Act.put, lz0, lz1, lz2, lz3, lz4, lz5]
      obtain ⟨x, hx⟩ : ∃ x, laidZ ux578 Y7 (.slice b1 (MS (j + 1)).ino.length d1) (.slice b2 (MS (j + 1)).opn.length d2) (.slice b3 (MS (j + 1)).made.length d3) = x := ⟨_, rfl⟩
      have C7 : Hid (_) := blockZ B7.out (.slice b1 (MS (j + 1)).ino.length d1) (.slice b2 (MS (j + 1)).opn.length d2) (.slice b3 (MS (j + 1)).made.length d3)
      have C8 : Hid (_) := (otherZ (w := ux578) (R := Y7) (a := .slice b1 (MS (j + 1)).ino.length d1) (b := .slice b2 (MS (j + 1)).opn.length d2) (c := .slice b3 (MS (j + 1)).made.length d3) N78.out.symm).trans B8.out
      have Kx : Hid (_) := keptZ HK.out L7.out (.slice b1 (MS (j + 1)).ino.length d1) (.slice b2 (MS (j + 1)).opn.length d2) (.slice b3 (MS (j + 1)).made.length d3)
      have Ox : Hid (_) := O.out.1.keep (kept3Z ux578 Y7 (.slice b1 (MS (j + 1)).ino.length d1) (.slice b2 (MS (j + 1)).opn.length d2) (.slice b3 (MS (j + 1)).made.length d3)) O.out.2.1
      rw [hx] at C7 C8 Kx Ox
      unfold Go.Proofs.YtffncojcnbhblaaGreatDoor.laidZ at hx
      rw [hx] at hHeld ⊢
      clear hx g0 g1 g2 s0 s1 s2
      obtain ⟨g0, g1, g2, g3, g4, g5, s0, s1, s2, s3, s4, s5⟩ := rs6 C8.out
      refine wpAnyH_ready (rs := [12]) (by kernel_rfl) (by simp) ?_
      refine AllReadyH.cons rfl (fun K hK => ?_) AllReadyH.nil
      go_simp
      refine hK.out _ _ ?_ (fun hHeld => ?_)
      · exact s_off hHeld (otherY N8.out.1) (otherY N8.out.2)
      clear hK K
      try simp only [Act.put, lz0, lz1, lz2, lz3, lz4, lz5]
      obtain ⟨y, hy⟩ : ∃ y, laidY x Y8 (.int .i64 0) (.int .i64 0) (.int .i64 m) (.bool false) (.string ⟨#[]⟩) (.slice none 0 0) = y := ⟨_, rfl⟩
      have D7 : Hid (_) := (otherY (w := x) (R := Y8) (a := .int .i64 0) (b := .int .i64 0) (c := .int .i64 m) (d := .bool false) (e := .string ⟨#[]⟩) (f := .slice none 0 0) N78.out).trans C7.out
      have Ky : Hid (_) := keptY Kx.out L8.out (.int .i64 0) (.int .i64 0) (.int .i64 m) (.bool false) (.string ⟨#[]⟩) (.slice none 0 0)
      have Oy : Hid (_) := Ox.out.keep (kept6Y x Y8 (.int .i64 0) (.int .i64 0) (.int .i64 m) (.bool false) (.string ⟨#[]⟩) (.slice none 0 0)) O.out.2.2
      rw [hy] at D7 Ky Oy
      unfold Go.Proofs.YtffncojcnbhblaaGreatDoor.laidY at hy
      rw [hy] at hHeld ⊢
      clear hy hHeld g0 g1 g2 g3 g4 g5 s0 s1 s2 s3 s4 s5
      refine wpAnyH_done (by kernel_rfl) ?_ _
      go_wp2_with fail
      go_meet
      case rel => exact ⟨Y7, Y8, b1, b2, b3, d1, d2, d3, eu, rfl, rfl, D7.out, Oy.out, Ky.out⟩
     ·
      go_simp
      refine hK.out _ _ ?_ (fun hHeld => ?_)
      · exact s_kept hHeld ((Kept.refl _ _).alloc _)
      clear hK K
      try simp only [Act.put, lz0, lz1, lz2, lz3, lz4, lz5]
      obtain ⟨ux58, Y8, HY, HKY, B8⟩ := boxY u1 #[.int .i64 0, .int .i64 0, .int .i64 0, .bool false, .string ⟨#[]⟩, .slice none 0 0] 31
      rw [HY.out.1] at hHeld
      rw [HY.out.1, HY.out.2]
      have M8 : Hid (wr.heap.size ≤ Y8) := by have h1 := HK.out.size; have h2 := HY.out.2; show _ ≤ _; omega
      have HK2 : Hid (_) := HK.out.trans HKY.out (by simp)
      have O5x : Hid (_) := O5.out.kept HKY.out
      clear HK HY HKY  O5
      have HK : Hid (_) := HK2.out
      clear HK2
      have O5 : Hid (_) := O5x.out
      clear O5x
      refine wpAnyH_ready (rs := [9]) (by kernel_rfl) (by simp) ?_
      refine AllReadyH.cons rfl (fun K hK => ?_) AllReadyH.nil
      go_simp
      refine hK.out _ _ ?_ (fun hHeld => ?_)
      · exact s_kept hHeld ((Kept.refl _ _).alloc _)
      clear hK K
      try simp only [Act.put, lz0, lz1, lz2, lz3, lz4, lz5]
      obtain ⟨ux587, Y7, HY, HKY, B7⟩ := boxY ux58 #[.slice none 0 0, .slice none 0 0, .slice none 0 0] 27
      rw [HY.out.1] at hHeld
      rw [HY.out.1, HY.out.2]
      have M7 : Hid (wr.heap.size ≤ Y7) := by have h1 := HK.out.size; have h2 := HY.out.2; show _ ≤ _; omega
      have HK2 : Hid (_) := HK.out.trans HKY.out (by simp)
      have B8x : Hid (_) := (HKY.out.block _ (lt_of_heap B8.out) (by simp)).trans B8.out
      have O5x : Hid (_) := O5.out.kept HKY.out
      clear HK HY HKY B8 O5
      have HK : Hid (_) := HK2.out
      clear HK2
      have B8 : Hid (_) := B8x.out
      clear B8x
      have O5 : Hid (_) := O5x.out
      clear O5x
      have O : Hid (Os ux587 wr.heap.size (.slice b1 (MS (j + 1)).ino.length d1) (.slice b2 (MS (j + 1)).opn.length d2) (.slice b3 (MS (j + 1)).made.length d3) eu (MS (j + 1)) ∧ Off [Y7] (.slice b1 (MS (j + 1)).ino.length d1) (.slice b2 (MS (j + 1)).opn.length d2) (.slice b3 (MS (j + 1)).made.length d3) eu ∧ Off [Y8] (.slice b1 (MS (j + 1)).ino.length d1) (.slice b2 (MS (j + 1)).opn.length d2) (.slice b3 (MS (j + 1)).made.length d3) eu) := ⟨O5.out, off_type O5.out B7.out (by decide), off_type O5.out B8.out (by decide)⟩
      have N78 : Hid (Y7 ≠ Y8) := fun e => by have h1 := B7.out; rw [e, B8.out] at h1; simp at h1
      have L7 : Hid (wr.heap.size ≤ Y7) := M7.out
      have L8 : Hid (wr.heap.size ≤ Y8) := M8.out
      have N7 : Hid (X ≠ Y7 ∧ X + 1 ≠ Y7) := by have h1 := lt_of_heap HJ.out.2; have h2 := L7.out; exact ⟨by omega, by omega⟩
      have N8 : Hid (X ≠ Y8 ∧ X + 1 ≠ Y8) := by have h1 := lt_of_heap HJ.out.2; have h2 := L8.out; exact ⟨by omega, by omega⟩
      obtain ⟨g0, g1, g2, s0, s1, s2⟩ := zs3 B7.out
      refine wpAnyH_ready (rs := [11]) (by kernel_rfl) (by simp) ?_
      refine AllReadyH.cons rfl (fun K hK => ?_) AllReadyH.nil
      go_simp
      refine hK.out _ _ ?_ (fun hHeld => ?_)
      · exact s_off hHeld (otherZ N7.out.1) (otherZ N7.out.2)
      clear hK K
      try simp only [Act.put, lz0, lz1, lz2, lz3, lz4, lz5]
      obtain ⟨x, hx⟩ : ∃ x, laidZ ux587 Y7 (.slice b1 (MS (j + 1)).ino.length d1) (.slice b2 (MS (j + 1)).opn.length d2) (.slice b3 (MS (j + 1)).made.length d3) = x := ⟨_, rfl⟩
      have C7 : Hid (_) := blockZ B7.out (.slice b1 (MS (j + 1)).ino.length d1) (.slice b2 (MS (j + 1)).opn.length d2) (.slice b3 (MS (j + 1)).made.length d3)
      have C8 : Hid (_) := (otherZ (w := ux587) (R := Y7) (a := .slice b1 (MS (j + 1)).ino.length d1) (b := .slice b2 (MS (j + 1)).opn.length d2) (c := .slice b3 (MS (j + 1)).made.length d3) N78.out.symm).trans B8.out
      have Kx : Hid (_) := keptZ HK.out L7.out (.slice b1 (MS (j + 1)).ino.length d1) (.slice b2 (MS (j + 1)).opn.length d2) (.slice b3 (MS (j + 1)).made.length d3)
      have Ox : Hid (_) := O.out.1.keep (kept3Z ux587 Y7 (.slice b1 (MS (j + 1)).ino.length d1) (.slice b2 (MS (j + 1)).opn.length d2) (.slice b3 (MS (j + 1)).made.length d3)) O.out.2.1
      rw [hx] at C7 C8 Kx Ox
      unfold Go.Proofs.YtffncojcnbhblaaGreatDoor.laidZ at hx
      rw [hx] at hHeld ⊢
      clear hx g0 g1 g2 s0 s1 s2
      obtain ⟨g0, g1, g2, g3, g4, g5, s0, s1, s2, s3, s4, s5⟩ := rs6 C8.out
      refine wpAnyH_ready (rs := [12]) (by kernel_rfl) (by simp) ?_
      refine AllReadyH.cons rfl (fun K hK => ?_) AllReadyH.nil
      go_simp
      refine hK.out _ _ ?_ (fun hHeld => ?_)
      · exact s_off hHeld (otherY N8.out.1) (otherY N8.out.2)
      clear hK K
      try simp only [Act.put, lz0, lz1, lz2, lz3, lz4, lz5]
      obtain ⟨y, hy⟩ : ∃ y, laidY x Y8 (.int .i64 0) (.int .i64 0) (.int .i64 m) (.bool false) (.string ⟨#[]⟩) (.slice none 0 0) = y := ⟨_, rfl⟩
      have D7 : Hid (_) := (otherY (w := x) (R := Y8) (a := .int .i64 0) (b := .int .i64 0) (c := .int .i64 m) (d := .bool false) (e := .string ⟨#[]⟩) (f := .slice none 0 0) N78.out).trans C7.out
      have Ky : Hid (_) := keptY Kx.out L8.out (.int .i64 0) (.int .i64 0) (.int .i64 m) (.bool false) (.string ⟨#[]⟩) (.slice none 0 0)
      have Oy : Hid (_) := Ox.out.keep (kept6Y x Y8 (.int .i64 0) (.int .i64 0) (.int .i64 m) (.bool false) (.string ⟨#[]⟩) (.slice none 0 0)) O.out.2.2
      rw [hy] at D7 Ky Oy
      unfold Go.Proofs.YtffncojcnbhblaaGreatDoor.laidY at hy
      rw [hy] at hHeld ⊢
      clear hy hHeld g0 g1 g2 g3 g4 g5 s0 s1 s2 s3 s4 s5
      refine wpAnyH_done (by kernel_rfl) ?_ _
      go_wp2_with fail
      go_meet
      case rel => exact ⟨Y7, Y8, b1, b2, b3, d1, d2, d3, eu, rfl, rfl, D7.out, Oy.out, Ky.out⟩
    ·
     go_simp
     refine hK.out _ _ ?_ (fun hHeld => ?_)
     · exact s_kept hHeld ((Kept.refl _ _).alloc _)
     clear hK K
     try simp only [Act.put, lz0, lz1, lz2, lz3, lz4, lz5]
     obtain ⟨ux7, Y7, HY, HKY, B7⟩ := boxY u0 #[.slice none 0 0, .slice none 0 0, .slice none 0 0] 27
     rw [HY.out.1] at hHeld
     rw [HY.out.1, HY.out.2]
     have M7 : Hid (wr.heap.size ≤ Y7) := by have h1 := HK.out.size; have h2 := HY.out.2; show _ ≤ _; omega
     have HK2 : Hid (_) := HK.out.trans HKY.out (by simp)
     clear HK HY HKY 
     have HK : Hid (_) := HK2.out
     clear HK2
     refine wpAnyH_ready (rs := [5, 10]) (by kernel_rfl) (by simp) ?_
     refine AllReadyH.cons rfl (fun K hK => ?_) (AllReadyH.cons rfl (fun K hK => ?_) AllReadyH.nil)
     ·
      go_simp
      refine (HDc.out _ HK.out).mono ?_
      rintro e u1 ⟨v1, v2, v3, eu, rfl, o5, k5⟩
      obtain ⟨b1, d1, hv1, -⟩ := row_form o5.ino
      obtain ⟨b2, d2, hv2, -⟩ := row_form o5.opn
      obtain ⟨b3, d3, hv3, -⟩ := row_form o5.mad
      subst hv1 hv2 hv3
      have z5 := s_kept hHeld k5
      go_wp2_with fail
      refine hK.out _ _ ?_ (fun hHeld => ?_)
      · exact z5
      clear hK K z5
      try simp only [Act.put, lz0, lz1, lz2, lz3, lz4, lz5]
      have HK2 : Hid (Kept [] wr u1) := HK.out.trans k5 (by simp)
      have B7x : Hid (_) := (k5.block _ (lt_of_heap B7.out) (by simp)).trans B7.out
      have O5 : Hid (Os u1 wr.heap.size (.slice b1 (MS (j + 1)).ino.length d1) (.slice b2 (MS (j + 1)).opn.length d2) (.slice b3 (MS (j + 1)).made.length d3) eu (MS (j + 1))) := o5.less HK.out.size
      clear o5 k5 HK B7
      refine tkA 6 rfl ?_
      refine tkA 7 rfl ?_
      refine tkA 8 rfl ?_
      have HK : Hid (_) := HK2.out
      clear HK2
      have B7 : Hid (_) := B7x.out
      clear B7x
      refine wpAnyH_ready (rs := [10]) (by kernel_rfl) (by simp) ?_
      refine AllReadyH.cons rfl (fun K hK => ?_) AllReadyH.nil
      go_simp
      refine hK.out _ _ ?_ (fun hHeld => ?_)
      · exact s_kept hHeld ((Kept.refl _ _).alloc _)
      clear hK K
      try simp only [Act.put, lz0, lz1, lz2, lz3, lz4, lz5]
      obtain ⟨ux758, Y8, HY, HKY, B8⟩ := boxY u1 #[.int .i64 0, .int .i64 0, .int .i64 0, .bool false, .string ⟨#[]⟩, .slice none 0 0] 31
      rw [HY.out.1] at hHeld
      rw [HY.out.1, HY.out.2]
      have M8 : Hid (wr.heap.size ≤ Y8) := by have h1 := HK.out.size; have h2 := HY.out.2; show _ ≤ _; omega
      have HK2 : Hid (_) := HK.out.trans HKY.out (by simp)
      have B7x : Hid (_) := (HKY.out.block _ (lt_of_heap B7.out) (by simp)).trans B7.out
      have O5x : Hid (_) := O5.out.kept HKY.out
      clear HK HY HKY B7 O5
      have HK : Hid (_) := HK2.out
      clear HK2
      have B7 : Hid (_) := B7x.out
      clear B7x
      have O5 : Hid (_) := O5x.out
      clear O5x
      have O : Hid (Os ux758 wr.heap.size (.slice b1 (MS (j + 1)).ino.length d1) (.slice b2 (MS (j + 1)).opn.length d2) (.slice b3 (MS (j + 1)).made.length d3) eu (MS (j + 1)) ∧ Off [Y7] (.slice b1 (MS (j + 1)).ino.length d1) (.slice b2 (MS (j + 1)).opn.length d2) (.slice b3 (MS (j + 1)).made.length d3) eu ∧ Off [Y8] (.slice b1 (MS (j + 1)).ino.length d1) (.slice b2 (MS (j + 1)).opn.length d2) (.slice b3 (MS (j + 1)).made.length d3) eu) := ⟨O5.out, off_type O5.out B7.out (by decide), off_type O5.out B8.out (by decide)⟩
      have N78 : Hid (Y7 ≠ Y8) := fun e => by have h1 := B7.out; rw [e, B8.out] at h1; simp at h1
      have L7 : Hid (wr.heap.size ≤ Y7) := M7.out
      have L8 : Hid (wr.heap.size ≤ Y8) := M8.out
      have N7 : Hid (X ≠ Y7 ∧ X + 1 ≠ Y7) := by have h1 := lt_of_heap HJ.out.2; have h2 := L7.out; exact ⟨by omega, by omega⟩
      have N8 : Hid (X ≠ Y8 ∧ X + 1 ≠ Y8) := by have h1 := lt_of_heap HJ.out.2; have h2 := L8.out; exact ⟨by omega, by omega⟩
      obtain ⟨g0, g1, g2, s0, s1, s2⟩ := zs3 B7.out
      refine wpAnyH_ready (rs := [11]) (by kernel_rfl) (by simp) ?_
      refine AllReadyH.cons rfl (fun K hK => ?_) AllReadyH.nil
      go_simp
      refine hK.out _ _ ?_ (fun hHeld => ?_)
      · exact s_off hHeld (otherZ N7.out.1) (otherZ N7.out.2)
      clear hK K
      try simp only [Act.put, lz0, lz1, lz2, lz3, lz4, lz5]
      obtain ⟨x, hx⟩ : ∃ x, laidZ ux758 Y7 (.slice b1 (MS (j + 1)).ino.length d1) (.slice b2 (MS (j + 1)).opn.length d2) (.slice b3 (MS (j + 1)).made.length d3) = x := ⟨_, rfl⟩
      have C7 : Hid (_) := blockZ B7.out (.slice b1 (MS (j + 1)).ino.length d1) (.slice b2 (MS (j + 1)).opn.length d2) (.slice b3 (MS (j + 1)).made.length d3)
      have C8 : Hid (_) := (otherZ (w := ux758) (R := Y7) (a := .slice b1 (MS (j + 1)).ino.length d1) (b := .slice b2 (MS (j + 1)).opn.length d2) (c := .slice b3 (MS (j + 1)).made.length d3) N78.out.symm).trans B8.out
      have Kx : Hid (_) := keptZ HK.out L7.out (.slice b1 (MS (j + 1)).ino.length d1) (.slice b2 (MS (j + 1)).opn.length d2) (.slice b3 (MS (j + 1)).made.length d3)
      have Ox : Hid (_) := O.out.1.keep (kept3Z ux758 Y7 (.slice b1 (MS (j + 1)).ino.length d1) (.slice b2 (MS (j + 1)).opn.length d2) (.slice b3 (MS (j + 1)).made.length d3)) O.out.2.1
      rw [hx] at C7 C8 Kx Ox
      unfold Go.Proofs.YtffncojcnbhblaaGreatDoor.laidZ at hx
      rw [hx] at hHeld ⊢
      clear hx g0 g1 g2 s0 s1 s2
      obtain ⟨g0, g1, g2, g3, g4, g5, s0, s1, s2, s3, s4, s5⟩ := rs6 C8.out
      refine wpAnyH_ready (rs := [12]) (by kernel_rfl) (by simp) ?_
      refine AllReadyH.cons rfl (fun K hK => ?_) AllReadyH.nil
      go_simp
      refine hK.out _ _ ?_ (fun hHeld => ?_)
      · exact s_off hHeld (otherY N8.out.1) (otherY N8.out.2)
      clear hK K
      try simp only [Act.put, lz0, lz1, lz2, lz3, lz4, lz5]
      obtain ⟨y, hy⟩ : ∃ y, laidY x Y8 (.int .i64 0) (.int .i64 0) (.int .i64 m) (.bool false) (.string ⟨#[]⟩) (.slice none 0 0) = y := ⟨_, rfl⟩
      have D7 : Hid (_) := (otherY (w := x) (R := Y8) (a := .int .i64 0) (b := .int .i64 0) (c := .int .i64 m) (d := .bool false) (e := .string ⟨#[]⟩) (f := .slice none 0 0) N78.out).trans C7.out
      have Ky : Hid (_) := keptY Kx.out L8.out (.int .i64 0) (.int .i64 0) (.int .i64 m) (.bool false) (.string ⟨#[]⟩) (.slice none 0 0)
      have Oy : Hid (_) := Ox.out.keep (kept6Y x Y8 (.int .i64 0) (.int .i64 0) (.int .i64 m) (.bool false) (.string ⟨#[]⟩) (.slice none 0 0)) O.out.2.2
      rw [hy] at D7 Ky Oy
      unfold Go.Proofs.YtffncojcnbhblaaGreatDoor.laidY at hy
      rw [hy] at hHeld ⊢
      clear hy hHeld g0 g1 g2 g3 g4 g5 s0 s1 s2 s3 s4 s5
      refine wpAnyH_done (by kernel_rfl) ?_ _
      go_wp2_with fail
      go_meet
      case rel => exact ⟨Y7, Y8, b1, b2, b3, d1, d2, d3, eu, rfl, rfl, D7.out, Oy.out, Ky.out⟩
     ·
      go_simp
      refine hK.out _ _ ?_ (fun hHeld => ?_)
      · exact s_kept hHeld ((Kept.refl _ _).alloc _)
      clear hK K
      try simp only [Act.put, lz0, lz1, lz2, lz3, lz4, lz5]
      obtain ⟨ux78, Y8, HY, HKY, B8⟩ := boxY ux7 #[.int .i64 0, .int .i64 0, .int .i64 0, .bool false, .string ⟨#[]⟩, .slice none 0 0] 31
      rw [HY.out.1] at hHeld
      rw [HY.out.1, HY.out.2]
      have M8 : Hid (wr.heap.size ≤ Y8) := by have h1 := HK.out.size; have h2 := HY.out.2; show _ ≤ _; omega
      have HK2 : Hid (_) := HK.out.trans HKY.out (by simp)
      have B7x : Hid (_) := (HKY.out.block _ (lt_of_heap B7.out) (by simp)).trans B7.out
      clear HK HY HKY B7
      have HK : Hid (_) := HK2.out
      clear HK2
      have B7 : Hid (_) := B7x.out
      clear B7x
      refine wpAnyH_ready (rs := [5]) (by kernel_rfl) (by simp) ?_
      refine AllReadyH.cons rfl (fun K hK => ?_) AllReadyH.nil
      go_simp
      refine (HDc.out _ HK.out).mono ?_
      rintro e u1 ⟨v1, v2, v3, eu, rfl, o5, k5⟩
      obtain ⟨b1, d1, hv1, -⟩ := row_form o5.ino
      obtain ⟨b2, d2, hv2, -⟩ := row_form o5.opn
      obtain ⟨b3, d3, hv3, -⟩ := row_form o5.mad
      subst hv1 hv2 hv3
      have z5 := s_kept hHeld k5
      go_wp2_with fail
      refine hK.out _ _ ?_ (fun hHeld => ?_)
      · exact z5
      clear hK K z5
      try simp only [Act.put, lz0, lz1, lz2, lz3, lz4, lz5]
      have HK2 : Hid (Kept [] wr u1) := HK.out.trans k5 (by simp)
      have B7x : Hid (_) := (k5.block _ (lt_of_heap B7.out) (by simp)).trans B7.out
      have B8x : Hid (_) := (k5.block _ (lt_of_heap B8.out) (by simp)).trans B8.out
      have O5 : Hid (Os u1 wr.heap.size (.slice b1 (MS (j + 1)).ino.length d1) (.slice b2 (MS (j + 1)).opn.length d2) (.slice b3 (MS (j + 1)).made.length d3) eu (MS (j + 1))) := o5.less HK.out.size
      clear o5 k5 HK B7 B8
      refine tkA 6 rfl ?_
      refine tkA 7 rfl ?_
      refine tkA 8 rfl ?_
      have HK : Hid (_) := HK2.out
      clear HK2
      have B7 : Hid (_) := B7x.out
      clear B7x
      have B8 : Hid (_) := B8x.out
      clear B8x
      have O : Hid (Os u1 wr.heap.size (.slice b1 (MS (j + 1)).ino.length d1) (.slice b2 (MS (j + 1)).opn.length d2) (.slice b3 (MS (j + 1)).made.length d3) eu (MS (j + 1)) ∧ Off [Y7] (.slice b1 (MS (j + 1)).ino.length d1) (.slice b2 (MS (j + 1)).opn.length d2) (.slice b3 (MS (j + 1)).made.length d3) eu ∧ Off [Y8] (.slice b1 (MS (j + 1)).ino.length d1) (.slice b2 (MS (j + 1)).opn.length d2) (.slice b3 (MS (j + 1)).made.length d3) eu) := ⟨O5.out, off_type O5.out B7.out (by decide), off_type O5.out B8.out (by decide)⟩
      have N78 : Hid (Y7 ≠ Y8) := fun e => by have h1 := B7.out; rw [e, B8.out] at h1; simp at h1
      have L7 : Hid (wr.heap.size ≤ Y7) := M7.out
      have L8 : Hid (wr.heap.size ≤ Y8) := M8.out
      have N7 : Hid (X ≠ Y7 ∧ X + 1 ≠ Y7) := by have h1 := lt_of_heap HJ.out.2; have h2 := L7.out; exact ⟨by omega, by omega⟩
      have N8 : Hid (X ≠ Y8 ∧ X + 1 ≠ Y8) := by have h1 := lt_of_heap HJ.out.2; have h2 := L8.out; exact ⟨by omega, by omega⟩
      obtain ⟨g0, g1, g2, s0, s1, s2⟩ := zs3 B7.out
      refine wpAnyH_ready (rs := [11]) (by kernel_rfl) (by simp) ?_
      refine AllReadyH.cons rfl (fun K hK => ?_) AllReadyH.nil
      go_simp
      refine hK.out _ _ ?_ (fun hHeld => ?_)
      · exact s_off hHeld (otherZ N7.out.1) (otherZ N7.out.2)
      clear hK K
      try simp only [Act.put, lz0, lz1, lz2, lz3, lz4, lz5]
      obtain ⟨x, hx⟩ : ∃ x, laidZ u1 Y7 (.slice b1 (MS (j + 1)).ino.length d1) (.slice b2 (MS (j + 1)).opn.length d2) (.slice b3 (MS (j + 1)).made.length d3) = x := ⟨_, rfl⟩
      have C7 : Hid (_) := blockZ B7.out (.slice b1 (MS (j + 1)).ino.length d1) (.slice b2 (MS (j + 1)).opn.length d2) (.slice b3 (MS (j + 1)).made.length d3)
      have C8 : Hid (_) := (otherZ (w := u1) (R := Y7) (a := .slice b1 (MS (j + 1)).ino.length d1) (b := .slice b2 (MS (j + 1)).opn.length d2) (c := .slice b3 (MS (j + 1)).made.length d3) N78.out.symm).trans B8.out
      have Kx : Hid (_) := keptZ HK.out L7.out (.slice b1 (MS (j + 1)).ino.length d1) (.slice b2 (MS (j + 1)).opn.length d2) (.slice b3 (MS (j + 1)).made.length d3)
      have Ox : Hid (_) := O.out.1.keep (kept3Z u1 Y7 (.slice b1 (MS (j + 1)).ino.length d1) (.slice b2 (MS (j + 1)).opn.length d2) (.slice b3 (MS (j + 1)).made.length d3)) O.out.2.1
      rw [hx] at C7 C8 Kx Ox
      unfold Go.Proofs.YtffncojcnbhblaaGreatDoor.laidZ at hx
      rw [hx] at hHeld ⊢
      clear hx g0 g1 g2 s0 s1 s2
      obtain ⟨g0, g1, g2, g3, g4, g5, s0, s1, s2, s3, s4, s5⟩ := rs6 C8.out
      refine wpAnyH_ready (rs := [12]) (by kernel_rfl) (by simp) ?_
      refine AllReadyH.cons rfl (fun K hK => ?_) AllReadyH.nil
      go_simp
      refine hK.out _ _ ?_ (fun hHeld => ?_)
      · exact s_off hHeld (otherY N8.out.1) (otherY N8.out.2)
      clear hK K
      try simp only [Act.put, lz0, lz1, lz2, lz3, lz4, lz5]
      obtain ⟨y, hy⟩ : ∃ y, laidY x Y8 (.int .i64 0) (.int .i64 0) (.int .i64 m) (.bool false) (.string ⟨#[]⟩) (.slice none 0 0) = y := ⟨_, rfl⟩
      have D7 : Hid (_) := (otherY (w := x) (R := Y8) (a := .int .i64 0) (b := .int .i64 0) (c := .int .i64 m) (d := .bool false) (e := .string ⟨#[]⟩) (f := .slice none 0 0) N78.out).trans C7.out
      have Ky : Hid (_) := keptY Kx.out L8.out (.int .i64 0) (.int .i64 0) (.int .i64 m) (.bool false) (.string ⟨#[]⟩) (.slice none 0 0)
      have Oy : Hid (_) := Ox.out.keep (kept6Y x Y8 (.int .i64 0) (.int .i64 0) (.int .i64 m) (.bool false) (.string ⟨#[]⟩) (.slice none 0 0)) O.out.2.2
      rw [hy] at D7 Ky Oy
      unfold Go.Proofs.YtffncojcnbhblaaGreatDoor.laidY at hy
      rw [hy] at hHeld ⊢
      clear hy hHeld g0 g1 g2 g3 g4 g5 s0 s1 s2 s3 s4 s5
      refine wpAnyH_done (by kernel_rfl) ?_ _
      go_wp2_with fail
      go_meet
      case rel => exact ⟨Y7, Y8, b1, b2, b3, d1, d2, d3, eu, rfl, rfl, D7.out, Oy.out, Ky.out⟩
    ·
     go_simp
     refine hK.out _ _ ?_ (fun hHeld => ?_)
     · exact s_kept hHeld ((Kept.refl _ _).alloc _)
     clear hK K
     try simp only [Act.put, lz0, lz1, lz2, lz3, lz4, lz5]
     obtain ⟨ux8, Y8, HY, HKY, B8⟩ := boxY u0 #[.int .i64 0, .int .i64 0, .int .i64 0, .bool false, .string ⟨#[]⟩, .slice none 0 0] 31
     rw [HY.out.1] at hHeld
     rw [HY.out.1, HY.out.2]
     have M8 : Hid (wr.heap.size ≤ Y8) := by have h1 := HK.out.size; have h2 := HY.out.2; show _ ≤ _; omega
     have HK2 : Hid (_) := HK.out.trans HKY.out (by simp)
     clear HK HY HKY 
     have HK : Hid (_) := HK2.out
     clear HK2
     refine wpAnyH_ready (rs := [5, 9]) (by kernel_rfl) (by simp) ?_
     refine AllReadyH.cons rfl (fun K hK => ?_) (AllReadyH.cons rfl (fun K hK => ?_) AllReadyH.nil)
     ·
      go_simp
      refine (HDc.out _ HK.out).mono ?_
      rintro e u1 ⟨v1, v2, v3, eu, rfl, o5, k5⟩
      obtain ⟨b1, d1, hv1, -⟩ := row_form o5.ino
      obtain ⟨b2, d2, hv2, -⟩ := row_form o5.opn
      obtain ⟨b3, d3, hv3, -⟩ := row_form o5.mad
      subst hv1 hv2 hv3
      have z5 := s_kept hHeld k5
      go_wp2_with fail
      refine hK.out _ _ ?_ (fun hHeld => ?_)
      · exact z5
      clear hK K z5
      try simp only [Act.put, lz0, lz1, lz2, lz3, lz4, lz5]
      have HK2 : Hid (Kept [] wr u1) := HK.out.trans k5 (by simp)
      have B8x : Hid (_) := (k5.block _ (lt_of_heap B8.out) (by simp)).trans B8.out
      have O5 : Hid (Os u1 wr.heap.size (.slice b1 (MS (j + 1)).ino.length d1) (.slice b2 (MS (j + 1)).opn.length d2) (.slice b3 (MS (j + 1)).made.length d3) eu (MS (j + 1))) := o5.less HK.out.size
      clear o5 k5 HK B8
      refine tkA 6 rfl ?_
      refine tkA 7 rfl ?_
      refine tkA 8 rfl ?_
      have HK : Hid (_) := HK2.out
      clear HK2
      have B8 : Hid (_) := B8x.out
      clear B8x
      refine wpAnyH_ready (rs := [9]) (by kernel_rfl) (by simp) ?_
      refine AllReadyH.cons rfl (fun K hK => ?_) AllReadyH.nil
      go_simp
      refine hK.out _ _ ?_ (fun hHeld => ?_)
      · exact s_kept hHeld ((Kept.refl _ _).alloc _)
      clear hK K
      try simp only [Act.put, lz0, lz1, lz2, lz3, lz4, lz5]
      obtain ⟨ux857, Y7, HY, HKY, B7⟩ := boxY u1 #[.slice none 0 0, .slice none 0 0, .slice none 0 0] 27
      rw [HY.out.1] at hHeld
      rw [HY.out.1, HY.out.2]
      have M7 : Hid (wr.heap.size ≤ Y7) := by have h1 := HK.out.size; have h2 := HY.out.2; show _ ≤ _; omega
      have HK2 : Hid (_) := HK.out.trans HKY.out (by simp)
      have B8x : Hid (_) := (HKY.out.block _ (lt_of_heap B8.out) (by simp)).trans B8.out
      have O5x : Hid (_) := O5.out.kept HKY.out
      clear HK HY HKY B8 O5
      have HK : Hid (_) := HK2.out
      clear HK2
      have B8 : Hid (_) := B8x.out
      clear B8x
      have O5 : Hid (_) := O5x.out
      clear O5x
      have O : Hid (Os ux857 wr.heap.size (.slice b1 (MS (j + 1)).ino.length d1) (.slice b2 (MS (j + 1)).opn.length d2) (.slice b3 (MS (j + 1)).made.length d3) eu (MS (j + 1)) ∧ Off [Y7] (.slice b1 (MS (j + 1)).ino.length d1) (.slice b2 (MS (j + 1)).opn.length d2) (.slice b3 (MS (j + 1)).made.length d3) eu ∧ Off [Y8] (.slice b1 (MS (j + 1)).ino.length d1) (.slice b2 (MS (j + 1)).opn.length d2) (.slice b3 (MS (j + 1)).made.length d3) eu) := ⟨O5.out, off_type O5.out B7.out (by decide), off_type O5.out B8.out (by decide)⟩
      have N78 : Hid (Y7 ≠ Y8) := fun e => by have h1 := B7.out; rw [e, B8.out] at h1; simp at h1
      have L7 : Hid (wr.heap.size ≤ Y7) := M7.out
      have L8 : Hid (wr.heap.size ≤ Y8) := M8.out
      have N7 : Hid (X ≠ Y7 ∧ X + 1 ≠ Y7) := by have h1 := lt_of_heap HJ.out.2; have h2 := L7.out; exact ⟨by omega, by omega⟩
      have N8 : Hid (X ≠ Y8 ∧ X + 1 ≠ Y8) := by have h1 := lt_of_heap HJ.out.2; have h2 := L8.out; exact ⟨by omega, by omega⟩
      obtain ⟨g0, g1, g2, s0, s1, s2⟩ := zs3 B7.out
      refine wpAnyH_ready (rs := [11]) (by kernel_rfl) (by simp) ?_
      refine AllReadyH.cons rfl (fun K hK => ?_) AllReadyH.nil
      go_simp
      refine hK.out _ _ ?_ (fun hHeld => ?_)
      · exact s_off hHeld (otherZ N7.out.1) (otherZ N7.out.2)
      clear hK K
      try simp only [Act.put, lz0, lz1, lz2, lz3, lz4, lz5]
      obtain ⟨x, hx⟩ : ∃ x, laidZ ux857 Y7 (.slice b1 (MS (j + 1)).ino.length d1) (.slice b2 (MS (j + 1)).opn.length d2) (.slice b3 (MS (j + 1)).made.length d3) = x := ⟨_, rfl⟩
      have C7 : Hid (_) := blockZ B7.out (.slice b1 (MS (j + 1)).ino.length d1) (.slice b2 (MS (j + 1)).opn.length d2) (.slice b3 (MS (j + 1)).made.length d3)
      have C8 : Hid (_) := (otherZ (w := ux857) (R := Y7) (a := .slice b1 (MS (j + 1)).ino.length d1) (b := .slice b2 (MS (j + 1)).opn.length d2) (c := .slice b3 (MS (j + 1)).made.length d3) N78.out.symm).trans B8.out
      have Kx : Hid (_) := keptZ HK.out L7.out (.slice b1 (MS (j + 1)).ino.length d1) (.slice b2 (MS (j + 1)).opn.length d2) (.slice b3 (MS (j + 1)).made.length d3)
      have Ox : Hid (_) := O.out.1.keep (kept3Z ux857 Y7 (.slice b1 (MS (j + 1)).ino.length d1) (.slice b2 (MS (j + 1)).opn.length d2) (.slice b3 (MS (j + 1)).made.length d3)) O.out.2.1
      rw [hx] at C7 C8 Kx Ox
      unfold Go.Proofs.YtffncojcnbhblaaGreatDoor.laidZ at hx
      rw [hx] at hHeld ⊢
      clear hx g0 g1 g2 s0 s1 s2
      obtain ⟨g0, g1, g2, g3, g4, g5, s0, s1, s2, s3, s4, s5⟩ := rs6 C8.out
      refine wpAnyH_ready (rs := [12]) (by kernel_rfl) (by simp) ?_
      refine AllReadyH.cons rfl (fun K hK => ?_) AllReadyH.nil
      go_simp
      refine hK.out _ _ ?_ (fun hHeld => ?_)
      · exact s_off hHeld (otherY N8.out.1) (otherY N8.out.2)
      clear hK K
      try simp only [Act.put, lz0, lz1, lz2, lz3, lz4, lz5]
      obtain ⟨y, hy⟩ : ∃ y, laidY x Y8 (.int .i64 0) (.int .i64 0) (.int .i64 m) (.bool false) (.string ⟨#[]⟩) (.slice none 0 0) = y := ⟨_, rfl⟩
      have D7 : Hid (_) := (otherY (w := x) (R := Y8) (a := .int .i64 0) (b := .int .i64 0) (c := .int .i64 m) (d := .bool false) (e := .string ⟨#[]⟩) (f := .slice none 0 0) N78.out).trans C7.out
      have Ky : Hid (_) := keptY Kx.out L8.out (.int .i64 0) (.int .i64 0) (.int .i64 m) (.bool false) (.string ⟨#[]⟩) (.slice none 0 0)
      have Oy : Hid (_) := Ox.out.keep (kept6Y x Y8 (.int .i64 0) (.int .i64 0) (.int .i64 m) (.bool false) (.string ⟨#[]⟩) (.slice none 0 0)) O.out.2.2
      rw [hy] at D7 Ky Oy
      unfold Go.Proofs.YtffncojcnbhblaaGreatDoor.laidY at hy
      rw [hy] at hHeld ⊢
      clear hy hHeld g0 g1 g2 g3 g4 g5 s0 s1 s2 s3 s4 s5
      refine wpAnyH_done (by kernel_rfl) ?_ _
      go_wp2_with fail
      go_meet
      case rel => exact ⟨Y7, Y8, b1, b2, b3, d1, d2, d3, eu, rfl, rfl, D7.out, Oy.out, Ky.out⟩
     ·
      go_simp
      refine hK.out _ _ ?_ (fun hHeld => ?_)
      · exact s_kept hHeld ((Kept.refl _ _).alloc _)
      clear hK K
      try simp only [Act.put, lz0, lz1, lz2, lz3, lz4, lz5]
      obtain ⟨ux87, Y7, HY, HKY, B7⟩ := boxY ux8 #[.slice none 0 0, .slice none 0 0, .slice none 0 0] 27
      rw [HY.out.1] at hHeld
      rw [HY.out.1, HY.out.2]
      have M7 : Hid (wr.heap.size ≤ Y7) := by have h1 := HK.out.size; have h2 := HY.out.2; show _ ≤ _; omega
      have HK2 : Hid (_) := HK.out.trans HKY.out (by simp)
      have B8x : Hid (_) := (HKY.out.block _ (lt_of_heap B8.out) (by simp)).trans B8.out
      clear HK HY HKY B8
      have HK : Hid (_) := HK2.out
      clear HK2
      have B8 : Hid (_) := B8x.out
      clear B8x
      refine wpAnyH_ready (rs := [5]) (by kernel_rfl) (by simp) ?_
      refine AllReadyH.cons rfl (fun K hK => ?_) AllReadyH.nil
      go_simp
      refine (HDc.out _ HK.out).mono ?_
      rintro e u1 ⟨v1, v2, v3, eu, rfl, o5, k5⟩
      obtain ⟨b1, d1, hv1, -⟩ := row_form o5.ino
      obtain ⟨b2, d2, hv2, -⟩ := row_form o5.opn
      obtain ⟨b3, d3, hv3, -⟩ := row_form o5.mad
      subst hv1 hv2 hv3
      have z5 := s_kept hHeld k5
      go_wp2_with fail
      refine hK.out _ _ ?_ (fun hHeld => ?_)
      · exact z5
      clear hK K z5
      try simp only [Act.put, lz0, lz1, lz2, lz3, lz4, lz5]
      have HK2 : Hid (Kept [] wr u1) := HK.out.trans k5 (by simp)
      have B7x : Hid (_) := (k5.block _ (lt_of_heap B7.out) (by simp)).trans B7.out
      have B8x : Hid (_) := (k5.block _ (lt_of_heap B8.out) (by simp)).trans B8.out
      have O5 : Hid (Os u1 wr.heap.size (.slice b1 (MS (j + 1)).ino.length d1) (.slice b2 (MS (j + 1)).opn.length d2) (.slice b3 (MS (j + 1)).made.length d3) eu (MS (j + 1))) := o5.less HK.out.size
      clear o5 k5 HK B7 B8
      refine tkA 6 rfl ?_
      refine tkA 7 rfl ?_
      refine tkA 8 rfl ?_
      have HK : Hid (_) := HK2.out
      clear HK2
      have B7 : Hid (_) := B7x.out
      clear B7x
      have B8 : Hid (_) := B8x.out
      clear B8x
      have O : Hid (Os u1 wr.heap.size (.slice b1 (MS (j + 1)).ino.length d1) (.slice b2 (MS (j + 1)).opn.length d2) (.slice b3 (MS (j + 1)).made.length d3) eu (MS (j + 1)) ∧ Off [Y7] (.slice b1 (MS (j + 1)).ino.length d1) (.slice b2 (MS (j + 1)).opn.length d2) (.slice b3 (MS (j + 1)).made.length d3) eu ∧ Off [Y8] (.slice b1 (MS (j + 1)).ino.length d1) (.slice b2 (MS (j + 1)).opn.length d2) (.slice b3 (MS (j + 1)).made.length d3) eu) := ⟨O5.out, off_type O5.out B7.out (by decide), off_type O5.out B8.out (by decide)⟩
      have N78 : Hid (Y7 ≠ Y8) := fun e => by have h1 := B7.out; rw [e, B8.out] at h1; simp at h1
      have L7 : Hid (wr.heap.size ≤ Y7) := M7.out
      have L8 : Hid (wr.heap.size ≤ Y8) := M8.out
      have N7 : Hid (X ≠ Y7 ∧ X + 1 ≠ Y7) := by have h1 := lt_of_heap HJ.out.2; have h2 := L7.out; exact ⟨by omega, by omega⟩
      have N8 : Hid (X ≠ Y8 ∧ X + 1 ≠ Y8) := by have h1 := lt_of_heap HJ.out.2; have h2 := L8.out; exact ⟨by omega, by omega⟩
      obtain ⟨g0, g1, g2, s0, s1, s2⟩ := zs3 B7.out
      refine wpAnyH_ready (rs := [11]) (by kernel_rfl) (by simp) ?_
      refine AllReadyH.cons rfl (fun K hK => ?_) AllReadyH.nil
      go_simp
      refine hK.out _ _ ?_ (fun hHeld => ?_)
      · exact s_off hHeld (otherZ N7.out.1) (otherZ N7.out.2)
      clear hK K
      try simp only [Act.put, lz0, lz1, lz2, lz3, lz4, lz5]
      obtain ⟨x, hx⟩ : ∃ x, laidZ u1 Y7 (.slice b1 (MS (j + 1)).ino.length d1) (.slice b2 (MS (j + 1)).opn.length d2) (.slice b3 (MS (j + 1)).made.length d3) = x := ⟨_, rfl⟩
      have C7 : Hid (_) := blockZ B7.out (.slice b1 (MS (j + 1)).ino.length d1) (.slice b2 (MS (j + 1)).opn.length d2) (.slice b3 (MS (j + 1)).made.length d3)
      have C8 : Hid (_) := (otherZ (w := u1) (R := Y7) (a := .slice b1 (MS (j + 1)).ino.length d1) (b := .slice b2 (MS (j + 1)).opn.length d2) (c := .slice b3 (MS (j + 1)).made.length d3) N78.out.symm).trans B8.out
      have Kx : Hid (_) := keptZ HK.out L7.out (.slice b1 (MS (j + 1)).ino.length d1) (.slice b2 (MS (j + 1)).opn.length d2) (.slice b3 (MS (j + 1)).made.length d3)
      have Ox : Hid (_) := O.out.1.keep (kept3Z u1 Y7 (.slice b1 (MS (j + 1)).ino.length d1) (.slice b2 (MS (j + 1)).opn.length d2) (.slice b3 (MS (j + 1)).made.length d3)) O.out.2.1
      rw [hx] at C7 C8 Kx Ox
      unfold Go.Proofs.YtffncojcnbhblaaGreatDoor.laidZ at hx
      rw [hx] at hHeld ⊢
      clear hx g0 g1 g2 s0 s1 s2
      obtain ⟨g0, g1, g2, g3, g4, g5, s0, s1, s2, s3, s4, s5⟩ := rs6 C8.out
      refine wpAnyH_ready (rs := [12]) (by kernel_rfl) (by simp) ?_
      refine AllReadyH.cons rfl (fun K hK => ?_) AllReadyH.nil
      go_simp
      refine hK.out _ _ ?_ (fun hHeld => ?_)
      · exact s_off hHeld (otherY N8.out.1) (otherY N8.out.2)
      clear hK K
      try simp only [Act.put, lz0, lz1, lz2, lz3, lz4, lz5]
      obtain ⟨y, hy⟩ : ∃ y, laidY x Y8 (.int .i64 0) (.int .i64 0) (.int .i64 m) (.bool false) (.string ⟨#[]⟩) (.slice none 0 0) = y := ⟨_, rfl⟩
      have D7 : Hid (_) := (otherY (w := x) (R := Y8) (a := .int .i64 0) (b := .int .i64 0) (c := .int .i64 m) (d := .bool false) (e := .string ⟨#[]⟩) (f := .slice none 0 0) N78.out).trans C7.out
      have Ky : Hid (_) := keptY Kx.out L8.out (.int .i64 0) (.int .i64 0) (.int .i64 m) (.bool false) (.string ⟨#[]⟩) (.slice none 0 0)
      have Oy : Hid (_) := Ox.out.keep (kept6Y x Y8 (.int .i64 0) (.int .i64 0) (.int .i64 m) (.bool false) (.string ⟨#[]⟩) (.slice none 0 0)) O.out.2.2
      rw [hy] at D7 Ky Oy
      unfold Go.Proofs.YtffncojcnbhblaaGreatDoor.laidY at hy
      rw [hy] at hHeld ⊢
      clear hy hHeld g0 g1 g2 g3 g4 g5 s0 s1 s2 s3 s4 s5
      refine wpAnyH_done (by kernel_rfl) ?_ _
      go_wp2_with fail
      go_meet
      case rel => exact ⟨Y7, Y8, b1, b2, b3, d1, d2, d3, eu, rfl, rfl, D7.out, Oy.out, Ky.out⟩
   case rest =>
    obtain ⟨Y, Y8, b1, b2, b3, d1, d2, d3, eu, rfl, rfl, HE⟩ := hcut
    have HC : Hid (_) := HJ.out.1.kept HE.out.2.2
    have HC2 : Hid (_) := HC.out.putZ (HE.out.2.1.less HJ.out.1.k.size)
    have HM2 : Hid (_) := (otherZ (w := wc) (R := X) (Z := X + 1) (a := .slice b1 (MS (j + 1)).ino.length d1) (b := .slice b2 (MS (j + 1)).opn.length d2) (c := .slice b3 (MS (j + 1)).made.length d3) (by omega)).trans ((HE.out.2.2.block _ (lt_of_heap HJ.out.2) (by simp)).trans HJ.out.2)
    obtain ⟨x0, x1, x2⟩ := cz3 HE.out.1
    obtain ⟨y0, y1, y2⟩ := cz3 HC.out.box
    obtain ⟨z0, z1, z2⟩ := fz3 HC.out.box
    obtain ⟨W5, hW5⟩ : ∃ W5, laidZ wc X (.slice b1 (MS (j + 1)).ino.length d1) (.slice b2 (MS (j + 1)).opn.length d2) (.slice b3 (MS (j + 1)).made.length d3) = W5 := ⟨_, rfl⟩
    rw [hW5] at HC2 HM2
    have hj1 : ((j + 1 : Nat) : Int) = (j : Int) + 1 := by omega
    unfold Go.Proofs.YtffncojcnbhblaaGreatDoor.laidZ at hW5
    have HW5 : Hid (_) := hW5
    clear hW5 HS HDc HKw
    go_upto_region 5 with fail
    rw [HW5.out]
    clear x0 x1 x2 y0 y1 y2 z0 z1 z2 HW5
    go_wp2_with fail
    go_roundw
    case rel => exact ⟨j + 1, _, _, _, _, by rw [hj1], by omega, HC2.out, HM2.out⟩
    case measure => simp [intOf]; omega
  ·
   have hj7 : j = 7 := by omega
   subst hj7
   have hb : wr.heap[R]? = some (.cells #[.slice none 0 0, .slice none 0 0, .slice none 0 0] 27 (0, 0)) := (HJ.out.1.k.block _ (lt_of_heap HRb.out) (by simp)).trans HRb.out
   obtain ⟨y0, y1, y2⟩ := cz3 HJ.out.1.box
   obtain ⟨x0, x1, x2⟩ := cz3 hb
   obtain ⟨z0, z1, z2⟩ := fz3 hb
   have hR : w.heap.size ≤ R ∧ R < W1.heap.size := ⟨Nat.le_of_eq HR.out.2, lt_of_heap HRb.out⟩
   have h9 := blockZ hb (.slice a1 (MS 7).ino.length c1) (.slice a2 (MS 7).opn.length c2) (.slice a3 (MS 7).made.length c3)
   have HE : Hid (Os (laidZ wr R (.slice a1 (MS 7).ino.length c1) (.slice a2 (MS 7).opn.length c2) (.slice a3 (MS 7).made.length c3)) w.heap.size (.slice a1 (MS 7).ino.length c1) (.slice a2 (MS 7).opn.length c2) (.slice a3 (MS 7).made.length c3) ev (MS 7) ∧ Kept [] w (laidZ wr R (.slice a1 (MS 7).ino.length c1) (.slice a2 (MS 7).opn.length c2) (.slice a3 (MS 7).made.length c3))) :=
    ⟨(HJ.out.1.os.laidZ hR.2 _ _ _).less HKR.out.size, keptZ (HKR.out.trans HJ.out.1.k (by simp)) hR.1 _ _ _⟩
   obtain ⟨W5, hW5⟩ : ∃ W5, laidZ wr R (.slice a1 (MS 7).ino.length c1) (.slice a2 (MS 7).opn.length c2) (.slice a3 (MS 7).made.length c3) = W5 := ⟨_, rfl⟩
   rw [hW5] at HE h9
   unfold Go.Proofs.YtffncojcnbhblaaGreatDoor.laidZ at hW5
   have HW5 : Hid (_) := hW5
   clear hW5 hb hR
   go_wp2_with fail
   (try simp only [Exit.inBlock, Exit.then])
   rw [HW5.out]
   refine bodyPost_ret (results_cell_row rfl _ _ R 27 #[.slice a1 (MS 7).ino.length c1, .slice a2 (MS 7).opn.length c2, .slice a3 (MS 7).made.length c3] (0, 0) _ rfl h9 Tryz.underlying27 rfl (by kernel_rfl)) rfl ?_
   exact ⟨_, _, _, ev, rfl, HE.out.1, HE.out.2⟩
end Go.Proofs.YtffncojcnbhblaaGreatDoor
