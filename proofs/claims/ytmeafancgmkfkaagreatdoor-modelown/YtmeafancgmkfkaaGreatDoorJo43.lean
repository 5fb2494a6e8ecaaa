/-
  Joined of my texts Nw Lw Cd.
-/
import Derived.Test.YtmeafancgmkfkaaGreatDoorJo42
namespace Go.Proofs.YtmeafancgmkfkaaGreatDoor
open Go.RowKit
set_option linter.unusedVariables false
set_option linter.unusedSimpArgs false
def newS (n : Nat) : Sta := ⟨[⟨1, true, [], ⟨#[]⟩⟩], [], List.replicate n 0⟩
theorem make_ints (n : Nat) (h : n ≤ 17592186043904) (w : World) : (Instr.makeSlice 24 (.int .i64 (n : Int)) (.int .i64 (n : Int))).run Tryz.prog w = .ok (.slice (some ⟨w.heap.size, 0, none⟩) n n) (w.alloc (.cells ((List.replicate n (0 : Int)).map (Value.int .i64)).toArray 3)) := by
 obtain ⟨i0, hi, hx⟩ : ∃ i0, Tryz.prog.info? 3 = some i0 ∧ (i0.zero, i0.size, i0.bytes) = (some (Value.int .i64 0), 1, 8) := by
   cases hi : Tryz.prog.info? 3 with
   | none => have := info3; rw [hi] at this; cases this
   | some i0 => have := info3; rw [hi] at this; exact ⟨i0, rfl, Option.some.inj this⟩
 obtain ⟨hz0, hz1, hz2⟩ : i0.zero = some (Value.int .i64 0) ∧ i0.size = 1 ∧ i0.bytes = 8 := by simpa using hx
 have := run_make (P := Tryz.prog) w 24 3 i0 (.int .i64 0) Tryz.underlying24 hi hz0 .i64 .i64 n n (by omega) (by omega) (by rw [hz2]; omega) (by omega)
 rw [this]
 have e : madeCells (Value.int .i64 0).cells ((n : Int).toNat * i0.size) = ((List.replicate n (0 : Int)).map (Value.int .i64)).toArray := by
   apply Array.ext'
   rw [hz1]
   simp [toList_madeCells_one, Value.cells]
 rw [e]
 simp
theorem new_os {w : World} (n : Nat) (h : n ≤ 8) (X Y : Nat) (hX : w.heap.size ≤ X) (hXY : X ≠ Y) (hY : w.heap.size ≤ Y) {W : World} (h1 : W.heap[X]? = some (.cells #[.int .i64 1, .bool true, .slice none 0 0, .string ⟨#[]⟩] 64 (0, 0))) (h2 : W.heap[Y]? = some (.cells ((List.replicate n (0 : Int)).map (Value.int .i64)).toArray 3 (0, 0))) (hn : 1 ≤ n) :
   Os W w.heap.size (.slice (some ⟨X, 0, none⟩) 1 1) (.slice none 0 0) (.slice (some ⟨Y, 0, none⟩) n n) [.slice none 0 0] (newS n) := by
 have nilA : ∀ (u : Value), Ap u (.slice none 0 0) := fun u b _ e => by cases e
 refine ⟨⟨rfl, .inr ⟨X, 1, _, rfl, hX, h1, Nat.le_refl _, by unfold maxLen; omega, rfl, rfl⟩⟩, rfl, ?_, World.ownsRow_nil _ _ _ _, ⟨by simp [newS], .inr ⟨Y, n, _, by simp [newS], hY, h2, by simp [newS], by unfold maxLen; omega, by simp, by simp [newS]⟩⟩, nilA _, fun b hb hc => ?_, (nilA _).symm, ?_, by simp⟩
 · intro i hi hv
   have hi2 : i < 1 := hi
   obtain rfl : i = 0 := by omega
   exact World.ownsRow_nil _ _ _ _
 · have e1 : b = X := by simpa [Value.ownBlock] using hb.symm
   have e2 : b = Y := by simpa [Value.ownBlock] using hc.symm
   omega
 · intro v hv
   rw [List.mem_singleton] at hv
   subst hv
   exact ⟨nilA _, nilA _, nilA _⟩
theorem new_bd {n : Nat} (h : n ≤ 8) : Bd (newS n) := by
 refine ⟨by simp [newS], by simp [newS], by simp [newS]; omega, ?_, ?_, ?_, ?_⟩ <;> simp [newS] <;> decide
set_option maxRecDepth 100000 in
set_option maxHeartbeats 8000000 in
theorem p_New_bad {w : World} {z : Int} (hz : z < 1 ∨ 8 < z) :
   Calls Tryz.prog 17 #[.int .i64 z] w fun e w' => e = .returned (.tuple #[.agg #[.slice none 0 0, .slice none 0 0, .slice none 0 0], .int .i64 1300]) ∧ Kept [] w w' := by
 obtain ⟨W1, X, HWX, HKX, HBX⟩ := boxR w #[.slice none 0 0, .slice none 0 0, .slice none 0 0] 26
 have hb := HBX.out
 have z0 := frozen_of hb 0
 have g0 : W1.cell? ⟨X, 0, none⟩ = some (.slice none 0 0) := cellB hb
 have z1 := frozen_of hb 1
 have g1 : W1.cell? ⟨X, 1, none⟩ = some (.slice none 0 0) := cellB hb
 have z2 := frozen_of hb 2
 have g2 : W1.cell? ⟨X, 2, none⟩ = some (.slice none 0 0) := cellB hb
 have HE : Hid ((laidS W1 X (.slice none 0 0) (.slice none 0 0) (.slice none 0 0)).heap[X]? = some (.cells #[.slice none 0 0, .slice none 0 0, .slice none 0 0] 26 (0, 0)) ∧ Kept [] w (laidS W1 X (.slice none 0 0) (.slice none 0 0) (.slice none 0 0))) := ⟨block_sta hb _ _ _, kept_sta HKX.out (Nat.le_of_eq HWX.out.2) _ _ _⟩
 clear hb
 by_cases h1 : z < 1
 · have t1 : decide (z < 1) = true := decide_eq_true h1
   clear hz
   go_enter Tryz.func17, Tryz.ntmps17
   go_upto_region 1 with fail
   rw [HWX.out.1, HWX.out.2]
   go_wp2_with fail
   (try simp only [Exit.inBlock, Exit.then])
   refine bodyPost_ret (results_ct rfl _ _ X 26 #[.slice none 0 0, .slice none 0 0, .slice none 0 0] (0, 0) _ (.int .i64 1300) rfl rfl HE.out.1 Tryz.underlying26 rfl (by kernel_rfl)) rfl ?_
   exact ⟨rfl, HE.out.2⟩
 · have t1 : decide (z < 1) = false := decide_eq_false h1
   have h2 : 8 < z := by omega
   have t2 : decide (z > 8) = true := decide_eq_true h2
   have t3 : decide (8 < z) = true := decide_eq_true h2
   clear hz
   go_enter Tryz.func17, Tryz.ntmps17
   go_upto_region 1 with fail
   rw [HWX.out.1, HWX.out.2]
   go_wp2_with fail
   (try simp only [Exit.inBlock, Exit.then])
   refine bodyPost_ret (results_ct rfl _ _ X 26 #[.slice none 0 0, .slice none 0 0, .slice none 0 0] (0, 0) _ (.int .i64 1300) rfl rfl HE.out.1 Tryz.underlying26 rfl (by kernel_rfl)) rfl ?_
   exact ⟨rfl, HE.out.2⟩
def News (w : World) (n : Nat) (e : Ending) (w' : World) : Prop :=
 ∃ (u1 u2 u3 : Value) (eu : List Value), e = .returned (.tuple #[.agg #[u1, u2, u3], .int .i64 0]) ∧ Os w' w.heap.size u1 u2 u3 eu (newS n) ∧ Kept [] w w' ∧ Bd (newS n)
set_option maxRecDepth 100000 in
set_option maxHeartbeats 8000000 in
theorem p_New {w : World} {n : Nat} (hn : 1 ≤ n) (h8 : n ≤ 8) :
   Calls Tryz.prog 17 #[.int .i64 (n : Int)] w (News w n) := by
 obtain ⟨W1, X, HWX, HKX, HBX⟩ := boxR w #[.slice none 0 0, .slice none 0 0, .slice none 0 0] 26
 obtain ⟨W2, Y, HWY, HKY, HBY⟩ := boxR W1 #[.int .i64 1, .bool true, .slice none 0 0, .string ⟨#[]⟩] 64
 obtain ⟨W3, Z, HWZ, HKZ, HBZ⟩ := boxR W2 ((List.replicate n (0 : Int)).map (Value.int .i64)).toArray 3
 have hmk := make_ints n (by omega) W2
 rw [HWZ.out.1, HWZ.out.2] at hmk
 have hs1 : Y = X + 1 := by have e1 := HWY.out.2; have e2 := HWX.out.1; have e3 := HWX.out.2; rw [← e2] at e1; simp at e1; omega
 have hs2 : Z = X + 1 + 1 := by have e1 := HWZ.out.2; have e2 := HWY.out.1; have e3 := HWY.out.2; rw [← e2] at e1; simp at e1; omega
 have hb : W3.heap[X]? = some (.cells #[.slice none 0 0, .slice none 0 0, .slice none 0 0] 26 (0, 0)) := ((HKY.out.trans HKZ.out (by simp)).block _ (lt_of_heap HBX.out) (by simp)).trans HBX.out
 have z0 := frozen_of hb 0
 have g0 : W3.cell? ⟨X, 0, none⟩ = some (.slice none 0 0) := cellB hb
 have z1 := frozen_of hb 1
 have g1 : W3.cell? ⟨X, 1, none⟩ = some (.slice none 0 0) := cellB hb
 have z2 := frozen_of hb 2
 have g2 : W3.cell? ⟨X, 2, none⟩ = some (.slice none 0 0) := cellB hb
 have hYb : W3.heap[Y]? = _ := (HKZ.out.block _ (lt_of_heap HBY.out) (by simp)).trans HBY.out
 have hX := HWX.out.2
 have hos := new_os (w := w) n h8 Y Z (by omega) (by omega) (by omega) hYb HBZ.out hn
 have HE : Hid ((laidS W3 X (.slice (some ⟨Y, 0, none⟩) 1 1) (.slice none 0 0) (.slice (some ⟨Z, 0, none⟩) n n)).heap[X]? = some (.cells #[.slice (some ⟨Y, 0, none⟩) 1 1, .slice none 0 0, .slice (some ⟨Z, 0, none⟩) n n] 26 (0, 0)) ∧ News w n (.returned (.tuple #[.agg #[.slice (some ⟨Y, 0, none⟩) 1 1, .slice none 0 0, .slice (some ⟨Z, 0, none⟩) n n], .int .i64 0])) (laidS W3 X (.slice (some ⟨Y, 0, none⟩) 1 1) (.slice none 0 0) (.slice (some ⟨Z, 0, none⟩) n n))) := by
   refine ⟨block_sta hb _ _ _, _, _, _, [.slice none 0 0], rfl, ?_, kept_sta ((HKX.out.trans HKY.out (by simp)).trans HKZ.out (by simp)) (by omega) _ _ _, new_bd h8⟩
   refine hos.keep (F := [X]) ?_ ?_
   · exact (((Kept.refl [X] W3).setCell (Or.inl (by simp)) _).setCell (Or.inl (by simp)) _).setCell (Or.inl (by simp)) _
   · refine off_of ⟨fun e => ?_, (fun e => by cases e), fun e => ?_, fun v hv e => ?_⟩
     · have : Y = X := by simpa [Value.ownBlock] using e
       omega
     · have : Z = X := by simpa [Value.ownBlock] using e
       omega
     · rw [List.mem_singleton] at hv
       subst hv
       cases e
 subst hs1 hs2
 have i1 : ¬ (n : Int) < 1 := by omega
 have i2 : ¬ (8 : Int) < (n : Int) := by omega
 have t1 : decide ((n : Int) < 1) = false := decide_eq_false i1
 have t2 : decide ((n : Int) > 8) = false := decide_eq_false i2
 have t3 : decide (8 < (n : Int)) = false := decide_eq_false i2
 have HW1 : Hid (_) := HWX.out
 have HW2 : Hid (_) := HWY.out
 clear hb hYb hos hX HWX HWY HWZ
 go_enter Tryz.func17, Tryz.ntmps17
 go_upto_region 1 with fail
 rw [HW1.out.1, HW1.out.2]
 have hal := HW2.out.1
 have hsz := HW2.out.2
 go_wp2_with fail
 (try simp only [Exit.inBlock, Exit.then])
 refine bodyPost_ret (results_ct rfl _ _ X 26 #[.slice (some ⟨X + 1, 0, none⟩) 1 1, .slice none 0 0, .slice (some ⟨X + 1 + 1, 0, none⟩) n n] (0, 0) _ (.int .i64 0) rfl rfl HE.out.1 Tryz.underlying26 rfl (by kernel_rfl)) rfl ?_
 exact HE.out.2
end Go.Proofs.YtmeafancgmkfkaaGreatDoor

namespace Go.Proofs.YtmeafancgmkfkaaGreatDoor
open Go.RowKit
set_option linter.unusedVariables false
set_option linter.unusedSimpArgs false
theorem l_Do {w : World} {H : Nat} {v1 v2 v3 : Value} {ev : List Value} {S : Sta} (h : Os w H v1 v2 v3 ev S) (hb : Bd S) (hT : Tab w) (c : Cal) (hz : c.data.size ≤ 9223372036854775807) {x : Sta × Ans} (hx : playR S c headI = x) :
   Calls Tryz.prog 8 #[.agg #[v1, v2, v3], calV c] w (Plays w x) := by
 obtain ⟨p, e1, e2, e3, hs, -⟩ := h.sv hb
 have := p_Do hs hT hb c hz
 unfold sval at this
 rw [← e1, ← e2, ← e3, hx] at this
 exact this
theorem l_Allows {w : World} {H : Nat} {v1 v2 v3 : Value} {ev : List Value} {S : Sta} (h : Os w H v1 v2 v3 ev S) (hb : Bd S) (hT : Tab w) (c : Cal) (hz : c.data.size ≤ 9223372036854775807) (r : Ans) {zr : Option Addr} {lr cr : Nat} (hlr : lr = r.names.length) (hr : Ss w zr r.names) {x : Sta × Bool} (hx : allowsR S c r = x) :
   Calls Tryz.prog 9 #[.agg #[v1, v2, v3], calV c, ansV r (.slice zr lr cr)] w (Tells w x) := by
 obtain ⟨p, e1, e2, e3, hs, -⟩ := h.sv hb
 have := p_Allows hs hT hb c hz r (cr := cr) hlr hr
 unfold sval at this
 rw [← e1, ← e2, ← e3, hx] at this
 exact this
theorem l_Find {w : World} {H : Nat} {v1 v2 v3 : Value} {ev : List Value} {S : Sta} (h : Os w H v1 v2 v3 ev S) (hb : Bd S) (hT : Tab w) (s : ByteArray) {a b : Int} (hx : findR S.ino s = (a, b)) :
   Calls Tryz.prog 18 #[.agg #[v1, v2, v3], .string s] w fun e w' => e = .returned (.tuple #[.int .i64 a, .int .i64 b]) ∧ Kept [] w w' := by
 obtain ⟨p, e1, e2, e3, hs, -⟩ := h.sv hb
 have := p_find hs hT s
 unfold sval at this
 rw [← e1, ← e2, ← e3, hx] at this
 exact this
theorem l_Links {w : World} {H : Nat} {v1 v2 v3 : Value} {ev : List Value} {S : Sta} (h : Os w H v1 v2 v3 ev S) (hb : Bd S) (hn : S.ino.length ≤ 60000) (num : Int) {n : Nat} (hx : linksR S.ino num = n) :
   Calls Tryz.prog 20 #[.agg #[v1, v2, v3], .int .i64 num] w fun e w' => e = .returned (.int .i64 (n : Int)) ∧ Kept [] w w' := by
 obtain ⟨p, e1, e2, e3, hs, -⟩ := h.sv hb
 have := p_links hs num hn
 unfold sval at this
 rw [← e1, ← e2, ← e3, hx] at this
 exact this
theorem l_May {w : World} {H : Nat} {v1 v2 v3 : Value} {ev : List Value} {S : Sta} (h : Os w H v1 v2 v3 ev S) (hb : Bd S) (hT : Tab w) {b : Bool} (hx : mayB S = b) :
   Calls Tryz.prog 12 #[.agg #[v1, v2, v3]] w fun e w' => e = .returned (.bool b) ∧ Kept [] w w' := by
 obtain ⟨p, e1, e2, e3, hs, -⟩ := h.sv hb
 have := p_may hs hT (fun x hx => by have := hb.d1 x hx; omega)
 unfold sval at this
 rw [← e1, ← e2, ← e3, hx] at this
 exact this
end Go.Proofs.YtmeafancgmkfkaaGreatDoor

namespace Go.Proofs.YtmeafancgmkfkaaGreatDoor
open Go.RowKit
set_option linter.unusedVariables false
set_option linter.unusedSimpArgs false
end Go.Proofs.YtmeafancgmkfkaaGreatDoor
