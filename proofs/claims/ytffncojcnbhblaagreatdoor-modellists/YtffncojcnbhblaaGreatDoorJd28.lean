/-
  Joined of my texts Nw Lw Cd Qa.
-/
import Derived.Test.YtffncojcnbhblaaGreatDoorJd27
import Derived.Test.YtffncojcnbhblaaGreatDoorJd11
import Derived.Test.YtffncojcnbhblaaGreatDoorJd10
import Derived.BigQuiet
import Derived.Deep.CutRange
import Derived.Deep.CutBlock
import Derived.Test.YtffncojcnbhblaaGreatDoorTk
set_option linter.unusedVariables false
set_option linter.unusedSimpArgs false
set_option maxRecDepth 100000
set_option maxHeartbeats 8000000
namespace Go.Proofs.YtffncojcnbhblaaGreatDoor
open Go.RowKit
def newS (n : Nat) : Sta := ⟨[⟨1, true, [], ⟨#[]⟩⟩], [], List.replicate n 0⟩
theorem make_ints (n : Nat) (h : n ≤ 17592186043904) (w : World) : (Instr.makeSlice 25 (.int .i64 (n : Int)) (.int .i64 (n : Int))).run Tryz.prog w = .ok (.slice (some ⟨w.heap.size, 0, none⟩) n n) (w.alloc (.cells ((List.replicate n (0 : Int)).map (Value.int .i64)).toArray 3)) := by
 obtain ⟨i0, hi, hx⟩ : ∃ i0, Tryz.prog.info? 3 = some i0 ∧ (i0.zero, i0.size, i0.bytes) = (some (Value.int .i64 0), 1, 8) := by
  cases hi : Tryz.prog.info? 3 with
  | none => have := info3; rw [hi] at this; cases this
  | some i0 => have := info3; rw [hi] at this; exact ⟨i0, rfl, Option.some.inj this⟩
 obtain ⟨hz0, hz1, hz2⟩ : i0.zero = some (Value.int .i64 0) ∧ i0.size = 1 ∧ i0.bytes = 8 := by simpa using hx
 have := run_make (P := Tryz.prog) w 25 3 i0 (.int .i64 0) Tryz.underlying25 hi hz0 .i64 .i64 n n (by omega) (by omega) (by rw [hz2]; omega) (by omega)
 rw [this]
 have e : madeCells (Value.int .i64 0).cells ((n : Int).toNat * i0.size) = ((List.replicate n (0 : Int)).map (Value.int .i64)).toArray := by
  apply Array.ext'
  rw [hz1]
  simp [toList_madeCells_one, Value.cells]
 rw [e]
 simp
theorem new_os {w : World} (n : Nat) (h : n ≤ 8) (X Y : Nat) (hX : w.heap.size ≤ X) (hXY : X ≠ Y) (hY : w.heap.size ≤ Y) {W : World} (h1 : W.heap[X]? = some (.cells #[.int .i64 1, .bool true, .slice none 0 0, .string ⟨#[]⟩] 62 (0, 0))) (h2 : W.heap[Y]? = some (.cells ((List.replicate n (0 : Int)).map (Value.int .i64)).toArray 3 (0, 0))) (hn : 1 ≤ n) :
  Os W w.heap.size (.slice (some ⟨X, 0, none⟩) 1 1) (.slice none 0 0) (.slice (some ⟨Y, 0, none⟩) n n) [.slice none 0 0] (newS n) := by
 have nilA : ∀ (u : Value), Ap u (.slice none 0 0) := fun u b _ e => by cases e
 refine ⟨⟨rfl, .inr ⟨X, 1, _, rfl, hX, h1, Nat.le_refl _, by unfold maxLen; omega, rfl, rfl⟩⟩, rfl, ?_, World.ownsRow_nil _ _ _ _, ⟨by simp [newS], .inr ⟨Y, n, _, by simp [newS], hY, h2, by simp [newS], by unfold maxLen; omega, by simp, by simp [newS]⟩⟩, nilA _, fun b hb hc => ?_, (nilA _).symm, ?_, by simp⟩
 ·
  intro i hi hv
  have hi2 : i < 1 := hi
  obtain rfl : i = 0 := by omega
  exact World.ownsRow_nil _ _ _ _
 ·
  have e1 : b = X := by simpa [Value.ownBlock] using hb.symm
  have e2 : b = Y := by simpa [Value.ownBlock] using hc.symm
  omega
 ·
  intro v hv
  rw [List.mem_singleton] at hv
  subst hv
  exact ⟨nilA _, nilA _, nilA _⟩
theorem new_bd {n : Nat} (h : n ≤ 8) : Bd (newS n) := by
 refine ⟨by simp [newS], by simp [newS], by simp [newS]; omega, ?_, ?_, ?_, ?_⟩ <;> simp [newS] <;> decide
theorem p_New_bad {w : World} {z : Int} (hz : z < 1 ∨ 8 < z) :
  Calls Tryz.prog 14 #[.int .i64 z] w fun e w' => e = .returned (.tuple #[.agg #[.slice none 0 0, .slice none 0 0, .slice none 0 0], .int .i64 1300]) ∧ Kept [] w w' := by
 obtain ⟨W1, X, HWX, HKX, HBX⟩ := boxR w #[.slice none 0 0, .slice none 0 0, .slice none 0 0] 27
 have hb := HBX.out
 obtain ⟨g0, g1, g2⟩ := cz3 hb
 obtain ⟨z0, z1, z2⟩ := fz3 hb
 have HE : Hid ((laidS W1 X (.slice none 0 0) (.slice none 0 0) (.slice none 0 0)).heap[X]? = some (.cells #[.slice none 0 0, .slice none 0 0, .slice none 0 0] 27 (0, 0)) ∧ Kept [] w (laidS W1 X (.slice none 0 0) (.slice none 0 0) (.slice none 0 0))) := ⟨block_sta hb _ _ _, kept_sta HKX.out (Nat.le_of_eq HWX.out.2) _ _ _⟩
 clear hb
 by_cases h1 : z < 1
 ·
  have t1 : decide (z < 1) = true := decide_eq_true h1
  clear hz
  go_enter Tryz.func14, Tryz.ntmps14
  go_upto_region 1 with fail
  rw [HWX.out.1, HWX.out.2]
  go_wp2_with fail
  (try simp only [Exit.inBlock, Exit.then])
  refine bodyPost_ret (results_ct rfl _ _ X 27 #[.slice none 0 0, .slice none 0 0, .slice none 0 0] (0, 0) _ (.int .i64 1300) rfl rfl HE.out.1 Tryz.underlying27 rfl (by kernel_rfl)) rfl ?_
  exact ⟨rfl, HE.out.2⟩
 ·
  have t1 : decide (z < 1) = false := decide_eq_false h1
  have h2 : 8 < z := by omega
  have t2 : decide (z > 8) = true := decide_eq_true h2
  have t3 : decide (8 < z) = true := decide_eq_true h2
  clear hz
  go_enter Tryz.func14, Tryz.ntmps14
  go_upto_region 1 with fail
  rw [HWX.out.1, HWX.out.2]
  go_wp2_with fail
  (try simp only [Exit.inBlock, Exit.then])
  refine bodyPost_ret (results_ct rfl _ _ X 27 #[.slice none 0 0, .slice none 0 0, .slice none 0 0] (0, 0) _ (.int .i64 1300) rfl rfl HE.out.1 Tryz.underlying27 rfl (by kernel_rfl)) rfl ?_
  exact ⟨rfl, HE.out.2⟩
def News (w : World) (n : Nat) (e : Ending) (w' : World) : Prop :=
 ∃ (u1 u2 u3 : Value) (eu : List Value), e = .returned (.tuple #[.agg #[u1, u2, u3], .int .i64 0]) ∧ Os w' w.heap.size u1 u2 u3 eu (newS n) ∧ Kept [] w w' ∧ Bd (newS n)
theorem p_New {w : World} {n : Nat} (hn : 1 ≤ n) (h8 : n ≤ 8) :
  Calls Tryz.prog 14 #[.int .i64 (n : Int)] w (News w n) := by
 obtain ⟨W1, X, HWX, HKX, HBX⟩ := boxR w #[.slice none 0 0, .slice none 0 0, .slice none 0 0] 27
 obtain ⟨W2, Y, HWY, HKY, HBY⟩ := boxR W1 #[.int .i64 1, .bool true, .slice none 0 0, .string ⟨#[]⟩] 62
 obtain ⟨W3, Z, HWZ, HKZ, HBZ⟩ := boxR W2 ((List.replicate n (0 : Int)).map (Value.int .i64)).toArray 3
 have hmk := make_ints n (by omega) W2
 rw [HWZ.out.1, HWZ.out.2] at hmk
 have hs1 : Y = X + 1 := by have e1 := HWY.out.2; have e2 := HWX.out.1; have e3 := HWX.out.2; rw [← e2] at e1; simp at e1; omega
 have hs2 : Z = X + 1 + 1 := by have e1 := HWZ.out.2; have e2 := HWY.out.1; have e3 := HWY.out.2; rw [← e2] at e1; simp at e1; omega
 have hb : W3.heap[X]? = some (.cells #[.slice none 0 0, .slice none 0 0, .slice none 0 0] 27 (0, 0)) := ((HKY.out.trans HKZ.out (by simp)).block _ (lt_of_heap HBX.out) (by simp)).trans HBX.out
 obtain ⟨g0, g1, g2⟩ := cz3 hb
 obtain ⟨z0, z1, z2⟩ := fz3 hb
 have hYb : W3.heap[Y]? = _ := (HKZ.out.block _ (lt_of_heap HBY.out) (by simp)).trans HBY.out
 have hX := HWX.out.2
 have hos := new_os (w := w) n h8 Y Z (by omega) (by omega) (by omega) hYb HBZ.out hn
 have HE : Hid ((laidS W3 X (.slice (some ⟨Y, 0, none⟩) 1 1) (.slice none 0 0) (.slice (some ⟨Z, 0, none⟩) n n)).heap[X]? = some (.cells #[.slice (some ⟨Y, 0, none⟩) 1 1, .slice none 0 0, .slice (some ⟨Z, 0, none⟩) n n] 27 (0, 0)) ∧ News w n (.returned (.tuple #[.agg #[.slice (some ⟨Y, 0, none⟩) 1 1, .slice none 0 0, .slice (some ⟨Z, 0, none⟩) n n], .int .i64 0])) (laidS W3 X (.slice (some ⟨Y, 0, none⟩) 1 1) (.slice none 0 0) (.slice (some ⟨Z, 0, none⟩) n n))) := by
  refine ⟨block_sta hb _ _ _, _, _, _, [.slice none 0 0], rfl, ?_, kept_sta ((HKX.out.trans HKY.out (by simp)).trans HKZ.out (by simp)) (by omega) _ _ _, new_bd h8⟩
  refine hos.keep (F := [X]) ?_ ?_
  · exact (((Kept.refl [X] W3).setCell (Or.inl (by simp)) _).setCell (Or.inl (by simp)) _).setCell (Or.inl (by simp)) _
  ·
   refine off_of ⟨fun e => ?_, (fun e => by cases e), fun e => ?_, fun v hv e => ?_⟩
   ·
    have : Y = X := by simpa [Value.ownBlock] using e
    omega
   ·
    have : Z = X := by simpa [Value.ownBlock] using e
    omega
   ·
    rw [List.mem_singleton] at hv
    subst hv
    cases e
 subst hs1 hs2
 have i1 : ¬ (n : Int) < 1 := by omega
 have i2 : ¬ (8 : Int) < (n : Int) := by omega
 have t1 : decide ((n : Int) < 1) = false := decide_eq_false i1
 have t2 : decide ((n : Int) > 8) = false := decide_eq_false i2
 have t3 : decide (8 < (n : Int)) = false := decide_eq_false i2
 have HW1 : Hid (_) := HWX.out
 have HW2 : Hid (_) := HWY.out
 clear hb hYb hos hX HWX HWY HWZ
 go_enter Tryz.func14, Tryz.ntmps14
 go_upto_region 1 with fail
 rw [HW1.out.1, HW1.out.2]
 have hal := HW2.out.1
 have hsz := HW2.out.2
 go_wp2_with fail
 (try simp only [Exit.inBlock, Exit.then])
 refine bodyPost_ret (results_ct rfl _ _ X 27 #[.slice (some ⟨X + 1, 0, none⟩) 1 1, .slice none 0 0, .slice (some ⟨X + 1 + 1, 0, none⟩) n n] (0, 0) _ (.int .i64 0) rfl rfl HE.out.1 Tryz.underlying27 rfl (by kernel_rfl)) rfl ?_
 exact HE.out.2
theorem l_Find {w : World} {H : Nat} {v1 v2 v3 : Value} {ev : List Value} {S : Sta} (h : Os w H v1 v2 v3 ev S) (hb : Bd S) (hT : Tab w) (s : ByteArray) {a b : Int} (hx : findR S.ino s = (a, b)) :
  Calls Tryz.prog 16 #[.agg #[v1, v2, v3], .string s] w fun e w' => e = .returned (.tuple #[.int .i64 a, .int .i64 b]) ∧ Kept [] w w' := by
 obtain ⟨p, e1, e2, e3, hs, -⟩ := h.sv hb
 have := p_find hs hT s
 unfold sval at this
 rw [← e1, ← e2, ← e3, hx] at this
 exact this
theorem l_Links {w : World} {H : Nat} {v1 v2 v3 : Value} {ev : List Value} {S : Sta} (h : Os w H v1 v2 v3 ev S) (hb : Bd S) (hn : S.ino.length ≤ 60000) (num : Int) {n : Nat} (hx : linksR S.ino num = n) :
  Calls Tryz.prog 18 #[.agg #[v1, v2, v3], .int .i64 num] w fun e w' => e = .returned (.int .i64 (n : Int)) ∧ Kept [] w w' := by
 obtain ⟨p, e1, e2, e3, hs, -⟩ := h.sv hb
 have := p_links hs num hn
 unfold sval at this
 rw [← e1, ← e2, ← e3, hx] at this
 exact this
theorem l_May {w : World} {H : Nat} {v1 v2 v3 : Value} {ev : List Value} {S : Sta} (h : Os w H v1 v2 v3 ev S) (hb : Bd S) (hT : Tab w) {b : Bool} (hx : mayB S = b) :
  Calls Tryz.prog 19 #[.agg #[v1, v2, v3]] w fun e w' => e = .returned (.bool b) ∧ Kept [] w w' := by
 obtain ⟨p, e1, e2, e3, hs, -⟩ := h.sv hb
 have := p_may hs hT (fun x hx => by have := hb.d1 x hx; omega)
 unfold sval at this
 rw [← e1, ← e2, ← e3, hx] at this
 exact this
theorem r_New {w : World} {n : Nat} (hn : 1 ≤ n) (h8 : n ≤ 8) :
  Calls Tryz.prog 20 #[.int .i64 (n : Int)] w (News w n) := by
 obtain ⟨W1, X, HWX, HKX, HBX⟩ := boxR w #[.slice none 0 0, .slice none 0 0, .slice none 0 0] 27
 obtain ⟨W2, Y, HWY, HKY, HBY⟩ := boxR W1 #[.int .i64 1, .bool true, .slice none 0 0, .string ⟨#[]⟩] 62
 obtain ⟨W3, Z, HWZ, HKZ, HBZ⟩ := boxR W2 ((List.replicate n (0 : Int)).map (Value.int .i64)).toArray 3
 have hmk := make_ints n (by omega) W2
 rw [HWZ.out.1, HWZ.out.2] at hmk
 have hs1 : Y = X + 1 := by have e1 := HWY.out.2; have e2 := HWX.out.1; have e3 := HWX.out.2; rw [← e2] at e1; simp at e1; omega
 have hs2 : Z = X + 1 + 1 := by have e1 := HWZ.out.2; have e2 := HWY.out.1; have e3 := HWY.out.2; rw [← e2] at e1; simp at e1; omega
 have hb : W3.heap[X]? = some (.cells #[.slice none 0 0, .slice none 0 0, .slice none 0 0] 27 (0, 0)) := ((HKY.out.trans HKZ.out (by simp)).block _ (lt_of_heap HBX.out) (by simp)).trans HBX.out
 obtain ⟨g0, g1, g2⟩ := cz3 hb
 obtain ⟨z0, z1, z2⟩ := fz3 hb
 have hYb : W3.heap[Y]? = _ := (HKZ.out.block _ (lt_of_heap HBY.out) (by simp)).trans HBY.out
 have hX := HWX.out.2
 have hos := new_os (w := w) n h8 Y Z (by omega) (by omega) (by omega) hYb HBZ.out hn
 have HE : Hid ((laidS W3 X (.slice (some ⟨Y, 0, none⟩) 1 1) (.slice none 0 0) (.slice (some ⟨Z, 0, none⟩) n n)).heap[X]? = some (.cells #[.slice (some ⟨Y, 0, none⟩) 1 1, .slice none 0 0, .slice (some ⟨Z, 0, none⟩) n n] 27 (0, 0)) ∧ News w n (.returned (.tuple #[.agg #[.slice (some ⟨Y, 0, none⟩) 1 1, .slice none 0 0, .slice (some ⟨Z, 0, none⟩) n n], .int .i64 0])) (laidS W3 X (.slice (some ⟨Y, 0, none⟩) 1 1) (.slice none 0 0) (.slice (some ⟨Z, 0, none⟩) n n))) := by
  refine ⟨block_sta hb _ _ _, _, _, _, [.slice none 0 0], rfl, ?_, kept_sta ((HKX.out.trans HKY.out (by simp)).trans HKZ.out (by simp)) (by omega) _ _ _, new_bd h8⟩
  refine hos.keep (F := [X]) ?_ ?_
  · exact (((Kept.refl [X] W3).setCell (Or.inl (by simp)) _).setCell (Or.inl (by simp)) _).setCell (Or.inl (by simp)) _
  ·
   refine off_of ⟨fun e => ?_, (fun e => by cases e), fun e => ?_, fun v hv e => ?_⟩
   ·
    have : Y = X := by simpa [Value.ownBlock] using e
    omega
   ·
    have : Z = X := by simpa [Value.ownBlock] using e
    omega
   ·
    rw [List.mem_singleton] at hv
    subst hv
    cases e
 subst hs1 hs2
 have i1 : ¬ (n : Int) < 1 := by omega
 have i2 : ¬ (8 : Int) < (n : Int) := by omega
 have t1 : decide ((n : Int) < 1) = false := decide_eq_false i1
 have t2 : decide ((n : Int) > 8) = false := decide_eq_false i2
 have t3 : decide (8 < (n : Int)) = false := decide_eq_false i2
 have HW1 : Hid (_) := HWX.out
 have HW2 : Hid (_) := HWY.out
 clear hb hYb hos hX HWX HWY HWZ
 go_enter Tryz.func20, Tryz.ntmps20
 go_upto_region 1 with fail
 rw [HW1.out.1, HW1.out.2]
 have hal := HW2.out.1
 have hsz := HW2.out.2
 go_wp2_with fail
 (try simp only [Exit.inBlock, Exit.then])
 refine bodyPost_ret (results_ct rfl _ _ X 27 #[.slice (some ⟨X + 1, 0, none⟩) 1 1, .slice none 0 0, .slice (some ⟨X + 1 + 1, 0, none⟩) n n] (0, 0) _ (.int .i64 0) rfl rfl HE.out.1 Tryz.underlying27 rfl (by kernel_rfl)) rfl ?_
 exact HE.out.2
theorem r_at {w : World} {p : Pl} {S : Sta} (h : Sv w p S) (num : Int) :
  Calls Tryz.prog 94 #[sval p S, .int .i64 num] w fun e w' => e = .returned (.int .i64 (ixI (atR S.ino num))) ∧ Kept [] w w' := by
 have hb := h.boxed
 obtain ⟨W0, hW0⟩ : ∃ W0, W0 = w.alloc (sbox p S) := ⟨_, rfl⟩
 obtain ⟨X, hX⟩ : ∃ X, w.heap.size = X := ⟨_, rfl⟩
 rw [← hW0, hX] at hb
 have HW : Hid (w.alloc (sbox p S) = W0 ∧ w.heap.size = X) := ⟨hW0.symm, hX⟩
 have HB : Hid (_) := hb
 have hn1 := h.n1
 unfold lim at hn1
 clear hW0 hX hb h
 go_enter Tryz.func94, Tryz.ntmps94
 go_wp2_with fail
 rw [HW.out.1, HW.out.2]
 clear HW
 go_loopw [5] (fun i wr => ∃ n : Nat, i = .int .i64 (n : Int) ∧ n ≤ S.ino.length ∧ wr = W0 ∧ Hid (∀ j (hj : j < S.ino.length), j < n → (S.ino[j]).num ≠ num)) (fun i _ => (S.ino.length - intOf i).toNat)
 case atStart => exact ⟨0, rfl, by omega, rfl, fun j _ hj => by omega⟩
 case round =>
  obtain ⟨n, rfl, hn, hw, HJ⟩ := hrel
  subst hw
  have x0 := HB.out.x0
  by_cases hlt : n < S.ino.length
  ·
   have i0 : (0 : Int) ≤ (n : Int) := by omega
   have i1 : (n : Int) < (S.ino.length : Int) := by omega
   obtain ⟨b, o, ae, ce, ha, h1, -⟩ := HB.out.sv.ino n hlt
   rw [ha] at x0
   by_cases he : (S.ino[n]).num = num
   ·
    have HE : Hid (atR S.ino num = some n) := at_some hlt he HJ.out
    rw [he] at h1
    clear he HJ ha
    go_wp2_with fail
    go_ret
    exact ⟨ret_int (by rw [HE.out]; rfl), HB.out.k⟩
   ·
    have HE : Hid (∀ j (hj : j < S.ino.length), j < n + 1 → (S.ino[j]).num ≠ num) := fun j hj hjn => by
     by_cases e : j = n
     · subst e; exact he
     · exact HJ.out j hj (by omega)
    have e1 : ((S.ino[n]).num == num) = false := by simpa using he
    generalize (S.ino[n]).num = z at h1 he e1
    clear HJ ha
    go_wp2_with fail
    go_roundw
    case rel => exact ⟨n + 1, by go_num, by omega, trivial, HE.out⟩
    case measure => simp [intOf]; omega
  ·
   have i1 : ¬ (n : Int) < (S.ino.length : Int) := by omega
   have HE : Hid (atR S.ino num = none) := at_none fun j hj => HJ.out j hj (by omega)
   clear HJ
   go_wp2_with fail
   go_ret
   exact ⟨ret_int (by rw [HE.out]; rfl), HB.out.k⟩
theorem r_entry {w : World} {p : Pl} {S : Sta} (h : Sv w p S) (d : Int) (s : ByteArray) :
  Calls Tryz.prog 90 #[sval p S, .int .i64 d, .string s] w fun e w' => e = .returned (.int .i64 (entryR S.ino d s)) ∧ Kept [] w w' := by
 have HN : Hid (_) := h.n4
 have hb := h.boxed
 obtain ⟨W0, hW0⟩ : ∃ W0, W0 = w.alloc (sbox p S) := ⟨_, rfl⟩
 obtain ⟨X, hX⟩ : ∃ X, w.heap.size = X := ⟨_, rfl⟩
 rw [← hW0, hX] at hb
 have HW : Hid (w.alloc (sbox p S) = W0 ∧ w.heap.size = X) := ⟨hW0.symm, hX⟩
 have HB : Hid (_) := hb
 have hn1 := h.n1
 have hn2 := h.n2
 have hn3 := h.n3
 unfold lim at hn1 hn2 hn3
 clear hW0 hX hb h
 have q0 := HB.out.x0
 have q1 := HB.out.x1
 have q2 := HB.out.x2
 go_enter Tryz.func90, Tryz.ntmps90
 go_upto_region 1 with fail
 rw [HW.out.1, HW.out.2]
 clear HW
 go_wp2_with fail
 refine (r_at HB.out.sv d).mono ?_
 rintro e w1 ⟨rfl, k1⟩
 have HB1 : Hid (_) := HB.out.kept k1
 clear HB k1 q0 q1 q2
 rcases hat : atR S.ino d with _ | m
 ·
  have HE : Hid (entryR S.ino d s = 0) := by show _ = _; unfold entryR; rw [hat]
  clear hat
  unfold ixI
  go_wp2_with fail
  go_ret
  exact ⟨ret_int HE.out.symm, HB1.out.k⟩
 ·
  obtain ⟨hm, -⟩ := at_get hat
  have HE : Hid (entryR S.ino d s = entR (S.ino[m]).ents s) := by show _ = _; unfold entryR; rw [hat]; simp [hm]
  have hlim : (S.ino[m]).ents.length ≤ lim := HN.out _ (List.getElem_mem hm)
  unfold lim at hlim
  clear hat
  obtain ⟨b, o, ae, ce, ha, h0, h1, h2, h3, h4, h5⟩ := HB1.out.sv.ino m hm
  have q0 := HB1.out.x0
  rw [ha] at q0
  have HEn : Hid (EntA w1 ae (S.ino[m]).ents) := h4
  obtain ⟨E, hE⟩ : ∃ E, (S.ino[m]).ents = E := ⟨_, rfl⟩
  rw [hE] at HE HEn h2 hlim
  have i0 : (0 : Int) ≤ (m : Int) := by omega
  have i1 : (m : Int) < (S.ino.length : Int) := by omega
  have i2 : ¬ (m : Int) < 0 := by omega
  clear h0 h1 h3 h4 h5 hE ha
  unfold ixI
  go_wp2_with fail
  go_loopw [8] (fun i wr => ∃ n : Nat, i = .int .i64 (n : Int) ∧ n ≤ E.length ∧ wr = w1 ∧ Hid (∀ j (hj : j < E.length), j < n → ((E[j]).1.toList == s.toList) = false)) (fun i _ => (E.length - intOf i).toNat)
  case atStart => exact ⟨0, rfl, by omega, rfl, fun j _ hj => by omega⟩
  case round =>
   obtain ⟨n, rfl, hn, hw, HJ⟩ := hrel
   have hw2 := hw.symm
   subst hw2
   clear hw
   by_cases hlt : n < E.length
   ·
    have j0 : (0 : Int) ≤ (n : Int) := by omega
    have j1 : (n : Int) < (E.length : Int) := by omega
    obtain ⟨b', o', hb', g1, g2⟩ := HEn.out n hlt
    subst hb'
    rcases he : ((E[n]).1.toList == s.toList) with _ | _
    ·
     have HR : Hid (∀ j (hj : j < E.length), j < n + 1 → ((E[j]).1.toList == s.toList) = false) := fun j hj hjn => by
      by_cases e : j = n
      · subst e; exact he
      · exact HJ.out j hj (by omega)
     generalize (E[n]).1 = t at g1 he
     generalize (E[n]).2 = z at g2
     have he2 : ¬ t.toList = s.toList := by simpa using he
     clear HJ
     go_wp2_with fail
     go_roundw
     case rel => exact ⟨n + 1, by go_num, by omega, trivial, HR.out⟩
     case measure => simp [intOf]; omega
    ·
     have HR : Hid (entR E s = (E[n]).2) := ent_some hlt he HJ.out
     generalize (E[n]).1 = t at g1 he
     generalize (E[n]).2 = z at g2 HR
     have he2 : t.toList = s.toList := by simpa using he
     clear HJ
     go_wp2_with fail
     go_ret
     exact ⟨ret_int (by rw [HE.out, HR.out]), HB1.out.k⟩
   ·
    have j1 : ¬ (n : Int) < (E.length : Int) := by omega
    have HR : Hid (entR E s = 0) := ent_none fun j hj => HJ.out j hj (by omega)
    clear HJ
    go_wp2_with fail
    go_ret
    exact ⟨ret_int (by rw [HE.out, HR.out]), HB1.out.k⟩
theorem r_links {w : World} {p : Pl} {S : Sta} (h : Sv w p S) (num : Int) (hs : S.ino.length ≤ 60000) :
  Calls Tryz.prog 13 #[sval p S, .int .i64 num] w fun e w' => e = .returned (.int .i64 ((linksR S.ino num : Nat) : Int)) ∧ Kept [] w w' := by
 have HN : Hid (_) := h.n4
 have hb := h.boxed
 obtain ⟨W0, hW0⟩ : ∃ W0, W0 = w.alloc (sbox p S) := ⟨_, rfl⟩
 obtain ⟨X, hX⟩ : ∃ X, w.heap.size = X := ⟨_, rfl⟩
 rw [← hW0, hX] at hb
 have HW : Hid (w.alloc (sbox p S) = W0 ∧ w.heap.size = X) := ⟨hW0.symm, hX⟩
 have HB : Hid (_) := hb
 have hn1 := h.n1
 have hn2 := h.n2
 have hn3 := h.n3
 unfold lim at hn1 hn2 hn3
 clear hW0 hX hb h
 go_enter Tryz.func13, Tryz.ntmps13
 go_wp2_with fail
 rw [HW.out.1, HW.out.2]
 clear HW
 go_loopw [5, 6] (fun u i wr => ∃ n : Nat, i = .int .i64 (n : Int) ∧ u = .int .i64 ((linksR (S.ino.take n) num : Nat) : Int) ∧ n ≤ S.ino.length ∧ wr = W0) (fun _ i _ => (S.ino.length - intOf i).toNat)
 case atStart => exact ⟨0, rfl, rfl, by omega, rfl⟩
 case round =>
  obtain ⟨n, rfl, rfl, hn, hw⟩ := hrel
  subst hw
  have x0 := HB.out.x0
  by_cases hlt : n < S.ino.length
  ·
   have i0 : (0 : Int) ≤ (n : Int) := by omega
   have i1 : (n : Int) < (S.ino.length : Int) := by omega
   obtain ⟨b, o, ae, ce, ha, h0, h1, h2, h3, h4, h5⟩ := HB.out.sv.ino n hlt
   rw [ha] at x0
   have hlim : (S.ino[n]).ents.length ≤ 140737488355328 := HN.out _ (List.getElem_mem hlt)
   have hle : linksR (S.ino.take n) num ≤ 8444249301319680000 := links_big (by rw [List.length_take]; omega) fun x hx => HN.out x (List.mem_of_mem_take hx)
   have HL : Hid (_) := links_take (num := num) hlt
   have HEn : Hid (EntA wr ae (S.ino[n]).ents) := h4
   clear h0 h3 h4 h5 ha
   obtain ⟨q, hq⟩ : ∃ q, linksR (S.ino.take n) num = q := ⟨_, rfl⟩
   rw [hq] at hle HL ⊢
   clear hq
   obtain ⟨E, hE⟩ : ∃ E, (S.ino[n]).ents = E := ⟨_, rfl⟩
   rw [hE] at h2 hlim HL HEn
   clear hE
   rcases hdir : (S.ino[n]).dir with _ | _
   ·
    rw [hdir] at h1 HL
    have HL2 : Hid (linksR (S.ino.take (n + 1)) num = q) := by show _ = _; have := HL.out; simpa using this
    clear hdir HL
    go_wp2_with fail
    go_loopw [7, 5] (fun i u wr2 => i = .int .i64 0 ∧ u = .int .i64 (q : Int) ∧ wr2 = wr) (fun _ _ _ => 0)
    case atStart => exact ⟨rfl, rfl, rfl⟩
    case round =>
     obtain ⟨rfl, rfl, hw⟩ := hrel
     have hw2 := hw.symm
     subst hw2
     clear hw
     by_cases he0 : 0 < E.length
     ·
      have j1 : (0 : Int) < (E.length : Int) := by omega
      go_wp2_with fail
      go_roundw
      case rel => exact ⟨n + 1, by go_num, by rw [HL2.out], by omega, trivial⟩
      case measure => simp [intOf]; omega
     ·
      have j1 : ¬ (0 : Int) < (E.length : Int) := by omega
      go_wp2_with fail
      go_roundw
      case rel => exact ⟨n + 1, by go_num, by rw [HL2.out], by omega, trivial⟩
      case measure => simp [intOf]; omega
   ·
    rw [hdir] at h1 HL
    have HL2 : Hid (linksR (S.ino.take (n + 1)) num = q + cnt E num) := by show _ = _; have := HL.out; simpa using this
    clear hdir HL
    go_wp2_with fail
    go_loopw [7, 5] (fun i u wr2 => ∃ k : Nat, i = .int .i64 (k : Int) ∧ u = .int .i64 ((q + cnt (E.take k) num : Nat) : Int) ∧ k ≤ E.length ∧ wr2 = wr) (fun i _ _ => (E.length - intOf i).toNat)
    case atStart => exact ⟨0, rfl, rfl, by omega, rfl⟩
    case round =>
     obtain ⟨k, rfl, rfl, hk, hw⟩ := hrel
     have hw2 := hw.symm
     subst hw2
     clear hw
     by_cases hlk : k < E.length
     ·
      have j0 : (0 : Int) ≤ (k : Int) := by omega
      have j1 : (k : Int) < (E.length : Int) := by omega
      obtain ⟨b', o', hb', g1, g2⟩ := HEn.out k hlk
      subst hb'
      have hcl := cnt_le (E.take k) num
      rw [List.length_take] at hcl
      have HC : Hid (_) := cnt_take (num := num) hlk
      obtain ⟨z, hz⟩ : ∃ z, (E[k]).2 = z := ⟨_, rfl⟩
      rw [hz] at g2 HC
      generalize (E[k]).1 = t at g1
      clear hz
      obtain ⟨c0, hc0⟩ : ∃ c0, cnt (E.take k) num = c0 := ⟨_, rfl⟩
      rw [hc0] at hcl HC ⊢
      clear hc0
      by_cases he : z = num
      ·
       have HC2 : Hid (cnt (E.take (k + 1)) num = c0 + 1) := by have := HC.out; rw [if_pos he] at this; exact this
       subst he
       clear HC
       go_wp2_with fail
       go_roundw
       case rel => exact ⟨k + 1, by go_num, by rw [HC2.out]; go_num, by omega, trivial⟩
       case measure => simp [intOf]; omega
      ·
       have HC2 : Hid (cnt (E.take (k + 1)) num = c0) := by have := HC.out; rw [if_neg he] at this; exact this
       have he2 : (z == num) = false := by simpa using he
       clear HC
       go_wp2_with fail
       go_roundw
       case rel => exact ⟨k + 1, by go_num, by rw [HC2.out], by omega, trivial⟩
       case measure => simp [intOf]; omega
     ·
      have j1 : ¬ (k : Int) < (E.length : Int) := by omega
      have HC2 : Hid (cnt (E.take k) num = cnt E num) := by show _ = _; rw [List.take_of_length_le (by omega)]
      generalize cnt (E.take k) num = c0 at *
      go_wp2_with fail
      go_roundw
      case rel => exact ⟨n + 1, by go_num, by rw [HL2.out, HC2.out], by omega, trivial⟩
      case measure => simp [intOf]; omega
  ·
   have i1 : ¬ (n : Int) < (S.ino.length : Int) := by omega
   have HL : Hid (linksR (S.ino.take n) num = linksR S.ino num) := by show _ = _; rw [List.take_of_length_le (by omega)]
   generalize linksR (S.ino.take n) num = q at *
   go_wp2_with fail
   go_ret
   exact ⟨ret_int (by rw [HL.out]), HB.out.k⟩
theorem r_fd {w : World} {p : Pl} {S : Sta} (h : Sv w p S) (c f : Int) :
  Calls Tryz.prog 95 #[sval p S, .int .i64 c, .int .i64 f] w fun e w' => e = .returned (.int .i64 (fdR S.opn c f)) ∧ Kept [] w w' := by
 have hb := h.boxed
 obtain ⟨W0, hW0⟩ : ∃ W0, W0 = w.alloc (sbox p S) := ⟨_, rfl⟩
 obtain ⟨X, hX⟩ : ∃ X, w.heap.size = X := ⟨_, rfl⟩
 rw [← hW0, hX] at hb
 have HW : Hid (w.alloc (sbox p S) = W0 ∧ w.heap.size = X) := ⟨hW0.symm, hX⟩
 have HB : Hid (_) := hb
 have hn1 := h.n1
 have hn2 := h.n2
 have hn3 := h.n3
 unfold lim at hn1 hn2 hn3
 clear hW0 hX hb h
 go_enter Tryz.func95, Tryz.ntmps95
 go_wp2_with fail
 rw [HW.out.1, HW.out.2]
 clear HW
 go_loopw [7] (fun i wr => ∃ n : Nat, i = .int .i64 (n : Int) ∧ n ≤ S.opn.length ∧ wr = W0 ∧ Hid (∀ j (hj : j < S.opn.length), j < n → ¬ ((S.opn[j]).1 = c ∧ (S.opn[j]).2.1 = f))) (fun i _ => (S.opn.length - intOf i).toNat)
 case atStart => exact ⟨0, rfl, by omega, rfl, fun j _ hj => by omega⟩
 case round =>
  obtain ⟨n, rfl, hn, hw, HJ⟩ := hrel
  subst hw
  have x1 := HB.out.x1
  by_cases hlt : n < S.opn.length
  ·
   have i0 : (0 : Int) ≤ (n : Int) := by omega
   have i1 : (n : Int) < (S.opn.length : Int) := by omega
   obtain ⟨b, o, ha, h0, h1, h2⟩ := HB.out.sv.des n hlt
   rw [ha] at x1
   clear ha
   by_cases he : (S.opn[n]).1 = c ∧ (S.opn[n]).2.1 = f
   ·
    have HR : Hid (fdR S.opn c f = (S.opn[n]).2.2) := fd_some hlt he HJ.out
    rw [he.1] at h0
    rw [he.2] at h1
    generalize (S.opn[n]).2.2 = z at h2 HR
    clear he HJ
    go_wp2_with fail
    go_ret
    exact ⟨ret_int HR.out.symm, HB.out.k⟩
   ·
    have HR : Hid (∀ j (hj : j < S.opn.length), j < n + 1 → ¬ ((S.opn[j]).1 = c ∧ (S.opn[j]).2.1 = f)) := fun j hj hjn => by
     by_cases e : j = n
     · subst e; exact he
     · exact HJ.out j hj (by omega)
    clear HJ
    obtain ⟨x, hx⟩ : ∃ x, (S.opn[n]).1 = x := ⟨_, rfl⟩
    obtain ⟨y, hy⟩ : ∃ y, (S.opn[n]).2.1 = y := ⟨_, rfl⟩
    rw [hx] at h0 he
    rw [hy] at h1 he
    generalize (S.opn[n]).2.2 = z at h2
    clear hx hy
    by_cases e1 : x = c
    ·
     have e2 : ¬ y = f := fun e2 => he ⟨e1, e2⟩
     have e3 : (y == f) = false := by simpa using e2
     subst e1
     clear he
     go_wp2_with fail
     go_roundw
     case rel => exact ⟨n + 1, by go_num, by omega, trivial, HR.out⟩
     case measure => simp [intOf]; omega
    ·
     have e3 : (x == c) = false := by simpa using e1
     clear he
     go_wp2_with fail
     go_roundw
     case rel => exact ⟨n + 1, by go_num, by omega, trivial, HR.out⟩
     case measure => simp [intOf]; omega
  ·
   have i1 : ¬ (n : Int) < (S.opn.length : Int) := by omega
   have HR : Hid (fdR S.opn c f = 0) := fd_none fun j hj => HJ.out j hj (by omega)
   clear HJ
   go_wp2_with fail
   go_ret
   exact ⟨ret_int HR.out.symm, HB.out.k⟩
def isOpenR (D : List Ds) (num : Int) : Bool := D.any fun d => d.2.2 == num
theorem r_isopen {w : World} {p : Pl} {S : Sta} (h : Sv w p S) (num : Int) :
  Calls Tryz.prog 88 #[sval p S, .int .i64 num] w fun e w' => e = .returned (.bool (isOpenR S.opn num)) ∧ Kept [] w w' := by
 have hb := h.boxed
 obtain ⟨W0, hW0⟩ : ∃ W0, W0 = w.alloc (sbox p S) := ⟨_, rfl⟩
 obtain ⟨X, hX⟩ : ∃ X, w.heap.size = X := ⟨_, rfl⟩
 rw [← hW0, hX] at hb
 have HW : Hid (w.alloc (sbox p S) = W0 ∧ w.heap.size = X) := ⟨hW0.symm, hX⟩
 have HB : Hid (_) := hb
 have hn1 := h.n1
 have hn2 := h.n2
 have hn3 := h.n3
 unfold lim at hn1 hn2 hn3
 clear hW0 hX hb h
 go_enter Tryz.func88, Tryz.ntmps88
 go_wp2_with fail
 rw [HW.out.1, HW.out.2]
 clear HW
 go_loopw [5] (fun i wr => ∃ n : Nat, i = .int .i64 (n : Int) ∧ n ≤ S.opn.length ∧ wr = W0 ∧ Hid (∀ j (hj : j < S.opn.length), j < n → (S.opn[j]).2.2 ≠ num)) (fun i _ => (S.opn.length - intOf i).toNat)
 case atStart => exact ⟨0, rfl, by omega, rfl, fun j _ hj => by omega⟩
 case round =>
  obtain ⟨n, rfl, hn, hw, HJ⟩ := hrel
  subst hw
  have x1 := HB.out.x1
  by_cases hlt : n < S.opn.length
  ·
   have i0 : (0 : Int) ≤ (n : Int) := by omega
   have i1 : (n : Int) < (S.opn.length : Int) := by omega
   obtain ⟨b, o, ha, h0, h1, h2⟩ := HB.out.sv.des n hlt
   rw [ha] at x1
   clear ha h0 h1
   by_cases he : (S.opn[n]).2.2 = num
   ·
    have HR : Hid (isOpenR S.opn num = true) := by
     show _ = _
     unfold isOpenR
     rw [List.any_eq_true]
     exact ⟨_, List.getElem_mem hlt, by simpa using he⟩
    rw [he] at h2
    clear he HJ
    go_wp2_with fail
    go_ret
    exact ⟨ret_bool HR.out.symm, HB.out.k⟩
   ·
    have HR : Hid (∀ j (hj : j < S.opn.length), j < n + 1 → (S.opn[j]).2.2 ≠ num) := fun j hj hjn => by
     by_cases e : j = n
     · subst e; exact he
     · exact HJ.out j hj (by omega)
    have e1 : ((S.opn[n]).2.2 == num) = false := by simpa using he
    generalize (S.opn[n]).2.2 = z at h2 he e1
    clear HJ
    go_wp2_with fail
    go_roundw
    case rel => exact ⟨n + 1, by go_num, by omega, trivial, HR.out⟩
    case measure => simp [intOf]; omega
  ·
   have i1 : ¬ (n : Int) < (S.opn.length : Int) := by omega
   have HR : Hid (isOpenR S.opn num = false) := by
    show _ = _
    unfold isOpenR
    rw [List.any_eq_false]
    intro x hx
    obtain ⟨j, hj, rfl⟩ := List.getElem_of_mem hx
    simpa using HJ.out j hj (by omega)
   clear HJ
   go_wp2_with fail
   go_ret
   exact ⟨ret_bool HR.out.symm, HB.out.k⟩
end Go.Proofs.YtffncojcnbhblaaGreatDoor
