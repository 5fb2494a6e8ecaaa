/-
  Joined of my texts Pd Al Aw2 Nw Lw Cd.
-/
import Derived.Test.YtffncojcnbhblaaGreatDoorJc26
import Derived.Test.YtffncojcnbhblaaGreatDoorJc27
import Derived.Test.YtffncojcnbhblaaGreatDoorTk
set_option linter.unusedVariables false
set_option linter.unusedSimpArgs false
set_option maxRecDepth 100000
set_option maxHeartbeats 8000000
namespace Go.Proofs.YtffncojcnbhblaaGreatDoor
open Go.RowKit
def doR (S : Sta) (c : Cal) (pick : List Int → Int) : Except Int (Sta × Ans) :=
 if c.kind = 0 then createR S c c.core.toNat false else
 if c.kind = 1 then createR S c c.core.toNat true else
 if c.kind = 2 then openR S c pick else
 if c.kind = 3 then closeR S c else
 if c.kind = 4 then readR S c else
 if c.kind = 5 then writeR S c else
 if c.kind = 6 then truncR S c else
 if c.kind = 7 then sizeR S c else
 if c.kind = 8 then linkR S c else
 if c.kind = 9 then unlinkR S c else
 if c.kind = 10 then rmdirR S c else
 if c.kind = 11 then renameR S c else
 if c.kind = 12 then listR S c else
 if c.kind = 13 then statR S c else
 if c.kind = 14 then linksC S c else
 if c.kind = 15 then fsyncR S c else
 if c.kind = 16 then .ok (S, ansC 0) else
 .ok (S, ansC 9)
def playR (S : Sta) (c : Cal) (pick : List Int → Int) : Sta × Ans :=
 if mayB S = true ∧ 0 ≤ c.core ∧ c.core < (S.made.length : Int) then ansR S (doR S c pick) else (S, ansC 9)
theorem plays_on {w W1 W7 : World} {X : Nat} {v1 v2 v3 : Value} {eu : List Value} {S' : Sta} {A : Ans} {z : Option Addr} {l k : Nat} (kk : Kept [] w W1) (ho : Os W7 W1.heap.size v1 v2 v3 eu S') (k7 : Kept [] W1 W7) (hb : Bd S') (hX : w.heap.size = X) (hs : W1.heap.size = X + 1 + 1 + 1 + 1) (hsr : Sr W7 W1.heap.size (.slice z l k) A.names) (hof : ∀ b, (Value.slice z l k).ownBlock = some b → Off [b] v1 v2 v3 eu) (a1 a2 a3 a4 a5 a6 : Value) :
  Plays w (S', A) (.returned (.tuple #[.agg #[v1, v2, v3], ansV A (.slice z l k)])) (laidR (laidS W7 (X + 1 + 1) v1 v2 v3) (X + 1 + 1 + 1) a1 a2 a3 a4 a5 a6) := by
 refine ⟨v1, v2, v3, eu, z, l, k, rfl, Os.less ((ho.sta (by omega) v1 v2 v3).res (by omega) a1 a2 a3 a4 a5 a6) kk.size, ?_, hof, kept_res (kept_sta (kk.trans k7 (by simp)) (by omega) v1 v2 v3) (by omega) a1 a2 a3 a4 a5 a6, hb⟩
 refine (hsr.same fun q hq => ?_).less kk.size
 have := (hsr.block q hq).1
 rw [res_other (by omega), sta_other (by omega)]
def sameA (a b : Ans) : Bool := a.code == b.code && a.fd == b.fd && a.num == b.num && a.dir == b.dir && a.data.toList == b.data.toList && decide (a.names = b.names)
theorem boxes2 (w : World) (c1 c2 : Array Value) (t1 t2 : TypeId) : ∃ W X, Hid ((w.alloc (.cells c1 t1 (0, 0))).alloc (.cells c2 t2 (0, 0)) = W ∧ w.heap.size = X) ∧ Hid (Kept [] w W) ∧ Hid (W.heap[X]? = some (.cells c1 t1 (0, 0)) ∧ W.heap[X + 1]? = some (.cells c2 t2 (0, 0)) ∧ W.heap.size = X + 1 + 1) := by
 have s1 : (w.alloc (.cells c1 t1 (0, 0))).heap.size = w.heap.size + 1 := by simp
 refine ⟨_, _, ⟨rfl, rfl⟩, ((Kept.refl [] w).alloc _).alloc _, ?_, ?_, by simp⟩
 ·
  rw [Below.heap_alloc _ _ _ (by omega)]
  exact Go.heap_alloc_new _ _
 ·
  have := Go.heap_alloc_new (w.alloc (.cells c1 t1 (0, 0))) (.cells c2 t2 (0, 0))
  rw [s1] at this
  exact this
theorem p_same {w : World} {a b : Ans} {za zb : Option Addr} {la lb ca cb : Nat} (hla : la = a.names.length) (hlb : lb = b.names.length) (ha : Ss w za a.names) (hb : Ss w zb b.names) :
  Calls Tryz.prog 27 #[ansV a (.slice za la ca), ansV b (.slice zb lb cb)] w fun e w' => e = .returned (.bool (sameA a b)) ∧ Kept [] w w' := by
 obtain ⟨W1, X, HW, HKW, HBx⟩ := boxes2 w #[.int .i64 a.code, .int .i64 a.fd, .int .i64 a.num, .bool a.dir, .string a.data, .slice za la ca] #[.int .i64 b.code, .int .i64 b.fd, .int .i64 b.num, .bool b.dir, .string b.data, .slice zb lb cb] 31 31
 have HA : Hid (la = a.names.length ∧ lb = b.names.length ∧ Ss W1 za a.names ∧ Ss W1 zb b.names) := ⟨hla, hlb, ha.kept HKW.out, hb.kept HKW.out⟩
 obtain ⟨x0, x1, x2, x3, x4, x5⟩ := cz6 HBx.out.1
 obtain ⟨y0, y1, y2, y3, y4, y5⟩ := cz6 HBx.out.2.1
 have HDef : Hid (sameA a b = (a.code == b.code && a.fd == b.fd && a.num == b.num && a.dir == b.dir && a.data.toList == b.data.toList && decide (a.names = b.names))) := rfl
 clear ha hb hla hlb
 obtain ⟨r, hr⟩ : ∃ r, sameA a b = r := ⟨_, rfl⟩
 rw [hr] at HDef ⊢
 clear hr
 go_enter Tryz.func27, Tryz.ntmps27
 go_upto_region 1 with fail
 rw [HW.out.1, HW.out.2]
 clear HW HBx
 by_cases h0 : a.code = b.code
 rotate_left
 ·
  have t0 : (a.code == b.code) = false := by simpa using h0
  have HR : Hid (r = false) := by show _ = _; rw [HDef.out]; simp [h0]
  go_wp2_with fail
  go_ret
  exact ⟨ret_bool HR.out.symm, HKW.out⟩
 have t0 : (a.code == b.code) = true := by simpa using h0
 by_cases h1 : a.fd = b.fd
 rotate_left
 ·
  have t1 : (a.fd == b.fd) = false := by simpa using h1
  have HR : Hid (r = false) := by show _ = _; rw [HDef.out]; simp [h0, h1]
  go_wp2_with fail
  go_ret
  exact ⟨ret_bool HR.out.symm, HKW.out⟩
 have t1 : (a.fd == b.fd) = true := by simpa using h1
 by_cases h2 : a.num = b.num
 rotate_left
 ·
  have t2 : (a.num == b.num) = false := by simpa using h2
  have HR : Hid (r = false) := by show _ = _; rw [HDef.out]; simp [h0, h1, h2]
  go_wp2_with fail
  go_ret
  exact ⟨ret_bool HR.out.symm, HKW.out⟩
 have t2 : (a.num == b.num) = true := by simpa using h2
 by_cases h3 : a.dir = b.dir
 rotate_left
 ·
  have t3 : (a.dir == b.dir) = false := by simpa using h3
  have HR : Hid (r = false) := by show _ = _; rw [HDef.out]; simp [h0, h1, h2, h3]
  go_wp2_with fail
  go_ret
  exact ⟨ret_bool HR.out.symm, HKW.out⟩
 have t3 : (a.dir == b.dir) = true := by simpa using h3
 by_cases h4 : a.data.toList = b.data.toList
 rotate_left
 ·
  have t4 : (a.data.toList == b.data.toList) = false := by simpa using h4
  have HR : Hid (r = false) := by show _ = _; rw [HDef.out, t4]; simp
  go_wp2_with fail
  go_ret
  exact ⟨ret_bool HR.out.symm, HKW.out⟩
 have t4 : (a.data.toList == b.data.toList) = true := by simpa using h4
 have HR : Hid (r = decide (a.names = b.names)) := by show _ = _; rw [HDef.out, t0, t1, t2, t3, t4]; simp
 go_wp2_with fail
 refine (slices_equal za zb la lb ca cb a.names b.names W1 HA.out.1 HA.out.2.1 HA.out.2.2.1 HA.out.2.2.2).mono ?_
 rintro e w2 ⟨rfl, q, hq⟩
 have HK2 : Hid (Kept [] w w2) := by rw [hq]; exact HKW.out.drewN q
 rw [← HR.out]
 clear hq
 go_wp2_with fail
 go_ret
 exact ⟨rfl, HK2.out⟩
def allowsR (S : Sta) (c : Cal) (r : Ans) : Sta × Bool :=
 if sameA (playR S c (fun xs => toldI xs r.fd)).2 r then ((playR S c (fun xs => toldI xs r.fd)).1, true) else (S, false)
def Tells (w : World) (x : Sta × Bool) (e : Ending) (w' : World) : Prop :=
 ∃ (u1 u2 u3 : Value) (eu : List Value), e = .returned (.tuple #[.agg #[u1, u2, u3], .bool x.2]) ∧ Os w' w.heap.size u1 u2 u3 eu x.1 ∧ Kept [] w w' ∧ Bd x.1
theorem results_ct {P : Program} {fn : Func} {p q : Tmp} {ty : TypeId} (h : fn.results = #[.cell p ty, .tmp q]) (tmps : Array Value) (w : World) (g : Nat) (t : TypeId) (cs : Array Value) (fr : Nat × Nat) (d : TypeDesc) (v : Value)
  (hp : tmps.getD p undef = .pointer (some ⟨g, 0, none⟩)) (hq : tmps.getD q undef = v) (hg : w.heap[g]? = some (.cells cs t fr))
  (hu : P.underlying ty = some d) (hd : (match d with | .struct _ | .array _ _ => true | _ => false) = true) (hi : (P.info? ty).map (·.size) = some cs.size) :
  (results fn tmps).run P w = .ok (.tuple #[.agg cs, v]) w := by
 have hp' : tmps[p]?.getD undef = .pointer (some ⟨g, 0, none⟩) := by simpa using hp
 have hq' : tmps[q]?.getD undef = v := by simpa using hq
 simp [results, h, hp', hq', asAddr, run_loadVar_row w g t ty cs fr d hg hu hd hi]
def newS (n : Nat) : Sta := ⟨[⟨1, true, [], ⟨#[]⟩⟩], [], List.replicate n 0⟩
theorem make_ints (n : Nat) (h : n ≤ 17592186043904) (w : World) : (Instr.makeSlice 25 (.int .i64 (n : Int)) (.int .i64 (n : Int))).run Tryz.prog w = .ok (.slice (some ⟨w.heap.size, 0, none⟩) n n) (w.alloc (.cells ((List.replicate n (0 : Int)).map (Value.int .i64)).toArray 3)) := by
 obtain ⟨i0, hi, hx⟩ : ∃ i0, Tryz.prog.info? 3 = some i0 ∧ (i0.zero, i0.size, i0.bytes) = (some (Value.int .i64 0), 1, 8) := by
  cases hi : Tryz.prog.info? 3 with
  | none => have := info3; rw [hi] at this; cases this
  | some i0 => have := info3; rw [hi] at this; exact ⟨i0, rfl, Option.some.inj this⟩
 obtain ⟨hz0, hz1, hz2⟩ : i0.zero = some (Value.int .i64 0) ∧ i0.size = 1 ∧ i0.bytes = 8 := by simpa using hx
 have := run_make (P := Tryz.prog) w 25 3 i0 (.int .i64 0) Tryz.underlying25 hi hz0 .i64 .i64 n n (by omega) (by omega) (by rw [hz2]; omega) (by omega)
 rw [this]
 have e : madeCells (Value.int .i64 0).cells ((n : Int).toNat * i0.size) = ((List.replicate n (0 : Int)).map (Value.int .i64)).toArray := by
  apply Array.ext'
  rw [hz1]
  simp [toList_madeCells_one, Value.cells]
 rw [e]
 simp
theorem new_os {w : World} (n : Nat) (h : n ≤ 8) (X Y : Nat) (hX : w.heap.size ≤ X) (hXY : X ≠ Y) (hY : w.heap.size ≤ Y) {W : World} (h1 : W.heap[X]? = some (.cells #[.int .i64 1, .bool true, .slice none 0 0, .string ⟨#[]⟩] 62 (0, 0))) (h2 : W.heap[Y]? = some (.cells ((List.replicate n (0 : Int)).map (Value.int .i64)).toArray 3 (0, 0))) (hn : 1 ≤ n) :
  Os W w.heap.size (.slice (some ⟨X, 0, none⟩) 1 1) (.slice none 0 0) (.slice (some ⟨Y, 0, none⟩) n n) [.slice none 0 0] (newS n) := by
 have nilA : ∀ (u : Value), Ap u (.slice none 0 0) := fun u b _ e => by cases e
 refine ⟨⟨rfl, .inr ⟨X, 1, _, rfl, hX, h1, Nat.le_refl _, by unfold maxLen; omega, rfl, rfl⟩⟩, rfl, ?_, World.ownsRow_nil _ _ _ _, ⟨by simp [newS], .inr ⟨Y, n, _, by simp [newS], hY, h2, by simp [newS], by unfold maxLen; omega, by simp, by simp [newS]⟩⟩, nilA _, fun b hb hc => ?_, (nilA _).symm, ?_, by simp⟩
 ·
  intro i hi hv
  have hi2 : i < 1 := hi
  obtain rfl : i = 0 := by omega
  exact World.ownsRow_nil _ _ _ _
 ·
  have e1 : b = X := by simpa [Value.ownBlock] using hb.symm
  have e2 : b = Y := by simpa [Value.ownBlock] using hc.symm
  omega
 ·
  intro v hv
  rw [List.mem_singleton] at hv
  subst hv
  exact ⟨nilA _, nilA _, nilA _⟩
theorem new_bd {n : Nat} (h : n ≤ 8) : Bd (newS n) := by
 refine ⟨by simp [newS], by simp [newS], by simp [newS]; omega, ?_, ?_, ?_, ?_⟩ <;> simp [newS] <;> decide
theorem p_New_bad {w : World} {z : Int} (hz : z < 1 ∨ 8 < z) :
  Calls Tryz.prog 14 #[.int .i64 z] w fun e w' => e = .returned (.tuple #[.agg #[.slice none 0 0, .slice none 0 0, .slice none 0 0], .int .i64 1300]) ∧ Kept [] w w' := by
 obtain ⟨W1, X, HWX, HKX, HBX⟩ := boxR w #[.slice none 0 0, .slice none 0 0, .slice none 0 0] 27
 have hb := HBX.out
 obtain ⟨g0, g1, g2⟩ := cz3 hb
 obtain ⟨z0, z1, z2⟩ := fz3 hb
 have HE : Hid ((laidS W1 X (.slice none 0 0) (.slice none 0 0) (.slice none 0 0)).heap[X]? = some (.cells #[.slice none 0 0, .slice none 0 0, .slice none 0 0] 27 (0, 0)) ∧ Kept [] w (laidS W1 X (.slice none 0 0) (.slice none 0 0) (.slice none 0 0))) := ⟨block_sta hb _ _ _, kept_sta HKX.out (Nat.le_of_eq HWX.out.2) _ _ _⟩
 clear hb
 by_cases h1 : z < 1
 ·
  have t1 : decide (z < 1) = true := decide_eq_true h1
  clear hz
  go_enter Tryz.func14, Tryz.ntmps14
  go_upto_region 1 with fail
  rw [HWX.out.1, HWX.out.2]
  go_wp2_with fail
  (try simp only [Exit.inBlock, Exit.then])
  refine bodyPost_ret (results_ct rfl _ _ X 27 #[.slice none 0 0, .slice none 0 0, .slice none 0 0] (0, 0) _ (.int .i64 1300) rfl rfl HE.out.1 Tryz.underlying27 rfl (by kernel_rfl)) rfl ?_
  exact ⟨rfl, HE.out.2⟩
 ·
  have t1 : decide (z < 1) = false := decide_eq_false h1
  have h2 : 8 < z := by omega
  have t2 : decide (z > 8) = true := decide_eq_true h2
  have t3 : decide (8 < z) = true := decide_eq_true h2
  clear hz
  go_enter Tryz.func14, Tryz.ntmps14
  go_upto_region 1 with fail
  rw [HWX.out.1, HWX.out.2]
  go_wp2_with fail
  (try simp only [Exit.inBlock, Exit.then])
  refine bodyPost_ret (results_ct rfl _ _ X 27 #[.slice none 0 0, .slice none 0 0, .slice none 0 0] (0, 0) _ (.int .i64 1300) rfl rfl HE.out.1 Tryz.underlying27 rfl (by kernel_rfl)) rfl ?_
  exact ⟨rfl, HE.out.2⟩
def News (w : World) (n : Nat) (e : Ending) (w' : World) : Prop :=
 ∃ (u1 u2 u3 : Value) (eu : List Value), e = .returned (.tuple #[.agg #[u1, u2, u3], .int .i64 0]) ∧ Os w' w.heap.size u1 u2 u3 eu (newS n) ∧ Kept [] w w' ∧ Bd (newS n)
theorem p_New {w : World} {n : Nat} (hn : 1 ≤ n) (h8 : n ≤ 8) :
  Calls Tryz.prog 14 #[.int .i64 (n : Int)] w (News w n) := by
 obtain ⟨W1, X, HWX, HKX, HBX⟩ := boxR w #[.slice none 0 0, .slice none 0 0, .slice none 0 0] 27
 obtain ⟨W2, Y, HWY, HKY, HBY⟩ := boxR W1 #[.int .i64 1, .bool true, .slice none 0 0, .string ⟨#[]⟩] 62
 obtain ⟨W3, Z, HWZ, HKZ, HBZ⟩ := boxR W2 ((List.replicate n (0 : Int)).map (Value.int .i64)).toArray 3
 have hmk := make_ints n (by omega) W2
 rw [HWZ.out.1, HWZ.out.2] at hmk
 have hs1 : Y = X + 1 := by have e1 := HWY.out.2; have e2 := HWX.out.1; have e3 := HWX.out.2; rw [← e2] at e1; simp at e1; omega
 have hs2 : Z = X + 1 + 1 := by have e1 := HWZ.out.2; have e2 := HWY.out.1; have e3 := HWY.out.2; rw [← e2] at e1; simp at e1; omega
 have hb : W3.heap[X]? = some (.cells #[.slice none 0 0, .slice none 0 0, .slice none 0 0] 27 (0, 0)) := ((HKY.out.trans HKZ.out (by simp)).block _ (lt_of_heap HBX.out) (by simp)).trans HBX.out
 obtain ⟨g0, g1, g2⟩ := cz3 hb
 obtain ⟨z0, z1, z2⟩ := fz3 hb
 have hYb : W3.heap[Y]? = _ := (HKZ.out.block _ (lt_of_heap HBY.out) (by simp)).trans HBY.out
 have hX := HWX.out.2
 have hos := new_os (w := w) n h8 Y Z (by omega) (by omega) (by omega) hYb HBZ.out hn
 have HE : Hid ((laidS W3 X (.slice (some ⟨Y, 0, none⟩) 1 1) (.slice none 0 0) (.slice (some ⟨Z, 0, none⟩) n n)).heap[X]? = some (.cells #[.slice (some ⟨Y, 0, none⟩) 1 1, .slice none 0 0, .slice (some ⟨Z, 0, none⟩) n n] 27 (0, 0)) ∧ News w n (.returned (.tuple #[.agg #[.slice (some ⟨Y, 0, none⟩) 1 1, .slice none 0 0, .slice (some ⟨Z, 0, none⟩) n n], .int .i64 0])) (laidS W3 X (.slice (some ⟨Y, 0, none⟩) 1 1) (.slice none 0 0) (.slice (some ⟨Z, 0, none⟩) n n))) := by
  refine ⟨block_sta hb _ _ _, _, _, _, [.slice none 0 0], rfl, ?_, kept_sta ((HKX.out.trans HKY.out (by simp)).trans HKZ.out (by simp)) (by omega) _ _ _, new_bd h8⟩
  refine hos.keep (F := [X]) ?_ ?_
  · exact (((Kept.refl [X] W3).setCell (Or.inl (by simp)) _).setCell (Or.inl (by simp)) _).setCell (Or.inl (by simp)) _
  ·
   refine off_of ⟨fun e => ?_, (fun e => by cases e), fun e => ?_, fun v hv e => ?_⟩
   ·
    have : Y = X := by simpa [Value.ownBlock] using e
    omega
   ·
    have : Z = X := by simpa [Value.ownBlock] using e
    omega
   ·
    rw [List.mem_singleton] at hv
    subst hv
    cases e
 subst hs1 hs2
 have i1 : ¬ (n : Int) < 1 := by omega
 have i2 : ¬ (8 : Int) < (n : Int) := by omega
 have t1 : decide ((n : Int) < 1) = false := decide_eq_false i1
 have t2 : decide ((n : Int) > 8) = false := decide_eq_false i2
 have t3 : decide (8 < (n : Int)) = false := decide_eq_false i2
 have HW1 : Hid (_) := HWX.out
 have HW2 : Hid (_) := HWY.out
 clear hb hYb hos hX HWX HWY HWZ
 go_enter Tryz.func14, Tryz.ntmps14
 go_upto_region 1 with fail
 rw [HW1.out.1, HW1.out.2]
 have hal := HW2.out.1
 have hsz := HW2.out.2
 go_wp2_with fail
 (try simp only [Exit.inBlock, Exit.then])
 refine bodyPost_ret (results_ct rfl _ _ X 27 #[.slice (some ⟨X + 1, 0, none⟩) 1 1, .slice none 0 0, .slice (some ⟨X + 1 + 1, 0, none⟩) n n] (0, 0) _ (.int .i64 0) rfl rfl HE.out.1 Tryz.underlying27 rfl (by kernel_rfl)) rfl ?_
 exact HE.out.2
theorem l_Find {w : World} {H : Nat} {v1 v2 v3 : Value} {ev : List Value} {S : Sta} (h : Os w H v1 v2 v3 ev S) (hb : Bd S) (hT : Tab w) (s : ByteArray) {a b : Int} (hx : findR S.ino s = (a, b)) :
  Calls Tryz.prog 16 #[.agg #[v1, v2, v3], .string s] w fun e w' => e = .returned (.tuple #[.int .i64 a, .int .i64 b]) ∧ Kept [] w w' := by
 obtain ⟨p, e1, e2, e3, hs, -⟩ := h.sv hb
 have := p_find hs hT s
 unfold sval at this
 rw [← e1, ← e2, ← e3, hx] at this
 exact this
theorem l_Links {w : World} {H : Nat} {v1 v2 v3 : Value} {ev : List Value} {S : Sta} (h : Os w H v1 v2 v3 ev S) (hb : Bd S) (hn : S.ino.length ≤ 60000) (num : Int) {n : Nat} (hx : linksR S.ino num = n) :
  Calls Tryz.prog 18 #[.agg #[v1, v2, v3], .int .i64 num] w fun e w' => e = .returned (.int .i64 (n : Int)) ∧ Kept [] w w' := by
 obtain ⟨p, e1, e2, e3, hs, -⟩ := h.sv hb
 have := p_links hs num hn
 unfold sval at this
 rw [← e1, ← e2, ← e3, hx] at this
 exact this
theorem l_May {w : World} {H : Nat} {v1 v2 v3 : Value} {ev : List Value} {S : Sta} (h : Os w H v1 v2 v3 ev S) (hb : Bd S) (hT : Tab w) {b : Bool} (hx : mayB S = b) :
  Calls Tryz.prog 19 #[.agg #[v1, v2, v3]] w fun e w' => e = .returned (.bool b) ∧ Kept [] w w' := by
 obtain ⟨p, e1, e2, e3, hs, -⟩ := h.sv hb
 have := p_may hs hT (fun x hx => by have := hb.d1 x hx; omega)
 unfold sval at this
 rw [← e1, ← e2, ← e3, hx] at this
 exact this
theorem r_New {w : World} {n : Nat} (hn : 1 ≤ n) (h8 : n ≤ 8) :
  Calls Tryz.prog 20 #[.int .i64 (n : Int)] w (News w n) := by
 obtain ⟨W1, X, HWX, HKX, HBX⟩ := boxR w #[.slice none 0 0, .slice none 0 0, .slice none 0 0] 27
 obtain ⟨W2, Y, HWY, HKY, HBY⟩ := boxR W1 #[.int .i64 1, .bool true, .slice none 0 0, .string ⟨#[]⟩] 62
 obtain ⟨W3, Z, HWZ, HKZ, HBZ⟩ := boxR W2 ((List.replicate n (0 : Int)).map (Value.int .i64)).toArray 3
 have hmk := make_ints n (by omega) W2
 rw [HWZ.out.1, HWZ.out.2] at hmk
 have hs1 : Y = X + 1 := by have e1 := HWY.out.2; have e2 := HWX.out.1; have e3 := HWX.out.2; rw [← e2] at e1; simp at e1; omega
 have hs2 : Z = X + 1 + 1 := by have e1 := HWZ.out.2; have e2 := HWY.out.1; have e3 := HWY.out.2; rw [← e2] at e1; simp at e1; omega
 have hb : W3.heap[X]? = some (.cells #[.slice none 0 0, .slice none 0 0, .slice none 0 0] 27 (0, 0)) := ((HKY.out.trans HKZ.out (by simp)).block _ (lt_of_heap HBX.out) (by simp)).trans HBX.out
 obtain ⟨g0, g1, g2⟩ := cz3 hb
 obtain ⟨z0, z1, z2⟩ := fz3 hb
 have hYb : W3.heap[Y]? = _ := (HKZ.out.block _ (lt_of_heap HBY.out) (by simp)).trans HBY.out
 have hX := HWX.out.2
 have hos := new_os (w := w) n h8 Y Z (by omega) (by omega) (by omega) hYb HBZ.out hn
 have HE : Hid ((laidS W3 X (.slice (some ⟨Y, 0, none⟩) 1 1) (.slice none 0 0) (.slice (some ⟨Z, 0, none⟩) n n)).heap[X]? = some (.cells #[.slice (some ⟨Y, 0, none⟩) 1 1, .slice none 0 0, .slice (some ⟨Z, 0, none⟩) n n] 27 (0, 0)) ∧ News w n (.returned (.tuple #[.agg #[.slice (some ⟨Y, 0, none⟩) 1 1, .slice none 0 0, .slice (some ⟨Z, 0, none⟩) n n], .int .i64 0])) (laidS W3 X (.slice (some ⟨Y, 0, none⟩) 1 1) (.slice none 0 0) (.slice (some ⟨Z, 0, none⟩) n n))) := by
  refine ⟨block_sta hb _ _ _, _, _, _, [.slice none 0 0], rfl, ?_, kept_sta ((HKX.out.trans HKY.out (by simp)).trans HKZ.out (by simp)) (by omega) _ _ _, new_bd h8⟩
  refine hos.keep (F := [X]) ?_ ?_
  · exact (((Kept.refl [X] W3).setCell (Or.inl (by simp)) _).setCell (Or.inl (by simp)) _).setCell (Or.inl (by simp)) _
  ·
   refine off_of ⟨fun e => ?_, (fun e => by cases e), fun e => ?_, fun v hv e => ?_⟩
   ·
    have : Y = X := by simpa [Value.ownBlock] using e
    omega
   ·
    have : Z = X := by simpa [Value.ownBlock] using e
    omega
   ·
    rw [List.mem_singleton] at hv
    subst hv
    cases e
 subst hs1 hs2
 have i1 : ¬ (n : Int) < 1 := by omega
 have i2 : ¬ (8 : Int) < (n : Int) := by omega
 have t1 : decide ((n : Int) < 1) = false := decide_eq_false i1
 have t2 : decide ((n : Int) > 8) = false := decide_eq_false i2
 have t3 : decide (8 < (n : Int)) = false := decide_eq_false i2
 have HW1 : Hid (_) := HWX.out
 have HW2 : Hid (_) := HWY.out
 clear hb hYb hos hX HWX HWY HWZ
 go_enter Tryz.func20, Tryz.ntmps20
 go_upto_region 1 with fail
 rw [HW1.out.1, HW1.out.2]
 have hal := HW2.out.1
 have hsz := HW2.out.2
 go_wp2_with fail
 (try simp only [Exit.inBlock, Exit.then])
 refine bodyPost_ret (results_ct rfl _ _ X 27 #[.slice (some ⟨X + 1, 0, none⟩) 1 1, .slice none 0 0, .slice (some ⟨X + 1 + 1, 0, none⟩) n n] (0, 0) _ (.int .i64 0) rfl rfl HE.out.1 Tryz.underlying27 rfl (by kernel_rfl)) rfl ?_
 exact HE.out.2
end Go.Proofs.YtffncojcnbhblaaGreatDoor
