/-
  Joined of my texts Pe Ak.
-/
import Derived.Test.YtffncojcnbhblaaGreatDoorJd28
import Derived.Test.YtffncojcnbhblaaGreatDoorJd39
import Derived.Test.YtffncojcnbhblaaGreatDoorTk
set_option linter.unusedVariables false
set_option linter.unusedSimpArgs false
set_option maxRecDepth 100000
set_option maxHeartbeats 8000000
namespace Go.Proofs.YtffncojcnbhblaaGreatDoor
open Go.RowKit
theorem kt {a b c : World} (h : Kept [] a b) (k : Kept [] b c) : Kept [] a c := h.trans k (by simp)
def DoL (S : Sta) (c : Cal) : Prop := mayB S = true ∧ 0 ≤ c.core ∧ c.core < (S.made.length : Int) ∧ ∀ {w0 w : World} {B : Nat} {v1 v2 v3 : Value} {ev : List Value}, Cb w0 w B c (.func (.func 22) #[] #[]) v1 v2 v3 ev S →
 Calls Tryz.prog 68 #[.pointer (some ⟨B, 0, none⟩)] w (Out w0 w B c (.func (.func 22) #[] #[]) v1 v2 v3 ev S (doR S c headI))
def DoT (S : Sta) (c : Cal) (z : Int) : Prop := mayB S = true ∧ 0 ≤ c.core ∧ c.core < (S.made.length : Int) ∧ ∀ {X : Nat} {w0 w : World} {B : Nat} {v1 v2 v3 : Value} {ev : List Value}, Cb w0 w B c (.func (.func 25) #[] #[.pointer (some ⟨X, 0, none⟩)]) v1 v2 v3 ev S → w0.cell? ⟨X, 1, none⟩ = some (.int .i64 z) →
 Calls Tryz.prog 68 #[.pointer (some ⟨B, 0, none⟩)] w (Out w0 w B c (.func (.func 25) #[] #[.pointer (some ⟨X, 0, none⟩)]) v1 v2 v3 ev S (doR S c (fun xs => toldI xs z)))
theorem c_leastK {w0 w : World} {B : Nat} {c : Cal} {v1 v2 v3 : Value} {ev : List Value} {S : Sta} (h : Cb w0 w B c (.func (.func 22) #[] #[]) v1 v2 v3 ev S) (hd : DoL S c) :
  Calls Tryz.prog 38 #[.pointer (some ⟨B, 0, none⟩)] w (Oks w0 w B c (.func (.func 22) #[] #[]) v1 v2 v3 ev (playR S c headI)) := by
 obtain ⟨hm, h0, h1, hd⟩ := hd
 unfold playR
 rw [if_pos ⟨hm, h0, h1⟩]
 exact p_caught h hm (i := c.core.toNat) (by omega) (by omega) fun W hC => hd hC
theorem c_toldK {w0 w : World} {X : Nat} {B : Nat} {c : Cal} {v1 v2 v3 : Value} {ev : List Value} {S : Sta} (h : Cb w0 w B c (.func (.func 25) #[] #[.pointer (some ⟨X, 0, none⟩)]) v1 v2 v3 ev S) {z : Int} (hd : DoT S c z) (hX : w0.cell? ⟨X, 1, none⟩ = some (.int .i64 z)) :
  Calls Tryz.prog 38 #[.pointer (some ⟨B, 0, none⟩)] w (Oks w0 w B c (.func (.func 25) #[] #[.pointer (some ⟨X, 0, none⟩)]) v1 v2 v3 ev (playR S c (fun xs => toldI xs z))) := by
 obtain ⟨hm, h0, h1, hd⟩ := hd
 unfold playR
 rw [if_pos ⟨hm, h0, h1⟩]
 exact p_caught h hm (i := c.core.toNat) (by omega) (by omega) fun W hC => hd hC hX
theorem p_DoK {w : World} {p : Pl} {S : Sta} (h : Sv w p S) (hT : Tab w) (hb : Bd S) (c : Cal) (hd : DoL S c) :
  Calls Tryz.prog 9 #[sval p S, calV c] w (Plays w (playR S c headI)) := by
 obtain ⟨W1, X, HW, HKW, HBx⟩ := boxes4 w #[.slice p.a1 S.ino.length p.c1, .slice p.a2 S.opn.length p.c2, .slice p.a3 S.made.length p.c3] #[.int .i64 c.kind, .int .i64 c.core, .int .i64 c.fd, .int .i64 c.off, .int .i64 c.num, .string c.path, .string c.path2, .string c.data] #[.slice none 0 0, .slice none 0 0, .slice none 0 0] #[.int .i64 0, .int .i64 0, .int .i64 0, .bool false, .string ⟨#[]⟩, .slice none 0 0] 27 35 27 31
 have HPl : Hid (Calls Tryz.prog 23 #[.agg #[.slice p.a1 S.ino.length p.c1, .slice p.a2 S.opn.length p.c2, .slice p.a3 S.made.length p.c3], .agg #[.int .i64 c.kind, .int .i64 c.core, .int .i64 c.fd, .int .i64 c.off, .int .i64 c.num, .string c.path, .string c.path2, .string c.data], .func (.func 22) #[] #[]] W1 (Plays W1 (playR S c headI))) :=
  p_play (h.kept HKW.out) (hT.kept HKW.out) hb c _ _ _ fun w0 W B v1 v2 v3 ev _ hC => c_leastK hC hd
 have hb0 := HBx.out.1
 have hb1 := HBx.out.2.1
 obtain ⟨x0, x1, x2⟩ := cz3 hb0
 obtain ⟨y0, y1, y2, y3, y4, y5, y6, y7⟩ := cz8 hb1
 clear h hT hb hb0 hb1
 go_enter Tryz.func9, Tryz.ntmps9
 go_upto_region 1 with fail
 rw [HW.out.1, HW.out.2]
 go_wp2_with fail
 refine HPl.out.mono ?_
 rintro e w6 ⟨u1, u2, u3, eu, y, l, k, rfl, ho, hsr, hof, k6, hbd⟩
 obtain ⟨x, hx⟩ : ∃ x, playR S c headI = x := ⟨_, rfl⟩
 rw [hx] at ho hsr hbd ⊢
 have HX : Hid (_) := hx
 clear hx
 obtain ⟨S', a, b, n, d, t, ns⟩ := x
 dsimp only at ho hsr hbd
 obtain ⟨e1, f1, hu1, -⟩ := row_form ho.ino
 obtain ⟨e2, f2, hu2, -⟩ := row_form ho.opn
 obtain ⟨e3, f3, hu3, -⟩ := row_form ho.mad
 subst hu1 hu2 hu3
 have hb2 : w6.heap[X + 1 + 1]? = some (.cells #[.slice none 0 0, .slice none 0 0, .slice none 0 0] 27 (0, 0)) := (k6.block _ (lt_of_heap HBx.out.2.2.1) (by simp)).trans HBx.out.2.2.1
 have hb3 : w6.heap[X + 1 + 1 + 1]? = some (.cells #[.int .i64 0, .int .i64 0, .int .i64 0, .bool false, .string ⟨#[]⟩, .slice none 0 0] 31 (0, 0)) := (k6.block _ (lt_of_heap HBx.out.2.2.2.1) (by simp)).trans HBx.out.2.2.2.1
 have HE : Hid (Plays w (S', ⟨a, b, n, d, t, ns⟩) (.returned (.tuple #[.agg #[.slice e1 S'.ino.length f1, .slice e2 S'.opn.length f2, .slice e3 S'.made.length f3], .agg #[.int .i64 a, .int .i64 b, .int .i64 n, .bool d, .string t, .slice y l k]])) (laidR (laidS w6 (X + 1 + 1) (.slice e1 S'.ino.length f1) (.slice e2 S'.opn.length f2) (.slice e3 S'.made.length f3)) (X + 1 + 1 + 1) (.int .i64 a) (.int .i64 b) (.int .i64 n) (.bool d) (.string t) (.slice y l k))) :=
  plays_on (A := ⟨a, b, n, d, t, ns⟩) HKW.out ho k6 hbd HW.out.2 HBx.out.2.2.2.2 hsr hof _ _ _ _ _ _
 have HB2 : Hid (_) := hb2
 have HB3 : Hid (_) := hb3
 obtain ⟨g0, g1, g2⟩ := cz3 hb2
 obtain ⟨r0, r1, r2, r3, r4, r5⟩ := cz6 hb3
 obtain ⟨z0, z1, z2⟩ := fz3 hb2
 obtain ⟨t0, t1, t2, t3, t4, t5⟩ := fz6 hb3
 clear ho hsr hof hbd k6 hb2 hb3 HPl x0 x1 x2 y0 y1 y2 y3 y4 y5 y6 y7
 dsimp only [ansV]
 go_wp2_with fail
 obtain ⟨W8, hW8⟩ : ∃ W8, laidR (laidS w6 (X + 1 + 1) (.slice e1 S'.ino.length f1) (.slice e2 S'.opn.length f2) (.slice e3 S'.made.length f3)) (X + 1 + 1 + 1) (.int .i64 a) (.int .i64 b) (.int .i64 n) (.bool d) (.string t) (.slice y l k) = W8 := ⟨_, rfl⟩
 have HBS : Hid (W8.heap[X + 1 + 1]? = some (.cells #[.slice e1 S'.ino.length f1, .slice e2 S'.opn.length f2, .slice e3 S'.made.length f3] 27 (0, 0))) := by
  rw [← hW8, res_other (by omega)]; exact block_sta HB2.out _ _ _
 have HBR : Hid (W8.heap[X + 1 + 1 + 1]? = some (.cells #[.int .i64 a, .int .i64 b, .int .i64 n, .bool d, .string t, .slice y l k] 31 (0, 0))) := by
  rw [← hW8]; exact block_res ((sta_other (by omega)).trans HB3.out) _ _ _ _ _ _
 rw [hW8] at HE
 unfold laidR laidS at hW8
 rw [hW8]
 clear hW8
 (try simp only [Exit.inBlock, Exit.then])
 refine bodyPost_ret (results_two rfl _ _ (X + 1 + 1) (X + 1 + 1 + 1) 27 31 #[.slice e1 S'.ino.length f1, .slice e2 S'.opn.length f2, .slice e3 S'.made.length f3] #[.int .i64 a, .int .i64 b, .int .i64 n, .bool d, .string t, .slice y l k] (0, 0) _ _ rfl rfl HBS.out HBR.out Tryz.underlying27 rfl (by kernel_rfl) Tryz.underlying31 rfl (by kernel_rfl)) rfl ?_
 rw [HX.out]
 exact HE.out
theorem p_AllowsK {w : World} {p : Pl} {S : Sta} (h : Sv w p S) (hT : Tab w) (hb : Bd S) (c : Cal) (r : Ans) (hd : DoT S c r.fd) {zr : Option Addr} {lr cr : Nat} (hlr : lr = r.names.length) (hr : Ss w zr r.names) :
  Calls Tryz.prog 15 #[sval p S, calV c, ansV r (.slice zr lr cr)] w (Tells w (allowsR S c r)) := by
 obtain ⟨W1, X, HW, HKW, HBx⟩ := boxes4 w #[.slice p.a1 S.ino.length p.c1, .slice p.a2 S.opn.length p.c2, .slice p.a3 S.made.length p.c3] #[.int .i64 c.kind, .int .i64 c.core, .int .i64 c.fd, .int .i64 c.off, .int .i64 c.num, .string c.path, .string c.path2, .string c.data] #[.int .i64 r.code, .int .i64 r.fd, .int .i64 r.num, .bool r.dir, .string r.data, .slice zr lr cr] #[.slice none 0 0, .slice none 0 0, .slice none 0 0] 27 35 31 27
 have hmf := makeF
 have HPl : Hid (Calls Tryz.prog 23 #[.agg #[.slice p.a1 S.ino.length p.c1, .slice p.a2 S.opn.length p.c2, .slice p.a3 S.made.length p.c3], .agg #[.int .i64 c.kind, .int .i64 c.core, .int .i64 c.fd, .int .i64 c.off, .int .i64 c.num, .string c.path, .string c.path2, .string c.data], .func (.func 25) #[] #[.pointer (some ⟨X + 1 + 1, 0, none⟩)]] W1 (Plays W1 (playR S c (fun xs => toldI xs r.fd)))) :=
  p_play (h.kept HKW.out) (hT.kept HKW.out) hb c _ _ _ fun w0 W B v1 v2 v3 ev hk hC => c_toldK hC hd (hk.cell (cellB HBx.out.2.2.1) (by simp))
 have HSv : Hid (Sv W1 p S ∧ Bd S) := ⟨h.kept HKW.out, hb⟩
 have HRn : Hid (lr = r.names.length ∧ Ss W1 zr r.names) := ⟨hlr, hr.kept HKW.out⟩
 obtain ⟨x0, x1, x2⟩ := cz3 HBx.out.1
 obtain ⟨y0, y1, y2, y3, y4, y5, y6, y7⟩ := cz8 HBx.out.2.1
 clear h hT hb hr hlr
 go_enter Tryz.func15, Tryz.ntmps15
 go_upto_region 1 with fail
 rw [HW.out.1, HW.out.2]
 go_wp2_with fail
 refine HPl.out.mono ?_
 rintro e w6 ⟨u1, u2, u3, eu, y, l, k, rfl, ho, hsr, hof, k6, hbd⟩
 obtain ⟨x, hx⟩ : ∃ x, playR S c (fun xs => toldI xs r.fd) = x := ⟨_, rfl⟩
 rw [hx] at ho hsr hbd ⊢
 have HX : Hid (_) := hx
 clear hx
 obtain ⟨S', a, b, n, d, t, ns⟩ := x
 dsimp only at ho hsr hbd
 obtain ⟨e1, f1, hu1, -⟩ := row_form ho.ino
 obtain ⟨e2, f2, hu2, -⟩ := row_form ho.opn
 obtain ⟨e3, f3, hu3, -⟩ := row_form ho.mad
 subst hu1 hu2 hu3
 have HO6 : Hid (Os w6 W1.heap.size (.slice e1 S'.ino.length f1) (.slice e2 S'.opn.length f2) (.slice e3 S'.made.length f3) eu S' ∧ Kept [] W1 w6 ∧ Bd S') := ⟨ho, k6, hbd⟩
 obtain ⟨zy, cy, hy1, hy2, -⟩ := Sr.read hsr
 simp only [Value.slice.injEq] at hy1
 obtain ⟨q1, q2, q3⟩ := hy1
 subst q1 q3
 have HNs : Hid (l = ns.length ∧ Ss w6 y ns) := ⟨q2, hy2⟩
 obtain ⟨W7, Z, HW7, HK7, HB7⟩ := boxes2 w6 #[.slice e1 S'.ino.length f1, .slice e2 S'.opn.length f2, .slice e3 S'.made.length f3] #[.int .i64 a, .int .i64 b, .int .i64 n, .bool d, .string t, .slice y l k] 27 31
 have HK17 : Hid (Kept [] W1 W7) := k6.trans HK7.out (by simp)
 obtain ⟨g0, g1, g2⟩ := cz3 HB7.out.1
 obtain ⟨j0, j1, j2, j3, j4, j5⟩ := cz6 HB7.out.2.1
 have m0 : W7.cell? ⟨X + 1 + 1, 0, none⟩ = some (.int .i64 r.code) := HK17.out.cell (cellB HBx.out.2.2.1) (by simp)
 have m1 : W7.cell? ⟨X + 1 + 1, 1, none⟩ = some (.int .i64 r.fd) := HK17.out.cell (cellB HBx.out.2.2.1) (by simp)
 have m2 : W7.cell? ⟨X + 1 + 1, 2, none⟩ = some (.int .i64 r.num) := HK17.out.cell (cellB HBx.out.2.2.1) (by simp)
 have m3 : W7.cell? ⟨X + 1 + 1, 3, none⟩ = some (.bool r.dir) := HK17.out.cell (cellB HBx.out.2.2.1) (by simp)
 have m4 : W7.cell? ⟨X + 1 + 1, 4, none⟩ = some (.string r.data) := HK17.out.cell (cellB HBx.out.2.2.1) (by simp)
 have m5 : W7.cell? ⟨X + 1 + 1, 5, none⟩ = some (.slice zr lr cr) := HK17.out.cell (cellB HBx.out.2.2.1) (by simp)
 clear ho hsr hof hbd k6 HPl hy2 q2 x0 x1 x2 y0 y1 y2 y3 y4 y5 y6 y7
 dsimp only [ansV]
 go_upto_region 3 with fail
 rw [HW7.out.1, HW7.out.2]
 have HSm : Hid (Calls Tryz.prog 27 #[.agg #[.int .i64 a, .int .i64 b, .int .i64 n, .bool d, .string t, .slice y l k], .agg #[.int .i64 r.code, .int .i64 r.fd, .int .i64 r.num, .bool r.dir, .string r.data, .slice zr lr cr]] W7 fun e w' => e = .returned (.bool (sameA ⟨a, b, n, d, t, ns⟩ r)) ∧ Kept [] W7 w') :=
  p_same (a := ⟨a, b, n, d, t, ns⟩) (b := r) HNs.out.1 HRn.out.1 (HNs.out.2.kept HK7.out) (HRn.out.2.kept HK17.out)
 go_wp2_with fail
 refine HSm.out.mono ?_
 rintro e w8 ⟨rfl, k8⟩
 have HK18 : Hid (Kept [] W1 w8) := HK17.out.trans k8 (by simp)
 have hbR : w8.heap[X + 1 + 1 + 1]? = some (.cells #[.slice none 0 0, .slice none 0 0, .slice none 0 0] 27 (0, 0)) := (HK18.out.block _ (lt_of_heap HBx.out.2.2.2.1) (by simp)).trans HBx.out.2.2.2.1
 rcases hsm : sameA ⟨a, b, n, d, t, ns⟩ r with _ | _
 ·
  have HAl : Hid (allowsR S c r = (S, false)) := by show _ = _; unfold allowsR; rw [HX.out]; dsimp only; rw [hsm]; rfl
  have x0 : w8.cell? ⟨X, 0, none⟩ = some (.slice p.a1 S.ino.length p.c1) := HK18.out.cell (cellB HBx.out.1) (by simp)
  have x1 : w8.cell? ⟨X, 1, none⟩ = some (.slice p.a2 S.opn.length p.c2) := HK18.out.cell (cellB HBx.out.1) (by simp)
  have x2 : w8.cell? ⟨X, 2, none⟩ = some (.slice p.a3 S.made.length p.c3) := HK18.out.cell (cellB HBx.out.1) (by simp)
  clear hsm k8 HSm hbR g0 g1 g2 j0 j1 j2 j3 j4 j5 m0 m1 m2 m3 m4 m5
  go_wp2_with fail
  refine (p_copied (HSv.out.1.kept HK18.out) HSv.out.2).mono ?_
  rintro e w9 ⟨a1, a2, a3, ea, rfl, o9, k9⟩
  obtain ⟨e4, f4, hu4, -⟩ := row_form o9.ino
  obtain ⟨e5, f5, hu5, -⟩ := row_form o9.opn
  obtain ⟨e6, f6, hu6, -⟩ := row_form o9.mad
  subst hu4 hu5 hu6
  have HK19 : Hid (Kept [] W1 w9) := HK18.out.trans k9 (by simp)
  have hbS : w9.heap[X + 1 + 1 + 1]? = some (.cells #[.slice none 0 0, .slice none 0 0, .slice none 0 0] 27 (0, 0)) := (HK19.out.block _ (lt_of_heap HBx.out.2.2.2.1) (by simp)).trans HBx.out.2.2.2.1
  have HB9 : Hid (_) := hbS
  have HE : Hid (Tells w (S, false) (.returned (.tuple #[.agg #[.slice e4 S.ino.length f4, .slice e5 S.opn.length f5, .slice e6 S.made.length f6], .bool false])) (laidS w9 (X + 1 + 1 + 1) (.slice e4 S.ino.length f4) (.slice e5 S.opn.length f5) (.slice e6 S.made.length f6))) := by
   have h1 := HW.out.2
   have h2 := HBx.out.2.2.2.2
   have h3 := HK18.out.size
   exact ⟨_, _, _, ea, rfl, Os.less (o9.sta (by omega) _ _ _) (by have := HKW.out.size; omega), kept_sta (HKW.out.trans HK19.out (by simp)) (by omega) _ _ _, HSv.out.2⟩
  obtain ⟨g0, g1, g2⟩ := cz3 hbS
  obtain ⟨z0, z1, z2⟩ := fz3 hbS
  clear o9 k9 hbS x0 x1 x2
  go_wp2_with fail
  (try simp only [Exit.inBlock, Exit.then])
  refine bodyPost_ret (results_ct rfl _ _ (X + 1 + 1 + 1) 27 #[.slice e4 S.ino.length f4, .slice e5 S.opn.length f5, .slice e6 S.made.length f6] (0, 0) _ (.bool false) rfl rfl (block_sta HB9.out _ _ _) Tryz.underlying27 rfl (by kernel_rfl)) rfl ?_
  rw [HAl.out]
  exact HE.out
 ·
  have HAl : Hid (allowsR S c r = (S', true)) := by show _ = _; unfold allowsR; rw [HX.out]; dsimp only; rw [hsm]; rfl
  have y0 : w8.cell? ⟨Z, 0, none⟩ = some (.slice e1 S'.ino.length f1) := k8.cell g0 (by simp)
  have y1 : w8.cell? ⟨Z, 1, none⟩ = some (.slice e2 S'.opn.length f2) := k8.cell g1 (by simp)
  have y2 : w8.cell? ⟨Z, 2, none⟩ = some (.slice e3 S'.made.length f3) := k8.cell g2 (by simp)
  have HB9 : Hid (_) := hbR
  have HE : Hid (Tells w (S', true) (.returned (.tuple #[.agg #[.slice e1 S'.ino.length f1, .slice e2 S'.opn.length f2, .slice e3 S'.made.length f3], .bool true])) (laidS w8 (X + 1 + 1 + 1) (.slice e1 S'.ino.length f1) (.slice e2 S'.opn.length f2) (.slice e3 S'.made.length f3))) := by
   have h1 := HW.out.2
   have h2 := HBx.out.2.2.2.2
   have ho8 := (HO6.out.1.kept HK7.out).kept k8
   exact ⟨_, _, _, eu, rfl, Os.less (ho8.sta (by omega) _ _ _) (by have := HKW.out.size; omega), kept_sta (HKW.out.trans HK18.out (by simp)) (by omega) _ _ _, HO6.out.2.2⟩
  obtain ⟨v0, v1, v2⟩ := cz3 hbR
  obtain ⟨z0, z1, z2⟩ := fz3 hbR
  clear hsm k8 hbR HSm g0 g1 g2 j0 j1 j2 j3 j4 j5 m0 m1 m2 m3 m4 m5
  go_wp2_with fail
  (try simp only [Exit.inBlock, Exit.then])
  refine bodyPost_ret (results_ct rfl _ _ (X + 1 + 1 + 1) 27 #[.slice e1 S'.ino.length f1, .slice e2 S'.opn.length f2, .slice e3 S'.made.length f3] (0, 0) _ (.bool true) rfl rfl (block_sta HB9.out _ _ _) Tryz.underlying27 rfl (by kernel_rfl)) rfl ?_
  rw [HAl.out]
  exact HE.out
theorem l_DoK {w : World} {H : Nat} {v1 v2 v3 : Value} {ev : List Value} {S : Sta} (h : Os w H v1 v2 v3 ev S) (hb : Bd S) (hT : Tab w) (c : Cal) (hd : DoL S c) {x : Sta × Ans} (hx : playR S c headI = x) :
  Calls Tryz.prog 9 #[.agg #[v1, v2, v3], calV c] w (Plays w x) := by
 obtain ⟨p, e1, e2, e3, hs, -⟩ := h.sv hb
 have := p_DoK hs hT hb c hd
 unfold sval at this
 rw [← e1, ← e2, ← e3, hx] at this
 exact this
theorem l_AllowsK {w : World} {H : Nat} {v1 v2 v3 : Value} {ev : List Value} {S : Sta} (h : Os w H v1 v2 v3 ev S) (hb : Bd S) (hT : Tab w) (c : Cal) (r : Ans) (hd : DoT S c r.fd) {zr : Option Addr} {lr cr : Nat} (hlr : lr = r.names.length) (hr : Ss w zr r.names) {x : Sta × Bool} (hx : allowsR S c r = x) :
  Calls Tryz.prog 15 #[.agg #[v1, v2, v3], calV c, ansV r (.slice zr lr cr)] w (Tells w x) := by
 obtain ⟨p, e1, e2, e3, hs, -⟩ := h.sv hb
 have := p_AllowsK hs hT hb c r hd (cr := cr) hlr hr
 unfold sval at this
 rw [← e1, ← e2, ← e3, hx] at this
 exact this
theorem l_codeK {w : World} {H : Nat} {v1 v2 v3 : Value} {ev : List Value} {S : Sta} (h : Os w H v1 v2 v3 ev S) (hb : Bd S) (hT : Tab w) (c : Cal) (hd : DoL S c) {x : Sta × Ans} (hx : playR S c headI = x) :
  Calls Tryz.prog 12 #[.agg #[v1, v2, v3], calV c] w fun e w' => e = .returned (.int .i64 x.2.code) ∧ Kept [] w w' := by
 obtain ⟨e1, f1, hu1, -⟩ := row_form h.ino
 subst hu1
 obtain ⟨e2, f2, hu2, -⟩ := row_form h.opn
 subst hu2
 obtain ⟨e3, f3, hu3, -⟩ := row_form h.mad
 subst hu3
 obtain ⟨W1, X, HW, HKW, HBx⟩ := boxes2 w #[.slice e1 S.ino.length f1, .slice e2 S.opn.length f2, .slice e3 S.made.length f3] #[.int .i64 c.kind, .int .i64 c.core, .int .i64 c.fd, .int .i64 c.off, .int .i64 c.num, .string c.path, .string c.path2, .string c.data] 27 35
 have HDo : Hid (Calls Tryz.prog 9 #[.agg #[.slice e1 S.ino.length f1, .slice e2 S.opn.length f2, .slice e3 S.made.length f3], .agg #[.int .i64 c.kind, .int .i64 c.core, .int .i64 c.fd, .int .i64 c.off, .int .i64 c.num, .string c.path, .string c.path2, .string c.data]] W1 (Plays W1 x)) := l_DoK (h.kept HKW.out) hb (hT.kept HKW.out) c hd hx
 obtain ⟨x0, x1, x2⟩ := cz3 HBx.out.1
 obtain ⟨y0, y1, y2, y3, y4, y5, y6, y7⟩ := cz8 HBx.out.2.1
 clear h hb hT hx hd
 go_enter Tryz.func12, Tryz.ntmps12
 go_upto_region 1 with fail
 rw [HW.out.1, HW.out.2]
 go_wp2_with fail
 refine HDo.out.mono ?_
 rintro e w6 ⟨u1, u2, u3, eu, y, l, k, rfl, ho, hsr, hof, k6, hbd⟩
 obtain ⟨S', a, b, n, d, t, ns⟩ := x
 dsimp only at ho ⊢
 obtain ⟨e4, f4, hu4, -⟩ := row_form ho.ino
 subst hu4
 obtain ⟨e5, f5, hu5, -⟩ := row_form ho.opn
 subst hu5
 obtain ⟨e6, f6, hu6, -⟩ := row_form ho.mad
 subst hu6
 obtain ⟨W7, Z, HW7, HK7, HB7⟩ := boxes2 w6 #[.slice e4 S'.ino.length f4, .slice e5 S'.opn.length f5, .slice e6 S'.made.length f6] #[.int .i64 a, .int .i64 b, .int .i64 n, .bool d, .string t, .slice y l k] 27 31
 have c0 : W7.cell? ⟨Z + 1, 0, none⟩ = some (.int .i64 a) := cellB HB7.out.2.1
 have HK : Hid (Kept [] w W7) := (HKW.out.trans k6 (by simp)).trans HK7.out (by simp)
 clear ho hsr hof hbd k6 HDo x0 x1 x2 y0 y1 y2 y3 y4 y5 y6 y7
 go_upto_region 2 with fail
 rw [HW7.out.1, HW7.out.2]
 clear HW7
 go_wp2_with fail
 go_ret
 exact ⟨rfl, HK.out⟩
theorem dl0 {S : Sta} {c : Cal} (hm : mayB S = true) (h0 : 0 ≤ c.core) (h1 : c.core < (S.made.length : Int)) (hk : c.kind = 0) : DoL S c :=
 ⟨hm, h0, h1, fun h => by
  have e : doR S c headI = createR S c c.core.toNat false := by unfold doR; simp [hk]
  rw [e]
  exact do_create h hk fun W hC => k_create hC (wel_of hm) (i := c.core.toNat) (by omega) (by omega) false⟩
theorem dl2 {S : Sta} {c : Cal} (hm : mayB S = true) (h0 : 0 ≤ c.core) (h1 : c.core < (S.made.length : Int)) (hk : c.kind = 2) : DoL S c :=
 ⟨hm, h0, h1, fun h => by
  have e : doR S c headI = openR S c headI := by unfold doR; simp [hk]
  rw [e]
  exact do_open h hk fun W hC => k_least hC (wel_of hm)⟩
theorem dl5 {S : Sta} {c : Cal} (hm : mayB S = true) (h0 : 0 ≤ c.core) (h1 : c.core < (S.made.length : Int)) (hk : c.kind = 5) (hz : c.data.size ≤ 9223372036854775807) : DoL S c :=
 ⟨hm, h0, h1, fun h => by
  have e : doR S c headI = writeR S c := by unfold doR; simp [hk]
  rw [e]
  exact do_write h hk fun W hC => k_write hC (wel_of hm) hz⟩
theorem dl12 {S : Sta} {c : Cal} (hm : mayB S = true) (h0 : 0 ≤ c.core) (h1 : c.core < (S.made.length : Int)) (hk : c.kind = 12) : DoL S c :=
 ⟨hm, h0, h1, fun h => by
  have e : doR S c headI = listR S c := by unfold doR; simp [hk]
  rw [e]
  exact do_list h hk fun W hC => k_list hC (wel_of hm)⟩
theorem dl13 {S : Sta} {c : Cal} (hm : mayB S = true) (h0 : 0 ≤ c.core) (h1 : c.core < (S.made.length : Int)) (hk : c.kind = 13) : DoL S c :=
 ⟨hm, h0, h1, fun h => by
  have e : doR S c headI = statR S c := by unfold doR; simp [hk]
  rw [e]
  exact do_stat h hk fun W hC => k_stat hC (wel_of hm)⟩
theorem dt2 {S : Sta} {c : Cal} {z : Int} (hm : mayB S = true) (h0 : 0 ≤ c.core) (h1 : c.core < (S.made.length : Int)) (hk : c.kind = 2) : DoT S c z :=
 ⟨hm, h0, h1, fun h hX => by
  have e : doR S c (fun xs => toldI xs z) = openR S c (fun xs => toldI xs z) := by unfold doR; simp [hk]
  rw [e]
  exact do_open h hk fun W hC => k_told hC (wel_of hm) hX⟩
def aS1 : Sta := ⟨[⟨1, true, [(⟨#[97]⟩, 2)], ⟨#[]⟩⟩, ⟨2, false, [], ⟨#[]⟩⟩], [], [1, 0]⟩
def aS2 : Sta := ⟨[⟨1, true, [(⟨#[97]⟩, 2)], ⟨#[]⟩⟩, ⟨2, false, [], ⟨#[]⟩⟩], [(1, 0, 2)], [1, 0]⟩
def aS3 : Sta := ⟨[⟨1, true, [(⟨#[97]⟩, 2)], ⟨#[]⟩⟩, ⟨2, false, [], ⟨#[104, 105]⟩⟩], [(1, 0, 2)], [1, 0]⟩
def aS4 : Sta := ⟨[⟨1, true, [(⟨#[97]⟩, 2)], ⟨#[]⟩⟩, ⟨2, false, [], ⟨#[]⟩⟩], [(0, 3, 2)], [1, 0]⟩
def bdB (S : Sta) : Bool := decide (S.ino.length ≤ 2513169434843) && decide (S.opn.length ≤ 5864062014634) && decide (S.made.length ≤ 17592186043904) && S.ino.all fun x => decide (x.ents.length ≤ 5864062014634) && decide (x.num ≤ 9223372036854775807) && decide (x.data.size ≤ 140737488351232) && x.ents.all fun e => decide (e.1.size ≤ 140737488351232)
theorem bd_of {S : Sta} (h : bdB S = true) : Bd S := by
 unfold bdB at h
 simp only [Bool.and_eq_true, decide_eq_true_eq, List.all_eq_true] at h
 obtain ⟨⟨⟨h1, h2⟩, h3⟩, h4⟩ := h
 exact ⟨h1, h2, h3, fun x hx => (h4 x hx).1.1.1, fun x hx => (h4 x hx).1.1.2, fun x hx => (h4 x hx).1.2, fun x hx e he => (h4 x hx).2 e he⟩
theorem a1 : playR (newS 2) ⟨0, 0, 0, 0, 0, ⟨#[47, 97]⟩, ⟨#[]⟩, ⟨#[]⟩⟩ headI = (aS1, ansC 0) := by kernel_rfl
theorem a2 : playR aS1 ⟨2, 1, 0, 0, 0, ⟨#[47, 97]⟩, ⟨#[]⟩, ⟨#[]⟩⟩ headI = (aS2, ansC 0) := by kernel_rfl
theorem a3 : playR aS2 ⟨5, 1, 0, 0, 0, ⟨#[]⟩, ⟨#[]⟩, ⟨#[104, 105]⟩⟩ headI = (aS3, ⟨0, 0, 2, false, ⟨#[]⟩, []⟩) := by kernel_rfl
theorem a4 : playR aS1 ⟨0, 0, 0, 0, 0, ⟨#[47, 97]⟩, ⟨#[]⟩, ⟨#[]⟩⟩ headI = (aS1, ansC 2) := by kernel_rfl
theorem a5 : allowsR aS1 ⟨2, 0, 0, 0, 0, ⟨#[47, 97]⟩, ⟨#[]⟩, ⟨#[]⟩⟩ ⟨0, 3, 0, false, ⟨#[]⟩, []⟩ = (aS4, true) := by kernel_rfl
theorem a6 : findR aS1.ino ⟨#[47, 97]⟩ = (2, 0) := by kernel_rfl
theorem a7 : linksR aS1.ino 2 = 1 := by kernel_rfl
theorem a8 : mayB aS1 = true := by kernel_rfl
theorem num_law (x : Int) (w : World) : Calls Tryz.prog 17 #[.int .i64 x] w fun e w' => e = .returned (.int .i64 x) ∧ w' = w := by
 go_enter Tryz.func17, Tryz.ntmps17
 go_wp2_with fail
 go_ret
 exact ⟨rfl, rfl⟩
end Go.Proofs.YtffncojcnbhblaaGreatDoor
