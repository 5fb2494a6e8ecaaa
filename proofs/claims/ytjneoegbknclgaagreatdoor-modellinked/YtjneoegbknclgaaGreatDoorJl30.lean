/-
  Joined of my texts Ca Do Ce.
-/
import Derived.Test.YtjneoegbknclgaaGreatDoorJl29
import Derived.Test.YtjneoegbknclgaaGreatDoorTk
set_option linter.unusedVariables false
set_option linter.unusedSimpArgs false
set_option maxRecDepth 100000
set_option maxHeartbeats 8000000
namespace Go.Proofs.YtjneoegbknclgaaGreatDoor
open Go.RowKit
theorem s4_kept {w w' : World} {B i : Nat} {p : Pl} {S : Sta} (h : w.cell? ⟨B, 1, none⟩ = some (.int .i64 (i : Int)) ∧ w.cell? ⟨B, 8, none⟩ = some (.slice p.a1 S.ino.length p.c1) ∧ w.cell? ⟨B, 9, none⟩ = some (.slice p.a2 S.opn.length p.c2) ∧ w.cell? ⟨B, 10, none⟩ = some (.slice p.a3 S.made.length p.c3)) (k : Kept [] w w') : w'.cell? ⟨B, 1, none⟩ = some (.int .i64 (i : Int)) ∧ w'.cell? ⟨B, 8, none⟩ = some (.slice p.a1 S.ino.length p.c1) ∧ w'.cell? ⟨B, 9, none⟩ = some (.slice p.a2 S.opn.length p.c2) ∧ w'.cell? ⟨B, 10, none⟩ = some (.slice p.a3 S.made.length p.c3) := ⟨k.cell h.1 (by simp), k.cell h.2.1 (by simp), k.cell h.2.2.1 (by simp), k.cell h.2.2.2 (by simp)⟩
def OnlyN (X : Act → World → Prop) : Exit → Act → World → Prop
 | .normal, a, w => X a w
 | _, _, _ => False
theorem wp_onlyN {P : Program} {c : Code} {a : Act} {w : World} {Q' : Exit → Act → World → Prop} (h : c.wp P (OnlyN (Q' .normal)) a w) : c.wp P Q' a w :=
 Code.wp_mono (fun e a w h => by
  cases e
  case normal => exact h
  all_goals exact h.elim) h
theorem onlyN_normal {X : Act → World → Prop} {a : Act} {w : World} : OnlyN X .normal a w = X a w := rfl
def ansR (S : Sta) : Except Int (Sta × Ans) → Sta × Ans
 | .error code => (S, ansC code)
 | .ok x => x
theorem p_caught {w0 w : World} {B : Nat} {c : Cal} {pk v1 v2 v3 : Value} {ev : List Value} {S : Sta} (h : Cb w0 w B c pk v1 v2 v3 ev S) (hm : mayB S = true) {i : Nat} (hci : c.core = (i : Int)) (hil : i < S.made.length) {r : Except Int (Sta × Ans)}
  (hdo : ∀ W, Cb w0 W B c pk v1 v2 v3 ev S → Calls Tryz.prog 66 #[.pointer (some ⟨B, 0, none⟩)] W (Out w0 W B c pk v1 v2 v3 ev S r)) :
  Calls Tryz.prog 37 #[.pointer (some ⟨B, 0, none⟩)] w (Oks w0 w B c pk v1 v2 v3 ev (ansR S r)) := by
 obtain ⟨W1, R, HWR, HKR, HRb⟩ := boxR w #[.int .i64 0, .int .i64 0, .int .i64 0, .bool false, .string ⟨#[]⟩, .slice none 0 0] 31
 have hmf : ∀ (fn : Fn) (first cap : Array Value) (w : World), (Instr.makeFunc fn first cap).run Tryz.prog w = .ok (.func fn first cap) w := fun _ _ _ _ => rfl
 have HC1 : Hid (Cb w0 W1 B c pk v1 v2 v3 ev S) := h.kept HKR.out
 have HRo : Hid (Off [R] v1 v2 v3 ev ∧ R ≠ B) := h.new (Nat.le_of_eq HWR.out.2)
 have HRw : Hid (w.heap.size ≤ R) := Nat.le_of_eq HWR.out.2
 have HRl : Hid (w0.heap.size ≤ R) := by have := h.k.size; rw [← HWR.out.2]; exact this
 obtain ⟨p, e1, e2, e3, hrd, f1, f3⟩ := HC1.out.rd
 have HM : Hid (∀ W, Kept [] W1 W → Calls Tryz.prog 19 #[.agg #[.slice p.a1 S.ino.length p.c1, .slice p.a2 S.opn.length p.c2, .slice p.a3 S.made.length p.c3]] W fun e w' => e = .returned (.bool true) ∧ Kept [] W w') := fun W hW => by
  have := p_may (hrd.sv.kept hW) (hrd.tab.kept hW) (fun x hx => Nat.le_trans (h.bd.d1 x hx) (by omega))
  rw [hm] at this
  exact this
 have HS : Hid (W1.cell? ⟨B, 1, none⟩ = some (.int .i64 (i : Int)) ∧ W1.cell? ⟨B, 8, none⟩ = some (.slice p.a1 S.ino.length p.c1) ∧ W1.cell? ⟨B, 9, none⟩ = some (.slice p.a2 S.opn.length p.c2) ∧ W1.cell? ⟨B, 10, none⟩ = some (.slice p.a3 S.made.length p.c3)) := ⟨by have := hrd.c1; rw [hci] at this; exact this, hrd.c8, hrd.c9, hrd.c10⟩
 have HDo : Hid (_) := hdo
 have t1 : decide ((i : Int) < 0) = false := by simp
 have t2 : decide ((i : Int) ≥ (S.made.length : Int)) = false := by simpa using hil
 have t3 : decide (S.made.length ≤ i) = false := by simpa using hil
 have HKw : Hid (Kept [] w W1) := HKR.out
 clear h hm hci hil hdo e1 e2 e3 f1 f3 hrd HKR
 go_enter_defers Tryz.func37, Tryz.ntmps37
 go_upto_region 2 with fail
 rw [HWR.out.1, HWR.out.2]
 clear HWR
 refine wp_onlyN ?_
 refine wp_region_held_drew (S := fun w' => w'.cell? ⟨B, 1, none⟩ = some (.int .i64 (i : Int)) ∧ w'.cell? ⟨B, 8, none⟩ = some (.slice p.a1 S.ino.length p.c1) ∧ w'.cell? ⟨B, 9, none⟩ = some (.slice p.a2 S.opn.length p.c2) ∧ w'.cell? ⟨B, 10, none⟩ = some (.slice p.a3 S.made.length p.c3)) (by kernel_rfl) ?_ (fun hHeld => ?_)
 · exact HS.out
 refine tkA 0 rfl ?_
 refine tkA 1 rfl ?_
 refine tkA 2 rfl ?_
 refine tkA 3 rfl ?_
 refine wpAnyH_ready (rs := [4]) (by kernel_rfl) (by simp) ?_
 refine AllReadyH.cons rfl (fun K hK => ?_) AllReadyH.nil
 go_simp
 refine (HM.out _ (Kept.refl _ _).drew).mono ?_
 rintro e w4 ⟨rfl, k4⟩
 have z4 := s4_kept hHeld k4
 have HK4 : Hid (Kept [] W1 w4) := (Kept.refl _ _).drew.trans k4 (by simp)
 clear k4
 go_wp2_with fail
 refine hK.out _ _ ?_ (fun hHeld => ?_)
 · exact z4
 clear hK K
 try simp only [Act.put, List.setIfInBounds_toArray, List.set_cons_zero, List.set_cons_succ, List.getElem_toArray, List.getElem_cons_zero, List.getElem_cons_succ]
 refine tkA 5 rfl ?_
 refine tkA 6 rfl ?_
 refine tkA 7 rfl ?_
 refine tkA 8 rfl ?_
 refine tkA 9 rfl ?_
 refine tkA 10 rfl ?_
 refine tkA 11 rfl ?_
 refine tkA 12 rfl ?_
 refine tkA 13 rfl ?_
 refine tkA 14 rfl ?_
 refine tkA 15 rfl ?_
 refine tkA 16 rfl ?_
 refine tkA 17 rfl ?_
 refine tkA 18 rfl ?_
 refine tkA 19 rfl ?_
 refine tkA 20 rfl ?_
 refine tkA 21 rfl ?_
 refine tkA 22 rfl ?_
 refine tkA 23 rfl ?_
 refine tkA 24 rfl ?_
 refine tkA 25 rfl ?_
 refine tkA 26 rfl ?_
 refine tkA 27 rfl ?_
 refine wpAnyH_ready (rs := [28]) (by kernel_rfl) (by simp) ?_
 refine AllReadyH.cons rfl (fun K hK => ?_) AllReadyH.nil
 go_simp
 refine (p_if_no 9 _).mono ?_
 rintro e w5 ⟨rfl, hw5⟩
 subst hw5
 go_wp2_with fail
 refine hK.out _ _ ?_ (fun hHeld => ?_)
 · exact hHeld
 clear hK K
 try simp only [Act.put, List.setIfInBounds_toArray, List.set_cons_zero, List.set_cons_succ, List.getElem_toArray, List.getElem_cons_zero, List.getElem_cons_succ]
 refine wpAnyH_done (by kernel_rfl) ?_ _
 rw [onlyN_normal]
 have HC5 : Hid (_) := HC1.out.kept HK4.out
 have HRb5 : Hid (_) := (HK4.out.block _ (lt_of_heap HRb.out) (by simp)).trans HRb.out
 have HKw5 : Hid (Kept [] w w5) := HKw.out.trans HK4.out (by simp)
 clear z4 HC1 HRb HK4 HKw HS t1 t2 t3 HM
 go_wp2_with fail
 refine (HDo.out w5 HC5.out).mono ?_
 rintro e w6 hout
 rcases r with code | ⟨S', v⟩
 ·
  obtain ⟨rfl, u1, u2, u3, eu, hcb, hfr⟩ := hout
  have h6 := hfr.2 R (lt_of_heap HRb5.out) HRo.out.2 HRo.out.1
  have HB6 : Hid (_) := h6.1.trans HRb5.out
  have HE : Hid (Oks w0 w B c pk v1 v2 v3 ev (ansR S (.error code)) (.returned (ansV (ansC code) (.slice none 0 0))) (laidR w6 R (.int .i64 code) (.int .i64 0) (.int .i64 0) (.bool false) (.string ⟨#[]⟩) (.slice none 0 0))) := Oks.laid HKw5.out HRl.out HRw.out (lt_of_heap HRb5.out) HRo.out (Sr.nil _ _) (fun b e => by cases e) hcb hfr _ _ _ _ _ _
  clear hcb hfr h6 HC5 HRb5
  refine leaves_cons (f := 64) (args := #[.pointer (some ⟨R, 0, none⟩)]) (by simp) (by simp [go_sem]) ?_
  refine (catch_thrown R code [] HB6.out).mono ?_
  rintro e u' w'' ⟨rfl, rfl, rfl⟩
  exact ⟨_, results_cell_row rfl _ _ R 31 #[.int .i64 code, .int .i64 0, .int .i64 0, .bool false, .string ⟨#[]⟩, .slice none 0 0] (0, 0) _ rfl (block_res HB6.out _ _ _ _ _ _) Tryz.underlying31 rfl (by kernel_rfl), HE.out⟩
 ·
  obtain ⟨x, l, k, u1, u2, u3, eu, rfl, hsr, hof, hcb, hfr⟩ := hout
  obtain ⟨a, b, n, d, t, ns⟩ := v
  have h6 := hfr.2 R (lt_of_heap HRb5.out) HRo.out.2 HRo.out.1
  have hb6 : w6.heap[R]? = _ := h6.1.trans HRb5.out
  have HE : Hid (Oks w0 w B c pk v1 v2 v3 ev (ansR S (.ok (S', ⟨a, b, n, d, t, ns⟩))) (.returned (.agg #[.int .i64 a, .int .i64 b, .int .i64 n, .bool d, .string t, .slice x l k])) (laidR w6 R (.int .i64 a) (.int .i64 b) (.int .i64 n) (.bool d) (.string t) (.slice x l k))) := Oks.laid HKw5.out HRl.out HRw.out (lt_of_heap HRb5.out) HRo.out hsr hof hcb hfr _ _ _ _ _ _
  have HB6 : Hid (_) := hb6
  obtain ⟨g0, g1, g2, g3, g4, g5⟩ := cz6 hb6
  obtain ⟨z0, z1, z2, z3, z4, z5⟩ := fz6 hb6
  clear hcb hfr h6 HC5 HRb5 hb6 hsr hof
  dsimp only [ansV]
  go_wp2_with fail
  (try simp only [Exit.inBlock, Exit.then])
  refine leaves_cons (f := 64) (args := #[.pointer (some ⟨R, 0, none⟩)]) (by simp) (by simp [go_sem]) ?_
  refine (catch_idle R _).mono ?_
  rintro e u' w'' ⟨rfl, rfl, rfl⟩
  exact ⟨_, results_cell_row rfl _ _ R 31 #[.int .i64 a, .int .i64 b, .int .i64 n, .bool d, .string t, .slice x l k] (0, 0) _ rfl (block_res HB6.out _ _ _ _ _ _) Tryz.underlying31 rfl (by kernel_rfl), HE.out⟩
theorem do_create {w0 w : World} {B : Nat} {c : Cal} {pk v1 v2 v3 : Value} {ev : List Value} {S : Sta} (h : Cb w0 w B c pk v1 v2 v3 ev S) (hk : c.kind = 0) {r : Except Int (Sta × Ans)}
  (hdo : ∀ W, Cb w0 W B c pk v1 v2 v3 ev S → Calls Tryz.prog 102 #[.pointer (some ⟨B, 0, none⟩), .bool false] W (Out w0 W B c pk v1 v2 v3 ev S r)) :
  Calls Tryz.prog 66 #[.pointer (some ⟨B, 0, none⟩)] w (Out w0 w B c pk v1 v2 v3 ev S r) := by
 obtain ⟨W1, R, HWR, HKR, HRb⟩ := boxR w #[.int .i64 0, .int .i64 0, .int .i64 0, .bool false, .string ⟨#[]⟩, .slice none 0 0] 31
 have HC1 : Hid (Cb w0 W1 B c pk v1 v2 v3 ev S) := h.kept HKR.out
 have HRo : Hid (Off [R] v1 v2 v3 ev ∧ R ≠ B) := h.new (Nat.le_of_eq HWR.out.2)
 have HRw : Hid (w.heap.size ≤ R) := Nat.le_of_eq HWR.out.2
 have HRl : Hid (w0.heap.size ≤ R) := by have := h.k.size; rw [← HWR.out.2]; exact this
 have d0 : W1.cell? ⟨B, 0, none⟩ = some (.int .i64 0) := by rw [← hk]; exact cellB HC1.out.box
 have HDo : Hid (_) := hdo
 clear h hk hdo
 go_enter Tryz.func66, Tryz.ntmps66
 go_upto_region 1 with fail
 rw [HWR.out.1, HWR.out.2]
 clear HWR
 go_wp2_with fail
 refine (HDo.out W1 HC1.out).mono ?_
 rintro e w6 hout
 rcases r with code | ⟨S', v⟩
 ·
  obtain ⟨rfl, u1, u2, u3, eu, hcb, hfr⟩ := hout
  exact ⟨rfl, rfl, u1, u2, u3, eu, hcb, (FrB.kept HKR.out).trans hfr⟩
 ·
  obtain ⟨x, l, k, u1, u2, u3, eu, rfl, hsr, hof, hcb, hfr⟩ := hout
  obtain ⟨a, b, n, d, t, ns⟩ := v
  have h6 := hfr.2 R (lt_of_heap HRb.out) HRo.out.2 HRo.out.1
  have hb6 : w6.heap[R]? = _ := h6.1.trans HRb.out
  have HE : Hid (Out w0 w B c pk v1 v2 v3 ev S (.ok (S', ⟨a, b, n, d, t, ns⟩)) (.returned (.agg #[.int .i64 a, .int .i64 b, .int .i64 n, .bool d, .string t, .slice x l k])) (laidR w6 R (.int .i64 a) (.int .i64 b) (.int .i64 n) (.bool d) (.string t) (.slice x l k))) := Oks.laid HKR.out HRl.out HRw.out (lt_of_heap HRb.out) HRo.out hsr hof hcb hfr _ _ _ _ _ _
  have HB6 : Hid (_) := hb6
  obtain ⟨g0, g1, g2, g3, g4, g5⟩ := cz6 hb6
  obtain ⟨z0, z1, z2, z3, z4, z5⟩ := fz6 hb6
  clear hcb hfr h6 HC1 HRb hb6 d0 hsr hof
  dsimp only [ansV]
  go_wp2_with fail
  (try simp only [Exit.inBlock, Exit.then])
  refine bodyPost_ret (results_cell_row rfl _ _ R 31 #[.int .i64 a, .int .i64 b, .int .i64 n, .bool d, .string t, .slice x l k] (0, 0) _ rfl (block_res HB6.out _ _ _ _ _ _) Tryz.underlying31 rfl (by kernel_rfl)) rfl ?_
  exact HE.out
theorem do_open {w0 w : World} {B : Nat} {c : Cal} {pk v1 v2 v3 : Value} {ev : List Value} {S : Sta} (h : Cb w0 w B c pk v1 v2 v3 ev S) (hk : c.kind = 2) {r : Except Int (Sta × Ans)}
  (hdo : ∀ W, Cb w0 W B c pk v1 v2 v3 ev S → Calls Tryz.prog 103 #[.pointer (some ⟨B, 0, none⟩)] W (Out w0 W B c pk v1 v2 v3 ev S r)) :
  Calls Tryz.prog 66 #[.pointer (some ⟨B, 0, none⟩)] w (Out w0 w B c pk v1 v2 v3 ev S r) := by
 obtain ⟨W1, R, HWR, HKR, HRb⟩ := boxR w #[.int .i64 0, .int .i64 0, .int .i64 0, .bool false, .string ⟨#[]⟩, .slice none 0 0] 31
 have HC1 : Hid (Cb w0 W1 B c pk v1 v2 v3 ev S) := h.kept HKR.out
 have HRo : Hid (Off [R] v1 v2 v3 ev ∧ R ≠ B) := h.new (Nat.le_of_eq HWR.out.2)
 have HRw : Hid (w.heap.size ≤ R) := Nat.le_of_eq HWR.out.2
 have HRl : Hid (w0.heap.size ≤ R) := by have := h.k.size; rw [← HWR.out.2]; exact this
 have d0 : W1.cell? ⟨B, 0, none⟩ = some (.int .i64 2) := by rw [← hk]; exact cellB HC1.out.box
 have HDo : Hid (_) := hdo
 clear h hk hdo
 go_enter Tryz.func66, Tryz.ntmps66
 go_upto_region 1 with fail
 rw [HWR.out.1, HWR.out.2]
 clear HWR
 go_wp2_with fail
 refine (HDo.out W1 HC1.out).mono ?_
 rintro e w6 hout
 rcases r with code | ⟨S', v⟩
 ·
  obtain ⟨rfl, u1, u2, u3, eu, hcb, hfr⟩ := hout
  exact ⟨rfl, rfl, u1, u2, u3, eu, hcb, (FrB.kept HKR.out).trans hfr⟩
 ·
  obtain ⟨x, l, k, u1, u2, u3, eu, rfl, hsr, hof, hcb, hfr⟩ := hout
  obtain ⟨a, b, n, d, t, ns⟩ := v
  have h6 := hfr.2 R (lt_of_heap HRb.out) HRo.out.2 HRo.out.1
  have hb6 : w6.heap[R]? = _ := h6.1.trans HRb.out
  have HE : Hid (Out w0 w B c pk v1 v2 v3 ev S (.ok (S', ⟨a, b, n, d, t, ns⟩)) (.returned (.agg #[.int .i64 a, .int .i64 b, .int .i64 n, .bool d, .string t, .slice x l k])) (laidR w6 R (.int .i64 a) (.int .i64 b) (.int .i64 n) (.bool d) (.string t) (.slice x l k))) := Oks.laid HKR.out HRl.out HRw.out (lt_of_heap HRb.out) HRo.out hsr hof hcb hfr _ _ _ _ _ _
  have HB6 : Hid (_) := hb6
  obtain ⟨g0, g1, g2, g3, g4, g5⟩ := cz6 hb6
  obtain ⟨z0, z1, z2, z3, z4, z5⟩ := fz6 hb6
  clear hcb hfr h6 HC1 HRb hb6 d0 hsr hof
  dsimp only [ansV]
  go_wp2_with fail
  (try simp only [Exit.inBlock, Exit.then])
  refine bodyPost_ret (results_cell_row rfl _ _ R 31 #[.int .i64 a, .int .i64 b, .int .i64 n, .bool d, .string t, .slice x l k] (0, 0) _ rfl (block_res HB6.out _ _ _ _ _ _) Tryz.underlying31 rfl (by kernel_rfl)) rfl ?_
  exact HE.out
theorem do_close {w0 w : World} {B : Nat} {c : Cal} {pk v1 v2 v3 : Value} {ev : List Value} {S : Sta} (h : Cb w0 w B c pk v1 v2 v3 ev S) (hk : c.kind = 3) {r : Except Int (Sta × Ans)}
  (hdo : ∀ W, Cb w0 W B c pk v1 v2 v3 ev S → Calls Tryz.prog 104 #[.pointer (some ⟨B, 0, none⟩)] W (Out w0 W B c pk v1 v2 v3 ev S r)) :
  Calls Tryz.prog 66 #[.pointer (some ⟨B, 0, none⟩)] w (Out w0 w B c pk v1 v2 v3 ev S r) := by
 obtain ⟨W1, R, HWR, HKR, HRb⟩ := boxR w #[.int .i64 0, .int .i64 0, .int .i64 0, .bool false, .string ⟨#[]⟩, .slice none 0 0] 31
 have HC1 : Hid (Cb w0 W1 B c pk v1 v2 v3 ev S) := h.kept HKR.out
 have HRo : Hid (Off [R] v1 v2 v3 ev ∧ R ≠ B) := h.new (Nat.le_of_eq HWR.out.2)
 have HRw : Hid (w.heap.size ≤ R) := Nat.le_of_eq HWR.out.2
 have HRl : Hid (w0.heap.size ≤ R) := by have := h.k.size; rw [← HWR.out.2]; exact this
 have d0 : W1.cell? ⟨B, 0, none⟩ = some (.int .i64 3) := by rw [← hk]; exact cellB HC1.out.box
 have HDo : Hid (_) := hdo
 clear h hk hdo
 go_enter Tryz.func66, Tryz.ntmps66
 go_upto_region 1 with fail
 rw [HWR.out.1, HWR.out.2]
 clear HWR
 go_wp2_with fail
 refine (HDo.out W1 HC1.out).mono ?_
 rintro e w6 hout
 rcases r with code | ⟨S', v⟩
 ·
  obtain ⟨rfl, u1, u2, u3, eu, hcb, hfr⟩ := hout
  exact ⟨rfl, rfl, u1, u2, u3, eu, hcb, (FrB.kept HKR.out).trans hfr⟩
 ·
  obtain ⟨x, l, k, u1, u2, u3, eu, rfl, hsr, hof, hcb, hfr⟩ := hout
  obtain ⟨a, b, n, d, t, ns⟩ := v
  have h6 := hfr.2 R (lt_of_heap HRb.out) HRo.out.2 HRo.out.1
  have hb6 : w6.heap[R]? = _ := h6.1.trans HRb.out
  have HE : Hid (Out w0 w B c pk v1 v2 v3 ev S (.ok (S', ⟨a, b, n, d, t, ns⟩)) (.returned (.agg #[.int .i64 a, .int .i64 b, .int .i64 n, .bool d, .string t, .slice x l k])) (laidR w6 R (.int .i64 a) (.int .i64 b) (.int .i64 n) (.bool d) (.string t) (.slice x l k))) := Oks.laid HKR.out HRl.out HRw.out (lt_of_heap HRb.out) HRo.out hsr hof hcb hfr _ _ _ _ _ _
  have HB6 : Hid (_) := hb6
  obtain ⟨g0, g1, g2, g3, g4, g5⟩ := cz6 hb6
  obtain ⟨z0, z1, z2, z3, z4, z5⟩ := fz6 hb6
  clear hcb hfr h6 HC1 HRb hb6 d0 hsr hof
  dsimp only [ansV]
  go_wp2_with fail
  (try simp only [Exit.inBlock, Exit.then])
  refine bodyPost_ret (results_cell_row rfl _ _ R 31 #[.int .i64 a, .int .i64 b, .int .i64 n, .bool d, .string t, .slice x l k] (0, 0) _ rfl (block_res HB6.out _ _ _ _ _ _) Tryz.underlying31 rfl (by kernel_rfl)) rfl ?_
  exact HE.out
theorem do_read {w0 w : World} {B : Nat} {c : Cal} {pk v1 v2 v3 : Value} {ev : List Value} {S : Sta} (h : Cb w0 w B c pk v1 v2 v3 ev S) (hk : c.kind = 4) {r : Except Int (Sta × Ans)}
  (hdo : ∀ W, Cb w0 W B c pk v1 v2 v3 ev S → Calls Tryz.prog 105 #[.pointer (some ⟨B, 0, none⟩)] W (Out w0 W B c pk v1 v2 v3 ev S r)) :
  Calls Tryz.prog 66 #[.pointer (some ⟨B, 0, none⟩)] w (Out w0 w B c pk v1 v2 v3 ev S r) := by
 obtain ⟨W1, R, HWR, HKR, HRb⟩ := boxR w #[.int .i64 0, .int .i64 0, .int .i64 0, .bool false, .string ⟨#[]⟩, .slice none 0 0] 31
 have HC1 : Hid (Cb w0 W1 B c pk v1 v2 v3 ev S) := h.kept HKR.out
 have HRo : Hid (Off [R] v1 v2 v3 ev ∧ R ≠ B) := h.new (Nat.le_of_eq HWR.out.2)
 have HRw : Hid (w.heap.size ≤ R) := Nat.le_of_eq HWR.out.2
 have HRl : Hid (w0.heap.size ≤ R) := by have := h.k.size; rw [← HWR.out.2]; exact this
 have d0 : W1.cell? ⟨B, 0, none⟩ = some (.int .i64 4) := by rw [← hk]; exact cellB HC1.out.box
 have HDo : Hid (_) := hdo
 clear h hk hdo
 go_enter Tryz.func66, Tryz.ntmps66
 go_upto_region 1 with fail
 rw [HWR.out.1, HWR.out.2]
 clear HWR
 go_wp2_with fail
 refine (HDo.out W1 HC1.out).mono ?_
 rintro e w6 hout
 rcases r with code | ⟨S', v⟩
 ·
  obtain ⟨rfl, u1, u2, u3, eu, hcb, hfr⟩ := hout
  exact ⟨rfl, rfl, u1, u2, u3, eu, hcb, (FrB.kept HKR.out).trans hfr⟩
 ·
  obtain ⟨x, l, k, u1, u2, u3, eu, rfl, hsr, hof, hcb, hfr⟩ := hout
  obtain ⟨a, b, n, d, t, ns⟩ := v
  have h6 := hfr.2 R (lt_of_heap HRb.out) HRo.out.2 HRo.out.1
  have hb6 : w6.heap[R]? = _ := h6.1.trans HRb.out
  have HE : Hid (Out w0 w B c pk v1 v2 v3 ev S (.ok (S', ⟨a, b, n, d, t, ns⟩)) (.returned (.agg #[.int .i64 a, .int .i64 b, .int .i64 n, .bool d, .string t, .slice x l k])) (laidR w6 R (.int .i64 a) (.int .i64 b) (.int .i64 n) (.bool d) (.string t) (.slice x l k))) := Oks.laid HKR.out HRl.out HRw.out (lt_of_heap HRb.out) HRo.out hsr hof hcb hfr _ _ _ _ _ _
  have HB6 : Hid (_) := hb6
  obtain ⟨g0, g1, g2, g3, g4, g5⟩ := cz6 hb6
  obtain ⟨z0, z1, z2, z3, z4, z5⟩ := fz6 hb6
  clear hcb hfr h6 HC1 HRb hb6 d0 hsr hof
  dsimp only [ansV]
  go_wp2_with fail
  (try simp only [Exit.inBlock, Exit.then])
  refine bodyPost_ret (results_cell_row rfl _ _ R 31 #[.int .i64 a, .int .i64 b, .int .i64 n, .bool d, .string t, .slice x l k] (0, 0) _ rfl (block_res HB6.out _ _ _ _ _ _) Tryz.underlying31 rfl (by kernel_rfl)) rfl ?_
  exact HE.out
theorem do_write {w0 w : World} {B : Nat} {c : Cal} {pk v1 v2 v3 : Value} {ev : List Value} {S : Sta} (h : Cb w0 w B c pk v1 v2 v3 ev S) (hk : c.kind = 5) {r : Except Int (Sta × Ans)}
  (hdo : ∀ W, Cb w0 W B c pk v1 v2 v3 ev S → Calls Tryz.prog 106 #[.pointer (some ⟨B, 0, none⟩)] W (Out w0 W B c pk v1 v2 v3 ev S r)) :
  Calls Tryz.prog 66 #[.pointer (some ⟨B, 0, none⟩)] w (Out w0 w B c pk v1 v2 v3 ev S r) := by
 obtain ⟨W1, R, HWR, HKR, HRb⟩ := boxR w #[.int .i64 0, .int .i64 0, .int .i64 0, .bool false, .string ⟨#[]⟩, .slice none 0 0] 31
 have HC1 : Hid (Cb w0 W1 B c pk v1 v2 v3 ev S) := h.kept HKR.out
 have HRo : Hid (Off [R] v1 v2 v3 ev ∧ R ≠ B) := h.new (Nat.le_of_eq HWR.out.2)
 have HRw : Hid (w.heap.size ≤ R) := Nat.le_of_eq HWR.out.2
 have HRl : Hid (w0.heap.size ≤ R) := by have := h.k.size; rw [← HWR.out.2]; exact this
 have d0 : W1.cell? ⟨B, 0, none⟩ = some (.int .i64 5) := by rw [← hk]; exact cellB HC1.out.box
 have HDo : Hid (_) := hdo
 clear h hk hdo
 go_enter Tryz.func66, Tryz.ntmps66
 go_upto_region 1 with fail
 rw [HWR.out.1, HWR.out.2]
 clear HWR
 go_wp2_with fail
 refine (HDo.out W1 HC1.out).mono ?_
 rintro e w6 hout
 rcases r with code | ⟨S', v⟩
 ·
  obtain ⟨rfl, u1, u2, u3, eu, hcb, hfr⟩ := hout
  exact ⟨rfl, rfl, u1, u2, u3, eu, hcb, (FrB.kept HKR.out).trans hfr⟩
 ·
  obtain ⟨x, l, k, u1, u2, u3, eu, rfl, hsr, hof, hcb, hfr⟩ := hout
  obtain ⟨a, b, n, d, t, ns⟩ := v
  have h6 := hfr.2 R (lt_of_heap HRb.out) HRo.out.2 HRo.out.1
  have hb6 : w6.heap[R]? = _ := h6.1.trans HRb.out
  have HE : Hid (Out w0 w B c pk v1 v2 v3 ev S (.ok (S', ⟨a, b, n, d, t, ns⟩)) (.returned (.agg #[.int .i64 a, .int .i64 b, .int .i64 n, .bool d, .string t, .slice x l k])) (laidR w6 R (.int .i64 a) (.int .i64 b) (.int .i64 n) (.bool d) (.string t) (.slice x l k))) := Oks.laid HKR.out HRl.out HRw.out (lt_of_heap HRb.out) HRo.out hsr hof hcb hfr _ _ _ _ _ _
  have HB6 : Hid (_) := hb6
  obtain ⟨g0, g1, g2, g3, g4, g5⟩ := cz6 hb6
  obtain ⟨z0, z1, z2, z3, z4, z5⟩ := fz6 hb6
  clear hcb hfr h6 HC1 HRb hb6 d0 hsr hof
  dsimp only [ansV]
  go_wp2_with fail
  (try simp only [Exit.inBlock, Exit.then])
  refine bodyPost_ret (results_cell_row rfl _ _ R 31 #[.int .i64 a, .int .i64 b, .int .i64 n, .bool d, .string t, .slice x l k] (0, 0) _ rfl (block_res HB6.out _ _ _ _ _ _) Tryz.underlying31 rfl (by kernel_rfl)) rfl ?_
  exact HE.out
theorem do_unlink {w0 w : World} {B : Nat} {c : Cal} {pk v1 v2 v3 : Value} {ev : List Value} {S : Sta} (h : Cb w0 w B c pk v1 v2 v3 ev S) (hk : c.kind = 9) {r : Except Int (Sta × Ans)}
  (hdo : ∀ W, Cb w0 W B c pk v1 v2 v3 ev S → Calls Tryz.prog 110 #[.pointer (some ⟨B, 0, none⟩)] W (Out w0 W B c pk v1 v2 v3 ev S r)) :
  Calls Tryz.prog 66 #[.pointer (some ⟨B, 0, none⟩)] w (Out w0 w B c pk v1 v2 v3 ev S r) := by
 obtain ⟨W1, R, HWR, HKR, HRb⟩ := boxR w #[.int .i64 0, .int .i64 0, .int .i64 0, .bool false, .string ⟨#[]⟩, .slice none 0 0] 31
 have HC1 : Hid (Cb w0 W1 B c pk v1 v2 v3 ev S) := h.kept HKR.out
 have HRo : Hid (Off [R] v1 v2 v3 ev ∧ R ≠ B) := h.new (Nat.le_of_eq HWR.out.2)
 have HRw : Hid (w.heap.size ≤ R) := Nat.le_of_eq HWR.out.2
 have HRl : Hid (w0.heap.size ≤ R) := by have := h.k.size; rw [← HWR.out.2]; exact this
 have d0 : W1.cell? ⟨B, 0, none⟩ = some (.int .i64 9) := by rw [← hk]; exact cellB HC1.out.box
 have HDo : Hid (_) := hdo
 clear h hk hdo
 go_enter Tryz.func66, Tryz.ntmps66
 go_upto_region 1 with fail
 rw [HWR.out.1, HWR.out.2]
 clear HWR
 go_wp2_with fail
 refine (HDo.out W1 HC1.out).mono ?_
 rintro e w6 hout
 rcases r with code | ⟨S', v⟩
 ·
  obtain ⟨rfl, u1, u2, u3, eu, hcb, hfr⟩ := hout
  exact ⟨rfl, rfl, u1, u2, u3, eu, hcb, (FrB.kept HKR.out).trans hfr⟩
 ·
  obtain ⟨x, l, k, u1, u2, u3, eu, rfl, hsr, hof, hcb, hfr⟩ := hout
  obtain ⟨a, b, n, d, t, ns⟩ := v
  have h6 := hfr.2 R (lt_of_heap HRb.out) HRo.out.2 HRo.out.1
  have hb6 : w6.heap[R]? = _ := h6.1.trans HRb.out
  have HE : Hid (Out w0 w B c pk v1 v2 v3 ev S (.ok (S', ⟨a, b, n, d, t, ns⟩)) (.returned (.agg #[.int .i64 a, .int .i64 b, .int .i64 n, .bool d, .string t, .slice x l k])) (laidR w6 R (.int .i64 a) (.int .i64 b) (.int .i64 n) (.bool d) (.string t) (.slice x l k))) := Oks.laid HKR.out HRl.out HRw.out (lt_of_heap HRb.out) HRo.out hsr hof hcb hfr _ _ _ _ _ _
  have HB6 : Hid (_) := hb6
  obtain ⟨g0, g1, g2, g3, g4, g5⟩ := cz6 hb6
  obtain ⟨z0, z1, z2, z3, z4, z5⟩ := fz6 hb6
  clear hcb hfr h6 HC1 HRb hb6 d0 hsr hof
  dsimp only [ansV]
  go_wp2_with fail
  (try simp only [Exit.inBlock, Exit.then])
  refine bodyPost_ret (results_cell_row rfl _ _ R 31 #[.int .i64 a, .int .i64 b, .int .i64 n, .bool d, .string t, .slice x l k] (0, 0) _ rfl (block_res HB6.out _ _ _ _ _ _) Tryz.underlying31 rfl (by kernel_rfl)) rfl ?_
  exact HE.out
theorem do_stat {w0 w : World} {B : Nat} {c : Cal} {pk v1 v2 v3 : Value} {ev : List Value} {S : Sta} (h : Cb w0 w B c pk v1 v2 v3 ev S) (hk : c.kind = 13) {r : Except Int (Sta × Ans)}
  (hdo : ∀ W, Cb w0 W B c pk v1 v2 v3 ev S → Calls Tryz.prog 114 #[.pointer (some ⟨B, 0, none⟩)] W (Out w0 W B c pk v1 v2 v3 ev S r)) :
  Calls Tryz.prog 66 #[.pointer (some ⟨B, 0, none⟩)] w (Out w0 w B c pk v1 v2 v3 ev S r) := by
 obtain ⟨W1, R, HWR, HKR, HRb⟩ := boxR w #[.int .i64 0, .int .i64 0, .int .i64 0, .bool false, .string ⟨#[]⟩, .slice none 0 0] 31
 have HC1 : Hid (Cb w0 W1 B c pk v1 v2 v3 ev S) := h.kept HKR.out
 have HRo : Hid (Off [R] v1 v2 v3 ev ∧ R ≠ B) := h.new (Nat.le_of_eq HWR.out.2)
 have HRw : Hid (w.heap.size ≤ R) := Nat.le_of_eq HWR.out.2
 have HRl : Hid (w0.heap.size ≤ R) := by have := h.k.size; rw [← HWR.out.2]; exact this
 have d0 : W1.cell? ⟨B, 0, none⟩ = some (.int .i64 13) := by rw [← hk]; exact cellB HC1.out.box
 have HDo : Hid (_) := hdo
 clear h hk hdo
 go_enter Tryz.func66, Tryz.ntmps66
 go_upto_region 1 with fail
 rw [HWR.out.1, HWR.out.2]
 clear HWR
 go_wp2_with fail
 refine (HDo.out W1 HC1.out).mono ?_
 rintro e w6 hout
 rcases r with code | ⟨S', v⟩
 ·
  obtain ⟨rfl, u1, u2, u3, eu, hcb, hfr⟩ := hout
  exact ⟨rfl, rfl, u1, u2, u3, eu, hcb, (FrB.kept HKR.out).trans hfr⟩
 ·
  obtain ⟨x, l, k, u1, u2, u3, eu, rfl, hsr, hof, hcb, hfr⟩ := hout
  obtain ⟨a, b, n, d, t, ns⟩ := v
  have h6 := hfr.2 R (lt_of_heap HRb.out) HRo.out.2 HRo.out.1
  have hb6 : w6.heap[R]? = _ := h6.1.trans HRb.out
  have HE : Hid (Out w0 w B c pk v1 v2 v3 ev S (.ok (S', ⟨a, b, n, d, t, ns⟩)) (.returned (.agg #[.int .i64 a, .int .i64 b, .int .i64 n, .bool d, .string t, .slice x l k])) (laidR w6 R (.int .i64 a) (.int .i64 b) (.int .i64 n) (.bool d) (.string t) (.slice x l k))) := Oks.laid HKR.out HRl.out HRw.out (lt_of_heap HRb.out) HRo.out hsr hof hcb hfr _ _ _ _ _ _
  have HB6 : Hid (_) := hb6
  obtain ⟨g0, g1, g2, g3, g4, g5⟩ := cz6 hb6
  obtain ⟨z0, z1, z2, z3, z4, z5⟩ := fz6 hb6
  clear hcb hfr h6 HC1 HRb hb6 d0 hsr hof
  dsimp only [ansV]
  go_wp2_with fail
  (try simp only [Exit.inBlock, Exit.then])
  refine bodyPost_ret (results_cell_row rfl _ _ R 31 #[.int .i64 a, .int .i64 b, .int .i64 n, .bool d, .string t, .slice x l k] (0, 0) _ rfl (block_res HB6.out _ _ _ _ _ _) Tryz.underlying31 rfl (by kernel_rfl)) rfl ?_
  exact HE.out
theorem do_links {w0 w : World} {B : Nat} {c : Cal} {pk v1 v2 v3 : Value} {ev : List Value} {S : Sta} (h : Cb w0 w B c pk v1 v2 v3 ev S) (hk : c.kind = 14) {r : Except Int (Sta × Ans)}
  (hdo : ∀ W, Cb w0 W B c pk v1 v2 v3 ev S → Calls Tryz.prog 115 #[.pointer (some ⟨B, 0, none⟩)] W (Out w0 W B c pk v1 v2 v3 ev S r)) :
  Calls Tryz.prog 66 #[.pointer (some ⟨B, 0, none⟩)] w (Out w0 w B c pk v1 v2 v3 ev S r) := by
 obtain ⟨W1, R, HWR, HKR, HRb⟩ := boxR w #[.int .i64 0, .int .i64 0, .int .i64 0, .bool false, .string ⟨#[]⟩, .slice none 0 0] 31
 have HC1 : Hid (Cb w0 W1 B c pk v1 v2 v3 ev S) := h.kept HKR.out
 have HRo : Hid (Off [R] v1 v2 v3 ev ∧ R ≠ B) := h.new (Nat.le_of_eq HWR.out.2)
 have HRw : Hid (w.heap.size ≤ R) := Nat.le_of_eq HWR.out.2
 have HRl : Hid (w0.heap.size ≤ R) := by have := h.k.size; rw [← HWR.out.2]; exact this
 have d0 : W1.cell? ⟨B, 0, none⟩ = some (.int .i64 14) := by rw [← hk]; exact cellB HC1.out.box
 have HDo : Hid (_) := hdo
 clear h hk hdo
 go_enter Tryz.func66, Tryz.ntmps66
 go_upto_region 1 with fail
 rw [HWR.out.1, HWR.out.2]
 clear HWR
 go_wp2_with fail
 refine (HDo.out W1 HC1.out).mono ?_
 rintro e w6 hout
 rcases r with code | ⟨S', v⟩
 ·
  obtain ⟨rfl, u1, u2, u3, eu, hcb, hfr⟩ := hout
  exact ⟨rfl, rfl, u1, u2, u3, eu, hcb, (FrB.kept HKR.out).trans hfr⟩
 ·
  obtain ⟨x, l, k, u1, u2, u3, eu, rfl, hsr, hof, hcb, hfr⟩ := hout
  obtain ⟨a, b, n, d, t, ns⟩ := v
  have h6 := hfr.2 R (lt_of_heap HRb.out) HRo.out.2 HRo.out.1
  have hb6 : w6.heap[R]? = _ := h6.1.trans HRb.out
  have HE : Hid (Out w0 w B c pk v1 v2 v3 ev S (.ok (S', ⟨a, b, n, d, t, ns⟩)) (.returned (.agg #[.int .i64 a, .int .i64 b, .int .i64 n, .bool d, .string t, .slice x l k])) (laidR w6 R (.int .i64 a) (.int .i64 b) (.int .i64 n) (.bool d) (.string t) (.slice x l k))) := Oks.laid HKR.out HRl.out HRw.out (lt_of_heap HRb.out) HRo.out hsr hof hcb hfr _ _ _ _ _ _
  have HB6 : Hid (_) := hb6
  obtain ⟨g0, g1, g2, g3, g4, g5⟩ := cz6 hb6
  obtain ⟨z0, z1, z2, z3, z4, z5⟩ := fz6 hb6
  clear hcb hfr h6 HC1 HRb hb6 d0 hsr hof
  dsimp only [ansV]
  go_wp2_with fail
  (try simp only [Exit.inBlock, Exit.then])
  refine bodyPost_ret (results_cell_row rfl _ _ R 31 #[.int .i64 a, .int .i64 b, .int .i64 n, .bool d, .string t, .slice x l k] (0, 0) _ rfl (block_res HB6.out _ _ _ _ _ _) Tryz.underlying31 rfl (by kernel_rfl)) rfl ?_
  exact HE.out
end Go.Proofs.YtjneoegbknclgaaGreatDoor
