/-
  Joined of my texts Ca.
-/
import Derived.Test.YtmeafancgmkfkaaGreatDoorJf37
namespace Go.Proofs.YtmeafancgmkfkaaGreatDoor
open List renaming setIfInBounds_toArray → lz0, set_cons_zero → lz1, set_cons_succ → lz2, getElem_toArray → lz3, getElem_cons_zero → lz4, getElem_cons_succ → lz5
open Go.RowKit
set_option linter.unusedVariables false
set_option linter.unusedSimpArgs false
theorem s4_kept {w w' : World} {B i : Nat} {p : Pl} {S : Sta} (h : w.cell? ⟨B, 1, none⟩ = some (.int .i64 (i : Int)) ∧ w.cell? ⟨B, 8, none⟩ = some (.slice p.a1 S.ino.length p.c1) ∧ w.cell? ⟨B, 9, none⟩ = some (.slice p.a2 S.opn.length p.c2) ∧ w.cell? ⟨B, 10, none⟩ = some (.slice p.a3 S.made.length p.c3)) (k : Kept [] w w') : w'.cell? ⟨B, 1, none⟩ = some (.int .i64 (i : Int)) ∧ w'.cell? ⟨B, 8, none⟩ = some (.slice p.a1 S.ino.length p.c1) ∧ w'.cell? ⟨B, 9, none⟩ = some (.slice p.a2 S.opn.length p.c2) ∧ w'.cell? ⟨B, 10, none⟩ = some (.slice p.a3 S.made.length p.c3) := ⟨k.cell h.1 (by simp), k.cell h.2.1 (by simp), k.cell h.2.2.1 (by simp), k.cell h.2.2.2 (by simp)⟩
def OnlyN (X : Act → World → Prop) : Exit → Act → World → Prop
 | .normal, a, w => X a w
 | _, _, _ => False
theorem wp_onlyN {P : Program} {c : Code} {a : Act} {w : World} {Q' : Exit → Act → World → Prop} (h : c.wp P (OnlyN (Q' .normal)) a w) : c.wp P Q' a w :=
 Code.wp_mono (fun e a w h => by
   cases e
   case normal => exact h
   all_goals exact h.elim) h
theorem onlyN_normal {X : Act → World → Prop} {a : Act} {w : World} : OnlyN X .normal a w = X a w := rfl
def ansR (S : Sta) : Except Int (Sta × Ans) → Sta × Ans
 | .error code => (S, ansC code)
 | .ok x => x
set_option maxRecDepth 100000 in
set_option maxHeartbeats 8000000 in
theorem p_caught {w0 w : World} {B : Nat} {c : Cal} {pk v1 v2 v3 : Value} {ev : List Value} {S : Sta} (h : Cb w0 w B c pk v1 v2 v3 ev S) (hm : mayB S = true) {i : Nat} (hci : c.core = (i : Int)) (hil : i < S.made.length) {r : Except Int (Sta × Ans)}
   (hdo : ∀ W, Cb w0 W B c pk v1 v2 v3 ev S → Calls Tryz.prog 58 #[.pointer (some ⟨B, 0, none⟩)] W (Out w0 W B c pk v1 v2 v3 ev S r)) :
   Calls Tryz.prog 36 #[.pointer (some ⟨B, 0, none⟩)] w (Oks w0 w B c pk v1 v2 v3 ev (ansR S r)) := by
 obtain ⟨W1, R, HWR, HKR, HRb⟩ := boxR w #[.int .i64 0, .int .i64 0, .int .i64 0, .bool false, .string ⟨#[]⟩, .slice none 0 0] 32
 have hmf : ∀ (fn : Fn) (first cap : Array Value) (w : World), (Instr.makeFunc fn first cap).run Tryz.prog w = .ok (.func fn first cap) w := fun _ _ _ _ => rfl
 have HC1 : Hid (Cb w0 W1 B c pk v1 v2 v3 ev S) := h.kept HKR.out
 have HRo : Hid (Off [R] v1 v2 v3 ev ∧ R ≠ B) := h.new (Nat.le_of_eq HWR.out.2)
 have HRw : Hid (w.heap.size ≤ R) := Nat.le_of_eq HWR.out.2
 have HRl : Hid (w0.heap.size ≤ R) := by have := h.k.size; rw [← HWR.out.2]; exact this
 obtain ⟨p, e1, e2, e3, hrd, f1, f3⟩ := HC1.out.rd
 have HM : Hid (∀ W, Kept [] W1 W → Calls Tryz.prog 12 #[.agg #[.slice p.a1 S.ino.length p.c1, .slice p.a2 S.opn.length p.c2, .slice p.a3 S.made.length p.c3]] W fun e w' => e = .returned (.bool true) ∧ Kept [] W w') := fun W hW => by
   have := p_may (hrd.sv.kept hW) (hrd.tab.kept hW) (fun x hx => Nat.le_trans (h.bd.d1 x hx) (by omega))
   rw [hm] at this
   exact this
 have HS : Hid (W1.cell? ⟨B, 1, none⟩ = some (.int .i64 (i : Int)) ∧ W1.cell? ⟨B, 8, none⟩ = some (.slice p.a1 S.ino.length p.c1) ∧ W1.cell? ⟨B, 9, none⟩ = some (.slice p.a2 S.opn.length p.c2) ∧ W1.cell? ⟨B, 10, none⟩ = some (.slice p.a3 S.made.length p.c3)) := ⟨by have := hrd.c1; rw [hci] at this; exact this, hrd.c8, hrd.c9, hrd.c10⟩
 have HDo : Hid (_) := hdo
 have t1 : decide ((i : Int) < 0) = false := by simp
 have t2 : decide ((i : Int) ≥ (S.made.length : Int)) = false := by simpa using hil
 have t3 : decide (S.made.length ≤ i) = false := by simpa using hil
 have HKw : Hid (Kept [] w W1) := HKR.out
 clear h hm hci hil hdo e1 e2 e3 f1 f3 hrd HKR
 go_enter_defers Tryz.func36, Tryz.ntmps36
 go_upto_region 2 with fail
 rw [HWR.out.1, HWR.out.2]
 clear HWR
 refine wp_onlyN ?_
 refine wp_region_held_drew (S := fun w' => w'.cell? ⟨B, 1, none⟩ = some (.int .i64 (i : Int)) ∧ w'.cell? ⟨B, 8, none⟩ = some (.slice p.a1 S.ino.length p.c1) ∧ w'.cell? ⟨B, 9, none⟩ = some (.slice p.a2 S.opn.length p.c2) ∧ w'.cell? ⟨B, 10, none⟩ = some (.slice p.a3 S.made.length p.c3)) (by kernel_rfl) ?_ (fun hHeld => ?_)
 · exact HS.out
 refine wpAnyH_take (i := 0) (v := ?vc0) rfl (by kernel_rfl) (by kernel_rfl) (by kernel_rfl) (fun _ _ _ h => h) (Or.inl ⟨by rfl, ?hyc0⟩) (by assumption) ?_
 case hyc0 =>
   intro w hSw
   (try dsimp only at hSw)
   go_simp
   try with_reducible rfl
 try simp only [Act.put, lz0, lz1, lz2, lz3, lz4, lz5]
 refine wpAnyH_take (i := 1) (v := ?vc1) rfl (by kernel_rfl) (by kernel_rfl) (by kernel_rfl) (fun _ _ _ h => h) (Or.inl ⟨by rfl, ?hyc1⟩) (by assumption) ?_
 case hyc1 =>
   intro w hSw
   (try dsimp only at hSw)
   go_simp
   try with_reducible rfl
 try simp only [Act.put, lz0, lz1, lz2, lz3, lz4, lz5]
 refine wpAnyH_take (i := 2) (v := ?vc2) rfl (by kernel_rfl) (by kernel_rfl) (by kernel_rfl) (fun _ _ _ h => h) (Or.inl ⟨by rfl, ?hyc2⟩) (by assumption) ?_
 case hyc2 =>
   intro w hSw
   (try dsimp only at hSw)
   go_simp
   try with_reducible rfl
 try simp only [Act.put, lz0, lz1, lz2, lz3, lz4, lz5]
 refine wpAnyH_take (i := 3) (v := ?vc3) rfl (by kernel_rfl) (by kernel_rfl) (by kernel_rfl) (fun _ _ _ h => h) (Or.inl ⟨by rfl, ?hyc3⟩) (by assumption) ?_
 case hyc3 =>
   intro w hSw
   (try dsimp only at hSw)
   go_simp
   try with_reducible rfl
 try simp only [Act.put, lz0, lz1, lz2, lz3, lz4, lz5]
 refine wpAnyH_ready (rs := [4]) (by kernel_rfl) (by simp) ?_
 refine AllReadyH.cons rfl (fun K hK => ?_) AllReadyH.nil
 go_simp
 refine (HM.out _ (Kept.refl _ _).drew).mono ?_
 rintro e w4 ⟨rfl, k4⟩
 have z4 := s4_kept hHeld k4
 have HK4 : Hid (Kept [] W1 w4) := (Kept.refl _ _).drew.trans k4 (by simp)
 clear k4
 go_wp2_with fail
 refine hK.out _ _ ?_ (fun hHeld => ?_)
 · exact z4
 clear hK K
 try simp only [Act.put, lz0, lz1, lz2, lz3, lz4, lz5]
 refine wpAnyH_take (i := 5) (v := ?vc5) rfl (by kernel_rfl) (by kernel_rfl) (by kernel_rfl) (fun _ _ _ h => h) (Or.inl ⟨by rfl, ?hyc5⟩) (by assumption) ?_
 case hyc5 =>
   intro w hSw
   (try dsimp only at hSw)
   go_simp
   try with_reducible rfl
 try simp only [Act.put, lz0, lz1, lz2, lz3, lz4, lz5]
 refine wpAnyH_take (i := 6) (v := ?vc6) rfl (by kernel_rfl) (by kernel_rfl) (by kernel_rfl) (fun _ _ _ h => h) (Or.inl ⟨by rfl, ?hyc6⟩) (by assumption) ?_
 case hyc6 =>
   intro w hSw
   (try dsimp only at hSw)
   go_simp
   try with_reducible rfl
 try simp only [Act.put, lz0, lz1, lz2, lz3, lz4, lz5]
 refine wpAnyH_take (i := 7) (v := ?vc7) rfl (by kernel_rfl) (by kernel_rfl) (by kernel_rfl) (fun _ _ _ h => h) (Or.inl ⟨by rfl, ?hyc7⟩) (by assumption) ?_
 case hyc7 =>
   intro w hSw
   (try dsimp only at hSw)
   go_simp
   try with_reducible rfl
 try simp only [Act.put, lz0, lz1, lz2, lz3, lz4, lz5]
 refine wpAnyH_take (i := 8) (v := ?vc8) rfl (by kernel_rfl) (by kernel_rfl) (by kernel_rfl) (fun _ _ _ h => h) (Or.inl ⟨by rfl, ?hyc8⟩) (by assumption) ?_
 case hyc8 =>
   intro w hSw
   (try dsimp only at hSw)
   go_simp
   try with_reducible rfl
 try simp only [Act.put, lz0, lz1, lz2, lz3, lz4, lz5]
 refine wpAnyH_take (i := 9) (v := ?vc9) rfl (by kernel_rfl) (by kernel_rfl) (by kernel_rfl) (fun _ _ _ h => h) (Or.inl ⟨by rfl, ?hyc9⟩) (by assumption) ?_
 case hyc9 =>
   intro w hSw
   (try dsimp only at hSw)
   go_simp
   try with_reducible rfl
 try simp only [Act.put, lz0, lz1, lz2, lz3, lz4, lz5]
 refine wpAnyH_take (i := 10) (v := ?vc10) rfl (by kernel_rfl) (by kernel_rfl) (by kernel_rfl) (fun _ _ _ h => h) (Or.inl ⟨by rfl, ?hyc10⟩) (by assumption) ?_
 case hyc10 =>
   intro w hSw
   (try dsimp only at hSw)
   go_simp
   try with_reducible rfl
 try simp only [Act.put, lz0, lz1, lz2, lz3, lz4, lz5]
 refine wpAnyH_take (i := 11) (v := ?vc11) rfl (by kernel_rfl) (by kernel_rfl) (by kernel_rfl) (fun _ _ _ h => h) (Or.inl ⟨by rfl, ?hyc11⟩) (by assumption) ?_
 case hyc11 =>
   intro w hSw
   (try dsimp only at hSw)
   go_simp
   try with_reducible rfl
 try simp only [Act.put, lz0, lz1, lz2, lz3, lz4, lz5]
 refine wpAnyH_take (i := 12) (v := ?vc12) rfl (by kernel_rfl) (by kernel_rfl) (by kernel_rfl) (fun _ _ _ h => h) (Or.inl ⟨by rfl, ?hyc12⟩) (by assumption) ?_
 case hyc12 =>
   intro w hSw
   (try dsimp only at hSw)
   go_simp
   try with_reducible rfl
 try simp only [Act.put, lz0, lz1, lz2, lz3, lz4, lz5]
 refine wpAnyH_take (i := 13) (v := ?vc13) rfl (by kernel_rfl) (by kernel_rfl) (by kernel_rfl) (fun _ _ _ h => h) (Or.inl ⟨by rfl, ?hyc13⟩) (by assumption) ?_
 case hyc13 =>
   intro w hSw
   (try dsimp only at hSw)
   go_simp
   try with_reducible rfl
 try simp only [Act.put, lz0, lz1, lz2, lz3, lz4, lz5]
 refine wpAnyH_take (i := 14) (v := ?vc14) rfl (by kernel_rfl) (by kernel_rfl) (by kernel_rfl) (fun _ _ _ h => h) (Or.inl ⟨by rfl, ?hyc14⟩) (by assumption) ?_
 case hyc14 =>
   intro w hSw
   (try dsimp only at hSw)
   go_simp
   try with_reducible rfl
 try simp only [Act.put, lz0, lz1, lz2, lz3, lz4, lz5]
 refine wpAnyH_take (i := 15) (v := ?vc15) rfl (by kernel_rfl) (by kernel_rfl) (by kernel_rfl) (fun _ _ _ h => h) (Or.inl ⟨by rfl, ?hyc15⟩) (by assumption) ?_
 case hyc15 =>
   intro w hSw
   (try dsimp only at hSw)
   go_simp
   try with_reducible rfl
 try simp only [Act.put, lz0, lz1, lz2, lz3, lz4, lz5]
 refine wpAnyH_take (i := 16) (v := ?vc16) rfl (by kernel_rfl) (by kernel_rfl) (by kernel_rfl) (fun _ _ _ h => h) (Or.inl ⟨by rfl, ?hyc16⟩) (by assumption) ?_
 case hyc16 =>
   intro w hSw
   (try dsimp only at hSw)
   go_simp
   try with_reducible rfl
 try simp only [Act.put, lz0, lz1, lz2, lz3, lz4, lz5]
 refine wpAnyH_take (i := 17) (v := ?vc17) rfl (by kernel_rfl) (by kernel_rfl) (by kernel_rfl) (fun _ _ _ h => h) (Or.inl ⟨by rfl, ?hyc17⟩) (by assumption) ?_
 case hyc17 =>
   intro w hSw
   (try dsimp only at hSw)
   go_simp
   try with_reducible rfl
 try simp only [Act.put, lz0, lz1, lz2, lz3, lz4, lz5]
 refine wpAnyH_take (i := 18) (v := ?vc18) rfl (by kernel_rfl) (by kernel_rfl) (by kernel_rfl) (fun _ _ _ h => h) (Or.inl ⟨by rfl, ?hyc18⟩) (by assumption) ?_
 case hyc18 =>
   intro w hSw
   (try dsimp only at hSw)
   go_simp
   try with_reducible rfl
 try simp only [Act.put, lz0, lz1, lz2, lz3, lz4, lz5]
 refine wpAnyH_take (i := 19) (v := ?vc19) rfl (by kernel_rfl) (by kernel_rfl) (by kernel_rfl) (fun _ _ _ h => h) (Or.inl ⟨by rfl, ?hyc19⟩) (by assumption) ?_
 case hyc19 =>
   intro w hSw
   (try dsimp only at hSw)
   go_simp
   try with_reducible rfl
 try simp only [Act.put, lz0, lz1, lz2, lz3, lz4, lz5]
 refine wpAnyH_take (i := 20) (v := ?vc20) rfl (by kernel_rfl) (by kernel_rfl) (by kernel_rfl) (fun _ _ _ h => h) (Or.inl ⟨by rfl, ?hyc20⟩) (by assumption) ?_
 case hyc20 =>
   intro w hSw
   (try dsimp only at hSw)
   go_simp
   try with_reducible rfl
 try simp only [Act.put, lz0, lz1, lz2, lz3, lz4, lz5]
 refine wpAnyH_take (i := 21) (v := ?vc21) rfl (by kernel_rfl) (by kernel_rfl) (by kernel_rfl) (fun _ _ _ h => h) (Or.inl ⟨by rfl, ?hyc21⟩) (by assumption) ?_
 case hyc21 =>
   intro w hSw
   (try dsimp only at hSw)
   go_simp
   try with_reducible rfl
 try simp only [Act.put, lz0, lz1, lz2, lz3, lz4, lz5]
 refine wpAnyH_take (i := 22) (v := ?vc22) rfl (by kernel_rfl) (by kernel_rfl) (by kernel_rfl) (fun _ _ _ h => h) (Or.inl ⟨by rfl, ?hyc22⟩) (by assumption) ?_
 case hyc22 =>
   intro w hSw
   (try dsimp only at hSw)
   go_simp
   try with_reducible rfl
 try simp only [Act.put, lz0, lz1, lz2, lz3, lz4, lz5]
 refine wpAnyH_take (i := 23) (v := ?vc23) rfl (by kernel_rfl) (by kernel_rfl) (by kernel_rfl) (fun _ _ _ h => h) (Or.inl ⟨by rfl, ?hyc23⟩) (by assumption) ?_
 case hyc23 =>
   intro w hSw
   (try dsimp only at hSw)
   go_simp
   try with_reducible rfl
 try simp only [Act.put, lz0, lz1, lz2, lz3, lz4, lz5]
 refine wpAnyH_take (i := 24) (v := ?vc24) rfl (by kernel_rfl) (by kernel_rfl) (by kernel_rfl) (fun _ _ _ h => h) (Or.inl ⟨by rfl, ?hyc24⟩) (by assumption) ?_
 case hyc24 =>
   intro w hSw
   (try dsimp only at hSw)
   go_simp
   try with_reducible rfl
 try simp only [Act.put, lz0, lz1, lz2, lz3, lz4, lz5]
 refine wpAnyH_take (i := 25) (v := ?vc25) rfl (by kernel_rfl) (by kernel_rfl) (by kernel_rfl) (fun _ _ _ h => h) (Or.inl ⟨by rfl, ?hyc25⟩) (by assumption) ?_
 case hyc25 =>
   intro w hSw
   (try dsimp only at hSw)
   go_simp
   try with_reducible rfl
 try simp only [Act.put, lz0, lz1, lz2, lz3, lz4, lz5]
 refine wpAnyH_take (i := 26) (v := ?vc26) rfl (by kernel_rfl) (by kernel_rfl) (by kernel_rfl) (fun _ _ _ h => h) (Or.inl ⟨by rfl, ?hyc26⟩) (by assumption) ?_
 case hyc26 =>
   intro w hSw
   (try dsimp only at hSw)
   go_simp
   try with_reducible rfl
 try simp only [Act.put, lz0, lz1, lz2, lz3, lz4, lz5]
 refine wpAnyH_take (i := 27) (v := ?vc27) rfl (by kernel_rfl) (by kernel_rfl) (by kernel_rfl) (fun _ _ _ h => h) (Or.inl ⟨by rfl, ?hyc27⟩) (by assumption) ?_
 case hyc27 =>
   intro w hSw
   (try dsimp only at hSw)
   go_simp
   try with_reducible rfl
 try simp only [Act.put, lz0, lz1, lz2, lz3, lz4, lz5]
 refine wpAnyH_ready (rs := [28]) (by kernel_rfl) (by simp) ?_
 refine AllReadyH.cons rfl (fun K hK => ?_) AllReadyH.nil
 go_simp
 refine (p_if_no 9 _).mono ?_
 rintro e w5 ⟨rfl, hw5⟩
 subst hw5
 go_wp2_with fail
 refine hK.out _ _ ?_ (fun hHeld => ?_)
 · exact hHeld
 clear hK K
 try simp only [Act.put, lz0, lz1, lz2, lz3, lz4, lz5]
 refine wpAnyH_done (by kernel_rfl) ?_ _
 rw [onlyN_normal]
 have HC5 : Hid (_) := HC1.out.kept HK4.out
 have HRb5 : Hid (_) := (HK4.out.block _ (lt_of_heap HRb.out) (by simp)).trans HRb.out
 have HKw5 : Hid (Kept [] w w5) := HKw.out.trans HK4.out (by simp)
 clear z4 HC1 HRb HK4 HKw HS t1 t2 t3 HM
 go_wp2_with fail
 refine (HDo.out w5 HC5.out).mono ?_
 rintro e w6 hout
 rcases r with code | ⟨S', v⟩
 · obtain ⟨rfl, u1, u2, u3, eu, hcb, hfr⟩ := hout
   have h6 := hfr.2 R (lt_of_heap HRb5.out) HRo.out.2 HRo.out.1
   have HB6 : Hid (_) := h6.1.trans HRb5.out
   have HE : Hid (Oks w0 w B c pk v1 v2 v3 ev (ansR S (.error code)) (.returned (ansV (ansC code) (.slice none 0 0))) (laidR w6 R (.int .i64 code) (.int .i64 0) (.int .i64 0) (.bool false) (.string ⟨#[]⟩) (.slice none 0 0))) := Oks.laid HKw5.out HRl.out HRw.out (lt_of_heap HRb5.out) HRo.out (Sr.nil _ _) (fun b e => by cases e) hcb hfr _ _ _ _ _ _
   clear hcb hfr h6 HC5 HRb5
   refine leaves_cons (f := 56) (args := #[.pointer (some ⟨R, 0, none⟩)]) (by simp) (by simp [go_sem]) ?_
   refine (catch_thrown R code [] HB6.out).mono ?_
   rintro e u' w'' ⟨rfl, rfl, rfl⟩
   exact ⟨_, results_cell_row rfl _ _ R 32 #[.int .i64 code, .int .i64 0, .int .i64 0, .bool false, .string ⟨#[]⟩, .slice none 0 0] (0, 0) _ rfl (block_res HB6.out _ _ _ _ _ _) Tryz.underlying32 rfl (by kernel_rfl), HE.out⟩
 · obtain ⟨x, l, k, u1, u2, u3, eu, rfl, hsr, hof, hcb, hfr⟩ := hout
   obtain ⟨a, b, n, d, t, ns⟩ := v
   have h6 := hfr.2 R (lt_of_heap HRb5.out) HRo.out.2 HRo.out.1
   have hb6 : w6.heap[R]? = _ := h6.1.trans HRb5.out
   have HE : Hid (Oks w0 w B c pk v1 v2 v3 ev (ansR S (.ok (S', ⟨a, b, n, d, t, ns⟩))) (.returned (.agg #[.int .i64 a, .int .i64 b, .int .i64 n, .bool d, .string t, .slice x l k])) (laidR w6 R (.int .i64 a) (.int .i64 b) (.int .i64 n) (.bool d) (.string t) (.slice x l k))) := Oks.laid HKw5.out HRl.out HRw.out (lt_of_heap HRb5.out) HRo.out hsr hof hcb hfr _ _ _ _ _ _
   have HB6 : Hid (_) := hb6
   have g0 : w6.cell? ⟨R, 0, none⟩ = some (.int .i64 0) := cellB hb6
   have g1 : w6.cell? ⟨R, 1, none⟩ = some (.int .i64 0) := cellB hb6
   have g2 : w6.cell? ⟨R, 2, none⟩ = some (.int .i64 0) := cellB hb6
   have g3 : w6.cell? ⟨R, 3, none⟩ = some (.bool false) := cellB hb6
   have g4 : w6.cell? ⟨R, 4, none⟩ = some (.string ⟨#[]⟩) := cellB hb6
   have g5 : w6.cell? ⟨R, 5, none⟩ = some (.slice none 0 0) := cellB hb6
   have z0 := frozen_of hb6 0
   have z1 := frozen_of hb6 1
   have z2 := frozen_of hb6 2
   have z3 := frozen_of hb6 3
   have z4 := frozen_of hb6 4
   have z5 := frozen_of hb6 5
   clear hcb hfr h6 HC5 HRb5 hb6 hsr hof
   dsimp only [ansV]
   go_wp2_with fail
   (try simp only [Exit.inBlock, Exit.then])
   refine leaves_cons (f := 56) (args := #[.pointer (some ⟨R, 0, none⟩)]) (by simp) (by simp [go_sem]) ?_
   refine (catch_idle R _).mono ?_
   rintro e u' w'' ⟨rfl, rfl, rfl⟩
   exact ⟨_, results_cell_row rfl _ _ R 32 #[.int .i64 a, .int .i64 b, .int .i64 n, .bool d, .string t, .slice x l k] (0, 0) _ rfl (block_res HB6.out _ _ _ _ _ _) Tryz.underlying32 rfl (by kernel_rfl), HE.out⟩
end Go.Proofs.YtmeafancgmkfkaaGreatDoor
