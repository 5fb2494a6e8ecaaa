/-
  Joined of my texts St.
-/
import Derived.Test.YtmeafancgmkfkaaGreatDoorJk21
namespace Go.Proofs.YtmeafancgmkfkaaGreatDoor
open List renaming setIfInBounds_toArray → lz0, set_cons_zero → lz1, set_cons_succ → lz2, getElem_toArray → lz3, getElem_cons_zero → lz4, getElem_cons_succ → lz5
open Go.RowKit
set_option linter.unusedVariables false
set_option linter.unusedSimpArgs false
set_option maxRecDepth 100000 in
set_option maxHeartbeats 8000000 in
theorem p_stat_bad {w0 w : World} {B : Nat} {c : Cal} {pk v1 v2 v3 : Value} {ev : List Value} {S : Sta} (h : Cb w0 w B c pk v1 v2 v3 ev S) {num code : Int} (hf : findR S.ino c.path = (num, code)) (hc : code ≠ 0) :
   Calls Tryz.prog 88 #[.pointer (some ⟨B, 0, none⟩)] w (Out w0 w B c pk v1 v2 v3 ev S (.error code)) := by
 obtain ⟨W1, R, HWR, HKR, HRb⟩ := boxR w #[.int .i64 0, .int .i64 0, .int .i64 0, .bool false, .string ⟨#[]⟩, .slice none 0 0] 32
 have HC1 : Hid (Cb w0 W1 B c pk v1 v2 v3 ev S) := h.kept HKR.out
 have HRo : Hid (Off [R] v1 v2 v3 ev ∧ R ≠ B) := h.new (Nat.le_of_eq HWR.out.2)
 have HRw : Hid (w.heap.size ≤ R) := Nat.le_of_eq HWR.out.2
 have HRl : Hid (w0.heap.size ≤ R) := by have := h.k.size; rw [← HWR.out.2]; exact this
 obtain ⟨p, e1, e2, e3, hrd, f1, f3⟩ := HC1.out.rd
 have HR : Hid (Rd W1 B c pk p S) := hrd
 have HV : Hid (v1 = .slice p.a1 S.ino.length p.c1 ∧ v2 = .slice p.a2 S.opn.length p.c2 ∧ v3 = .slice p.a3 S.made.length p.c3 ∧ (∀ x, p.a1 = some x → ∃ g, x = ⟨g, 0, none⟩) ∧ (∀ x, p.a3 = some x → ∃ g, x = ⟨g, 0, none⟩)) := ⟨e1, e2, e3, f1, f3⟩
 have HBd : Hid (Bd S) := h.bd
 have HF : Hid (_) := hf
 have HE : Hid (_) := hc
 have d5 := hrd.c5
 clear h e1 e2 e3 f1 f3 hrd hf hc
 go_enter Tryz.func88, Tryz.ntmps88
 go_upto_region 1 with fail
 rw [HWR.out.1, HWR.out.2]
 clear HWR
 go_wp2_with fail
 refine (found_bad HR.out c.path HF.out HE.out).mono ?_
 rintro e w1 ⟨rfl, k1⟩
 exact ⟨rfl, Out.err rfl (HC1.out.kept k1) (FrB.kept (HKR.out.trans k1 (by simp)))⟩
set_option maxRecDepth 100000 in
set_option maxHeartbeats 8000000 in
theorem p_links_bad {w0 w : World} {B : Nat} {c : Cal} {pk v1 v2 v3 : Value} {ev : List Value} {S : Sta} (h : Cb w0 w B c pk v1 v2 v3 ev S) {num code : Int} (hf : findR S.ino c.path = (num, code)) (hc : code ≠ 0) :
   Calls Tryz.prog 89 #[.pointer (some ⟨B, 0, none⟩)] w (Out w0 w B c pk v1 v2 v3 ev S (.error code)) := by
 obtain ⟨W1, R, HWR, HKR, HRb⟩ := boxR w #[.int .i64 0, .int .i64 0, .int .i64 0, .bool false, .string ⟨#[]⟩, .slice none 0 0] 32
 have HC1 : Hid (Cb w0 W1 B c pk v1 v2 v3 ev S) := h.kept HKR.out
 have HRo : Hid (Off [R] v1 v2 v3 ev ∧ R ≠ B) := h.new (Nat.le_of_eq HWR.out.2)
 have HRw : Hid (w.heap.size ≤ R) := Nat.le_of_eq HWR.out.2
 have HRl : Hid (w0.heap.size ≤ R) := by have := h.k.size; rw [← HWR.out.2]; exact this
 obtain ⟨p, e1, e2, e3, hrd, f1, f3⟩ := HC1.out.rd
 have HR : Hid (Rd W1 B c pk p S) := hrd
 have HV : Hid (v1 = .slice p.a1 S.ino.length p.c1 ∧ v2 = .slice p.a2 S.opn.length p.c2 ∧ v3 = .slice p.a3 S.made.length p.c3 ∧ (∀ x, p.a1 = some x → ∃ g, x = ⟨g, 0, none⟩) ∧ (∀ x, p.a3 = some x → ∃ g, x = ⟨g, 0, none⟩)) := ⟨e1, e2, e3, f1, f3⟩
 have HBd : Hid (Bd S) := h.bd
 have HF : Hid (_) := hf
 have HE : Hid (_) := hc
 have d5 := hrd.c5
 clear h e1 e2 e3 f1 f3 hrd hf hc
 go_enter Tryz.func89, Tryz.ntmps89
 go_upto_region 1 with fail
 rw [HWR.out.1, HWR.out.2]
 clear HWR
 go_wp2_with fail
 refine (found_bad HR.out c.path HF.out HE.out).mono ?_
 rintro e w1 ⟨rfl, k1⟩
 exact ⟨rfl, Out.err rfl (HC1.out.kept k1) (FrB.kept (HKR.out.trans k1 (by simp)))⟩
set_option maxRecDepth 100000 in
set_option maxHeartbeats 8000000 in
theorem p_list_bad {w0 w : World} {B : Nat} {c : Cal} {pk v1 v2 v3 : Value} {ev : List Value} {S : Sta} (h : Cb w0 w B c pk v1 v2 v3 ev S) {num code : Int} (hf : findR S.ino c.path = (num, code)) (hc : code ≠ 0) :
   Calls Tryz.prog 87 #[.pointer (some ⟨B, 0, none⟩)] w (Out w0 w B c pk v1 v2 v3 ev S (.error code)) := by
 obtain ⟨W1, R, HWR, HKR, HRb⟩ := boxR w #[.int .i64 0, .int .i64 0, .int .i64 0, .bool false, .string ⟨#[]⟩, .slice none 0 0] 32
 have HC1 : Hid (Cb w0 W1 B c pk v1 v2 v3 ev S) := h.kept HKR.out
 have HRo : Hid (Off [R] v1 v2 v3 ev ∧ R ≠ B) := h.new (Nat.le_of_eq HWR.out.2)
 have HRw : Hid (w.heap.size ≤ R) := Nat.le_of_eq HWR.out.2
 have HRl : Hid (w0.heap.size ≤ R) := by have := h.k.size; rw [← HWR.out.2]; exact this
 obtain ⟨p, e1, e2, e3, hrd, f1, f3⟩ := HC1.out.rd
 have HR : Hid (Rd W1 B c pk p S) := hrd
 have HV : Hid (v1 = .slice p.a1 S.ino.length p.c1 ∧ v2 = .slice p.a2 S.opn.length p.c2 ∧ v3 = .slice p.a3 S.made.length p.c3 ∧ (∀ x, p.a1 = some x → ∃ g, x = ⟨g, 0, none⟩) ∧ (∀ x, p.a3 = some x → ∃ g, x = ⟨g, 0, none⟩)) := ⟨e1, e2, e3, f1, f3⟩
 have HBd : Hid (Bd S) := h.bd
 have HF : Hid (_) := hf
 have HE : Hid (_) := hc
 have d5 := hrd.c5
 clear h e1 e2 e3 f1 f3 hrd hf hc
 go_enter Tryz.func87, Tryz.ntmps87
 go_upto_region 1 with fail
 rw [HWR.out.1, HWR.out.2]
 clear HWR
 go_wp2_with fail
 refine (found_bad HR.out c.path HF.out HE.out).mono ?_
 rintro e w1 ⟨rfl, k1⟩
 exact ⟨rfl, Out.err rfl (HC1.out.kept k1) (FrB.kept (HKR.out.trans k1 (by simp)))⟩
set_option maxRecDepth 100000 in
set_option maxHeartbeats 8000000 in
theorem p_open_bad {w0 w : World} {B : Nat} {c : Cal} {pk v1 v2 v3 : Value} {ev : List Value} {S : Sta} (h : Cb w0 w B c pk v1 v2 v3 ev S) {num code : Int} (hf : findR S.ino c.path = (num, code)) (hc : code ≠ 0) :
   Calls Tryz.prog 77 #[.pointer (some ⟨B, 0, none⟩)] w (Out w0 w B c pk v1 v2 v3 ev S (.error code)) := by
 obtain ⟨W1, R, HWR, HKR, HRb⟩ := boxR w #[.int .i64 0, .int .i64 0, .int .i64 0, .bool false, .string ⟨#[]⟩, .slice none 0 0] 32
 have HC1 : Hid (Cb w0 W1 B c pk v1 v2 v3 ev S) := h.kept HKR.out
 have HRo : Hid (Off [R] v1 v2 v3 ev ∧ R ≠ B) := h.new (Nat.le_of_eq HWR.out.2)
 have HRw : Hid (w.heap.size ≤ R) := Nat.le_of_eq HWR.out.2
 have HRl : Hid (w0.heap.size ≤ R) := by have := h.k.size; rw [← HWR.out.2]; exact this
 obtain ⟨p, e1, e2, e3, hrd, f1, f3⟩ := HC1.out.rd
 have HR : Hid (Rd W1 B c pk p S) := hrd
 have HV : Hid (v1 = .slice p.a1 S.ino.length p.c1 ∧ v2 = .slice p.a2 S.opn.length p.c2 ∧ v3 = .slice p.a3 S.made.length p.c3 ∧ (∀ x, p.a1 = some x → ∃ g, x = ⟨g, 0, none⟩) ∧ (∀ x, p.a3 = some x → ∃ g, x = ⟨g, 0, none⟩)) := ⟨e1, e2, e3, f1, f3⟩
 have HBd : Hid (Bd S) := h.bd
 have HF : Hid (_) := hf
 have HE : Hid (_) := hc
 have d5 := hrd.c5
 clear h e1 e2 e3 f1 f3 hrd hf hc
 go_enter Tryz.func77, Tryz.ntmps77
 go_upto_region 1 with fail
 rw [HWR.out.1, HWR.out.2]
 clear HWR
 go_wp2_with fail
 refine (found_bad HR.out c.path HF.out HE.out).mono ?_
 rintro e w1 ⟨rfl, k1⟩
 exact ⟨rfl, Out.err rfl (HC1.out.kept k1) (FrB.kept (HKR.out.trans k1 (by simp)))⟩
set_option maxRecDepth 100000 in
set_option maxHeartbeats 8000000 in
theorem p_link_bad {w0 w : World} {B : Nat} {c : Cal} {pk v1 v2 v3 : Value} {ev : List Value} {S : Sta} (h : Cb w0 w B c pk v1 v2 v3 ev S) {num code : Int} (hf : findR S.ino c.path = (num, code)) (hc : code ≠ 0) :
   Calls Tryz.prog 83 #[.pointer (some ⟨B, 0, none⟩)] w (Out w0 w B c pk v1 v2 v3 ev S (.error code)) := by
 obtain ⟨W1, R, HWR, HKR, HRb⟩ := boxR w #[.int .i64 0, .int .i64 0, .int .i64 0, .bool false, .string ⟨#[]⟩, .slice none 0 0] 32
 have HC1 : Hid (Cb w0 W1 B c pk v1 v2 v3 ev S) := h.kept HKR.out
 have HRo : Hid (Off [R] v1 v2 v3 ev ∧ R ≠ B) := h.new (Nat.le_of_eq HWR.out.2)
 have HRw : Hid (w.heap.size ≤ R) := Nat.le_of_eq HWR.out.2
 have HRl : Hid (w0.heap.size ≤ R) := by have := h.k.size; rw [← HWR.out.2]; exact this
 obtain ⟨p, e1, e2, e3, hrd, f1, f3⟩ := HC1.out.rd
 have HR : Hid (Rd W1 B c pk p S) := hrd
 have HV : Hid (v1 = .slice p.a1 S.ino.length p.c1 ∧ v2 = .slice p.a2 S.opn.length p.c2 ∧ v3 = .slice p.a3 S.made.length p.c3 ∧ (∀ x, p.a1 = some x → ∃ g, x = ⟨g, 0, none⟩) ∧ (∀ x, p.a3 = some x → ∃ g, x = ⟨g, 0, none⟩)) := ⟨e1, e2, e3, f1, f3⟩
 have HBd : Hid (Bd S) := h.bd
 have HF : Hid (_) := hf
 have HE : Hid (_) := hc
 have d5 := hrd.c5
 clear h e1 e2 e3 f1 f3 hrd hf hc
 go_enter Tryz.func83, Tryz.ntmps83
 go_upto_region 1 with fail
 rw [HWR.out.1, HWR.out.2]
 clear HWR
 go_wp2_with fail
 refine (found_bad HR.out c.path HF.out HE.out).mono ?_
 rintro e w1 ⟨rfl, k1⟩
 exact ⟨rfl, Out.err rfl (HC1.out.kept k1) (FrB.kept (HKR.out.trans k1 (by simp)))⟩
theorem cell_res {w : World} {R Z i : Nat} {a b c d e f : Value} (h : Z ≠ R) : (laidR w R a b c d e f).cell? ⟨Z, i, none⟩ = w.cell? ⟨Z, i, none⟩ := by
 unfold laidR
 rw [cellO h, cellO h, cellO h, cellO h, cellO h, cellO h]
set_option maxRecDepth 100000 in
set_option maxHeartbeats 8000000 in
theorem p_stat {w0 w : World} {B : Nat} {c : Cal} {pk v1 v2 v3 : Value} {ev : List Value} {S : Sta} (h : Cb w0 w B c pk v1 v2 v3 ev S) {num : Int} {k : Nat} (hf : findR S.ino c.path = (num, 0)) (hat : atR S.ino num = some k) (hk : k < S.ino.length) :
   Calls Tryz.prog 88 #[.pointer (some ⟨B, 0, none⟩)] w (Out w0 w B c pk v1 v2 v3 ev S (.ok (S, ⟨0, 0, ((S.ino[k]).data.size : Int), (S.ino[k]).dir, ⟨#[]⟩, []⟩))) := by
 obtain ⟨W1, R, HWR, HKR, HRb⟩ := boxR w #[.int .i64 0, .int .i64 0, .int .i64 0, .bool false, .string ⟨#[]⟩, .slice none 0 0] 32
 have HC1 : Hid (Cb w0 W1 B c pk v1 v2 v3 ev S) := h.kept HKR.out
 have HRo : Hid (Off [R] v1 v2 v3 ev ∧ R ≠ B) := h.new (Nat.le_of_eq HWR.out.2)
 have HRw : Hid (w.heap.size ≤ R) := Nat.le_of_eq HWR.out.2
 have HRl : Hid (w0.heap.size ≤ R) := by have := h.k.size; rw [← HWR.out.2]; exact this
 obtain ⟨p, e1, e2, e3, hrd, f1, f3⟩ := HC1.out.rd
 have HR : Hid (Rd W1 B c pk p S) := hrd
 have HV : Hid (v1 = .slice p.a1 S.ino.length p.c1 ∧ v2 = .slice p.a2 S.opn.length p.c2 ∧ v3 = .slice p.a3 S.made.length p.c3 ∧ (∀ x, p.a1 = some x → ∃ g, x = ⟨g, 0, none⟩) ∧ (∀ x, p.a3 = some x → ∃ g, x = ⟨g, 0, none⟩)) := ⟨e1, e2, e3, f1, f3⟩
 have HBd : Hid (Bd S) := h.bd
 have HF : Hid (findR S.ino c.path = (num, 0) ∧ atR S.ino num = some k) := ⟨hf, hat⟩
 obtain ⟨b1, o1, ae, ce, ha, -⟩ := hrd.sv.ino k hk
 have ho1 : o1 = 0 := by
   obtain ⟨g, hg⟩ := f1 _ ha
   simp only [Addr.mk.injEq, and_true] at hg
   exact hg.2
 subst ho1
 have HA : Hid (p.a1 = some ⟨b1, 0, none⟩) := ha
 have d5 := hrd.c5
 clear h e1 e2 e3 f1 f3 hrd hf hat ha
 go_enter Tryz.func88, Tryz.ntmps88
 go_upto_region 1 with fail
 rw [HWR.out.1, HWR.out.2]
 clear HWR
 go_wp2_with fail
 refine (found_ok HR.out c.path HF.out.1 HF.out.2 HA.out).mono ?_
 rintro e w1 ⟨rfl, k1⟩
 rw [Nat.zero_add]
 have HK1 : Hid (Kept [] w w1) := HKR.out.trans k1 (by simp)
 have HC2 : Hid (_) := HC1.out.kept k1
 have HR2 : Hid (_) := HR.out.kept k1
 have HB1 : Hid (w1.heap[R]? = _) := (k1.block _ (lt_of_heap HRb.out) (by simp)).trans HRb.out
 obtain ⟨b2, o2, ae2, ce2, ha2, q0, q1, q2, q3, q4, q5, q6⟩ := HR2.out.sv.ino k hk
 rw [HA.out] at ha2
 simp only [Option.some.injEq, Addr.mk.injEq, and_true] at ha2
 obtain ⟨hb2, ho2⟩ := ha2
 subst hb2 ho2
 rw [Nat.zero_add] at q0 q1 q2 q3
 obtain ⟨D, hD⟩ : ∃ D, (S.ino[k]).data = D := ⟨_, rfl⟩
 have HD : Hid (D.size ≤ 140737488351232) := by rw [← hD]; exact HBd.out.d1 _ (List.getElem_mem hk)
 rw [hD] at q3
 have HDe : Hid (_) := hD
 obtain ⟨di, hdi⟩ : ∃ di, (S.ino[k]).dir = di := ⟨_, rfl⟩
 rw [hdi] at q1
 have HDi : Hid (_) := hdi
 obtain ⟨nu, hnu⟩ : ∃ nu, (S.ino[k]).num = nu := ⟨_, rfl⟩
 rw [hnu] at q0
 have HNu : Hid (_) := hnu
 obtain ⟨E, hE⟩ : ∃ E, (S.ino[k]).ents = E := ⟨_, rfl⟩
 rw [hE] at q2 q4 q5
 have HEe : Hid (_) := hE
 have HEn : Hid (EntA w1 ae2 E) := q4
 have HV1 : Hid (v1 = .slice (some ⟨b1, 0, none⟩) S.ino.length p.c1) := by show _ = _; rw [HV.out.1, HA.out]
 have HRg : Hid (R ≠ b1) := fun e => (HRo.out.1 R (by simp)).1 (by rw [HV1.out, e]; rfl)
 clear hD hdi hnu hE q4 q5 q6
 clear k1 HR HC1 HRb d5
 have HC : Hid (w1.cell? ⟨b1, k * 4 + 1, none⟩ = some (.bool di) ∧ w1.cell? ⟨b1, k * 4 + 3, none⟩ = some (.string D)) := ⟨q1, q3⟩
 have d63 : D.size ≤ 9223372036854775807 := by have := HD.out; omega
 have HSt : Hid (∀ (W : World) (a b c d e f : Value), (W.cell? ⟨b1, k * 4 + 1, none⟩ = some (.bool di) ∧ W.cell? ⟨b1, k * 4 + 3, none⟩ = some (.string D)) → (((laidR W R a b c d e f).drew).cell? ⟨b1, k * 4 + 1, none⟩ = some (.bool di) ∧ ((laidR W R a b c d e f).drew).cell? ⟨b1, k * 4 + 3, none⟩ = some (.string D))) := fun W a b c d e f hW => by rw [World.cell?_drew, World.cell?_drew, cell_res (Ne.symm HRg.out), cell_res (Ne.symm HRg.out)]; exact hW
 have g0 : w1.cell? ⟨R, 0, none⟩ = some (.int .i64 0) := cellB HB1.out
 have z0 := frozen_of HB1.out 0
 have g1 : w1.cell? ⟨R, 1, none⟩ = some (.int .i64 0) := cellB HB1.out
 have z1 := frozen_of HB1.out 1
 have g2 : w1.cell? ⟨R, 2, none⟩ = some (.int .i64 0) := cellB HB1.out
 have z2 := frozen_of HB1.out 2
 have g3 : w1.cell? ⟨R, 3, none⟩ = some (.bool false) := cellB HB1.out
 have z3 := frozen_of HB1.out 3
 have g4 : w1.cell? ⟨R, 4, none⟩ = some (.string ⟨#[]⟩) := cellB HB1.out
 have z4 := frozen_of HB1.out 4
 have g5 : w1.cell? ⟨R, 5, none⟩ = some (.slice none 0 0) := cellB HB1.out
 have z5 := frozen_of HB1.out 5
 clear q0 q1 q2 q3
 go_upto_region 2 with fail
 refine wp_region_held_drew (S := fun w' => w'.cell? ⟨b1, k * 4 + 1, none⟩ = some (.bool di) ∧ w'.cell? ⟨b1, k * 4 + 3, none⟩ = some (.string D)) (by kernel_rfl) ?_ (fun hHeld => ?_)
 · exact HC.out
 refine wpAnyH_take (i := 0) (v := ?vp0) rfl (by kernel_rfl) (by kernel_rfl) (by kernel_rfl) (fun _ _ _ h => h) (Or.inl ⟨by rfl, ?hyp0⟩) (by assumption) ?_
 case hyp0 =>
   intro w hSw
   (try dsimp only at hSw)
   go_simp
   try with_reducible rfl
 try simp only [Act.put, lz0, lz1, lz2, lz3, lz4, lz5]
 refine wpAnyH_take (i := 1) (v := ?vp1) rfl (by kernel_rfl) (by kernel_rfl) (by kernel_rfl) (fun _ _ _ h => h) (Or.inl ⟨by rfl, ?hyp1⟩) (by assumption) ?_
 case hyp1 =>
   intro w hSw
   (try dsimp only at hSw)
   go_simp
   try with_reducible rfl
 try simp only [Act.put, lz0, lz1, lz2, lz3, lz4, lz5]
 refine wpAnyH_take (i := 2) (v := ?vp2) rfl (by kernel_rfl) (by kernel_rfl) (by kernel_rfl) (fun _ _ _ h => h) (Or.inl ⟨by rfl, ?hyp2⟩) (by assumption) ?_
 case hyp2 =>
   intro w hSw
   (try dsimp only at hSw)
   go_simp
   try with_reducible rfl
 try simp only [Act.put, lz0, lz1, lz2, lz3, lz4, lz5]
 refine wpAnyH_take (i := 3) (v := ?vp3) rfl (by kernel_rfl) (by kernel_rfl) (by kernel_rfl) (fun _ _ _ h => h) (Or.inl ⟨by rfl, ?hyp3⟩) (by assumption) ?_
 case hyp3 =>
   intro w hSw
   (try dsimp only at hSw)
   go_simp
   try with_reducible rfl
 try simp only [Act.put, lz0, lz1, lz2, lz3, lz4, lz5]
 refine wpAnyH_take (i := 4) (v := ?vp4) rfl (by kernel_rfl) (by kernel_rfl) (by kernel_rfl) (fun _ _ _ h => h) (Or.inl ⟨by rfl, ?hyp4⟩) (by assumption) ?_
 case hyp4 =>
   intro w hSw
   (try dsimp only at hSw)
   go_simp
   try with_reducible rfl
 try simp only [Act.put, lz0, lz1, lz2, lz3, lz4, lz5]
 refine wpAnyH_take (i := 5) (v := ?vp5) rfl (by kernel_rfl) (by kernel_rfl) (by kernel_rfl) (fun _ _ _ h => h) (Or.inl ⟨by rfl, ?hyp5⟩) (by assumption) ?_
 case hyp5 =>
   intro w hSw
   (try dsimp only at hSw)
   go_simp
   try with_reducible rfl
 try simp only [Act.put, lz0, lz1, lz2, lz3, lz4, lz5]
 refine wpAnyH_take (i := 6) (v := ?vp6) rfl (by kernel_rfl) (by kernel_rfl) (by kernel_rfl) (fun _ _ _ h => h) (Or.inl ⟨by rfl, ?hyp6⟩) (by assumption) ?_
 case hyp6 =>
   intro w hSw
   (try dsimp only at hSw)
   go_simp
   try with_reducible rfl
 try simp only [Act.put, lz0, lz1, lz2, lz3, lz4, lz5]
 refine wpAnyH_take (i := 7) (v := ?vp7) rfl (by kernel_rfl) (by kernel_rfl) (by kernel_rfl) (fun _ _ _ h => h) (Or.inl ⟨by rfl, ?hyp7⟩) (by assumption) ?_
 case hyp7 =>
   intro w hSw
   (try dsimp only at hSw)
   go_simp
   try with_reducible rfl
 try simp only [Act.put, lz0, lz1, lz2, lz3, lz4, lz5]
 refine wpAnyH_take (i := 8) (v := ?vp8) rfl (by kernel_rfl) (by kernel_rfl) (by kernel_rfl) (fun _ _ _ h => h) (Or.inl ⟨by rfl, ?hyp8⟩) (by assumption) ?_
 case hyp8 =>
   intro w hSw
   (try dsimp only at hSw)
   go_simp
   try with_reducible rfl
 try simp only [Act.put, lz0, lz1, lz2, lz3, lz4, lz5]
 refine wpAnyH_take (i := 9) (v := ?vp9) rfl (by kernel_rfl) (by kernel_rfl) (by kernel_rfl) (fun _ _ _ h => h) (Or.inl ⟨by rfl, ?hyp9⟩) (by assumption) ?_
 case hyp9 =>
   intro w hSw
   (try dsimp only at hSw)
   go_simp
   try with_reducible rfl
 try simp only [Act.put, lz0, lz1, lz2, lz3, lz4, lz5]
 refine wpAnyH_ready (rs := [10]) (by kernel_rfl) (by simp) ?_
 refine AllReadyH.cons rfl (fun K hK => ?_) AllReadyH.nil
 go_simp
 refine hK.out _ _ ?_ (fun hHeld => ?_)
 · exact HSt.out w1 _ _ _ _ _ _ HC.out
 clear hK K
 try simp only [Act.put, lz0, lz1, lz2, lz3, lz4, lz5]
 refine wpAnyH_done (by kernel_rfl) ?_ _
 clear hHeld HSt g0 g1 g2 g3 g4 g5 z0 z1 z2 z3 z4 z5
 obtain ⟨W8, hW8⟩ : ∃ W8, (laidR w1 R (.int .i64 0) (.int .i64 0) (.int .i64 (D.size : Int)) (.bool di) (.string ⟨#[]⟩) (.slice none 0 0)).drew = W8 := ⟨_, rfl⟩
 have HB8 : Hid (W8.heap[R]? = some (.cells #[.int .i64 0, .int .i64 0, .int .i64 (D.size : Int), .bool di, .string ⟨#[]⟩, .slice none 0 0] 32 (0, 0))) := by rw [← hW8]; exact block_resd HB1.out (.int .i64 0) (.int .i64 0) (.int .i64 (D.size : Int)) (.bool di) (.string ⟨#[]⟩) (.slice none 0 0)
 have HC8 : Hid (_) := (HC2.out.res HRl.out HRo.out.1 HRo.out.2 (.int .i64 0) (.int .i64 0) (.int .i64 (D.size : Int)) (.bool di) (.string ⟨#[]⟩) (.slice none 0 0)).kept (Kept.refl _ _).drew
 have HF8 : Hid (FrB B w (laidR w1 R (.int .i64 0) (.int .i64 0) (.int .i64 (D.size : Int)) (.bool di) (.string ⟨#[]⟩) (.slice none 0 0)).drew v1 v2 v3 ev v1 v2 v3 ev) := (FrB.res (FrB.kept HK1.out) HRw.out (.int .i64 0) (.int .i64 0) (.int .i64 (D.size : Int)) (.bool di) (.string ⟨#[]⟩) (.slice none 0 0)).trans (FrB.kept (Kept.refl _ _).drew)
 rw [hW8] at HC8 HF8 ⊢
 clear hW8
 go_wp2_with fail
 (try simp only [Exit.inBlock, Exit.then])
 refine bodyPost_ret (results_cell_row rfl _ _ R 32 #[.int .i64 0, .int .i64 0, .int .i64 (D.size : Int), .bool di, .string ⟨#[]⟩, .slice none 0 0] (0, 0) _ rfl HB8.out Tryz.underlying32 rfl (by kernel_rfl)) rfl ?_
 exact Out.val (by rw [HDe.out, HDi.out]) rfl rfl HC8.out HF8.out
set_option maxRecDepth 100000 in
set_option maxHeartbeats 8000000 in
theorem p_links_dir {w0 w : World} {B : Nat} {c : Cal} {pk v1 v2 v3 : Value} {ev : List Value} {S : Sta} (h : Cb w0 w B c pk v1 v2 v3 ev S) {num : Int} {k : Nat} (hf : findR S.ino c.path = (num, 0)) (hat : atR S.ino num = some k) (hk : k < S.ino.length) (hd : (S.ino[k]).dir = true) :
   Calls Tryz.prog 89 #[.pointer (some ⟨B, 0, none⟩)] w (Out w0 w B c pk v1 v2 v3 ev S (.error 8)) := by
 obtain ⟨W1, R, HWR, HKR, HRb⟩ := boxR w #[.int .i64 0, .int .i64 0, .int .i64 0, .bool false, .string ⟨#[]⟩, .slice none 0 0] 32
 have HC1 : Hid (Cb w0 W1 B c pk v1 v2 v3 ev S) := h.kept HKR.out
 have HRo : Hid (Off [R] v1 v2 v3 ev ∧ R ≠ B) := h.new (Nat.le_of_eq HWR.out.2)
 have HRw : Hid (w.heap.size ≤ R) := Nat.le_of_eq HWR.out.2
 have HRl : Hid (w0.heap.size ≤ R) := by have := h.k.size; rw [← HWR.out.2]; exact this
 obtain ⟨p, e1, e2, e3, hrd, f1, f3⟩ := HC1.out.rd
 have HR : Hid (Rd W1 B c pk p S) := hrd
 have HV : Hid (v1 = .slice p.a1 S.ino.length p.c1 ∧ v2 = .slice p.a2 S.opn.length p.c2 ∧ v3 = .slice p.a3 S.made.length p.c3 ∧ (∀ x, p.a1 = some x → ∃ g, x = ⟨g, 0, none⟩) ∧ (∀ x, p.a3 = some x → ∃ g, x = ⟨g, 0, none⟩)) := ⟨e1, e2, e3, f1, f3⟩
 have HBd : Hid (Bd S) := h.bd
 have HF : Hid (findR S.ino c.path = (num, 0) ∧ atR S.ino num = some k) := ⟨hf, hat⟩
 obtain ⟨b1, o1, ae, ce, ha, -⟩ := hrd.sv.ino k hk
 have ho1 : o1 = 0 := by
   obtain ⟨g, hg⟩ := f1 _ ha
   simp only [Addr.mk.injEq, and_true] at hg
   exact hg.2
 subst ho1
 have HA : Hid (p.a1 = some ⟨b1, 0, none⟩) := ha
 have d5 := hrd.c5
 have HDt : Hid (_) := hd
 clear h e1 e2 e3 f1 f3 hrd hf hat ha hd
 go_enter Tryz.func89, Tryz.ntmps89
 go_upto_region 1 with fail
 rw [HWR.out.1, HWR.out.2]
 clear HWR
 go_wp2_with fail
 refine (found_ok HR.out c.path HF.out.1 HF.out.2 HA.out).mono ?_
 rintro e w1 ⟨rfl, k1⟩
 rw [Nat.zero_add]
 have HK1 : Hid (Kept [] w w1) := HKR.out.trans k1 (by simp)
 have HC2 : Hid (_) := HC1.out.kept k1
 have HR2 : Hid (_) := HR.out.kept k1
 have HB1 : Hid (w1.heap[R]? = _) := (k1.block _ (lt_of_heap HRb.out) (by simp)).trans HRb.out
 obtain ⟨b2, o2, ae2, ce2, ha2, q0, q1, q2, q3, q4, q5, q6⟩ := HR2.out.sv.ino k hk
 rw [HA.out] at ha2
 simp only [Option.some.injEq, Addr.mk.injEq, and_true] at ha2
 obtain ⟨hb2, ho2⟩ := ha2
 subst hb2 ho2
 rw [Nat.zero_add] at q0 q1 q2 q3
 obtain ⟨D, hD⟩ : ∃ D, (S.ino[k]).data = D := ⟨_, rfl⟩
 have HD : Hid (D.size ≤ 140737488351232) := by rw [← hD]; exact HBd.out.d1 _ (List.getElem_mem hk)
 rw [hD] at q3
 have HDe : Hid (_) := hD
 obtain ⟨di, hdi⟩ : ∃ di, (S.ino[k]).dir = di := ⟨_, rfl⟩
 rw [hdi] at q1
 have HDi : Hid (_) := hdi
 obtain ⟨nu, hnu⟩ : ∃ nu, (S.ino[k]).num = nu := ⟨_, rfl⟩
 rw [hnu] at q0
 have HNu : Hid (_) := hnu
 obtain ⟨E, hE⟩ : ∃ E, (S.ino[k]).ents = E := ⟨_, rfl⟩
 rw [hE] at q2 q4 q5
 have HEe : Hid (_) := hE
 have HEn : Hid (EntA w1 ae2 E) := q4
 have HV1 : Hid (v1 = .slice (some ⟨b1, 0, none⟩) S.ino.length p.c1) := by show _ = _; rw [HV.out.1, HA.out]
 have HRg : Hid (R ≠ b1) := fun e => (HRo.out.1 R (by simp)).1 (by rw [HV1.out, e]; rfl)
 clear hD hdi hnu hE q4 q5 q6
 clear k1 HR HC1 HRb d5
 have hdt : di = true := by rw [← HDi.out]; exact HDt.out
 subst hdt
 go_wp2_with fail
 refine (p_if 8 (by decide) w1).mono ?_
 rintro e w2 ⟨rfl, hw⟩
 subst hw
 exact ⟨rfl, Out.err rfl HC2.out (FrB.kept HK1.out)⟩
set_option maxRecDepth 100000 in
set_option maxHeartbeats 8000000 in
theorem p_links_of {w0 w : World} {B : Nat} {c : Cal} {pk v1 v2 v3 : Value} {ev : List Value} {S : Sta} (h : Cb w0 w B c pk v1 v2 v3 ev S) {num : Int} {k : Nat} (hf : findR S.ino c.path = (num, 0)) (hat : atR S.ino num = some k) (hk : k < S.ino.length) (hd : (S.ino[k]).dir = false) (hs : S.ino.length ≤ 60000) :
   Calls Tryz.prog 89 #[.pointer (some ⟨B, 0, none⟩)] w (Out w0 w B c pk v1 v2 v3 ev S (.ok (S, ⟨0, 0, ((linksR S.ino (S.ino[k]).num : Nat) : Int), false, ⟨#[]⟩, []⟩))) := by
 obtain ⟨W1, R, HWR, HKR, HRb⟩ := boxR w #[.int .i64 0, .int .i64 0, .int .i64 0, .bool false, .string ⟨#[]⟩, .slice none 0 0] 32
 have HC1 : Hid (Cb w0 W1 B c pk v1 v2 v3 ev S) := h.kept HKR.out
 have HRo : Hid (Off [R] v1 v2 v3 ev ∧ R ≠ B) := h.new (Nat.le_of_eq HWR.out.2)
 have HRw : Hid (w.heap.size ≤ R) := Nat.le_of_eq HWR.out.2
 have HRl : Hid (w0.heap.size ≤ R) := by have := h.k.size; rw [← HWR.out.2]; exact this
 obtain ⟨p, e1, e2, e3, hrd, f1, f3⟩ := HC1.out.rd
 have HR : Hid (Rd W1 B c pk p S) := hrd
 have HV : Hid (v1 = .slice p.a1 S.ino.length p.c1 ∧ v2 = .slice p.a2 S.opn.length p.c2 ∧ v3 = .slice p.a3 S.made.length p.c3 ∧ (∀ x, p.a1 = some x → ∃ g, x = ⟨g, 0, none⟩) ∧ (∀ x, p.a3 = some x → ∃ g, x = ⟨g, 0, none⟩)) := ⟨e1, e2, e3, f1, f3⟩
 have HBd : Hid (Bd S) := h.bd
 have HF : Hid (findR S.ino c.path = (num, 0) ∧ atR S.ino num = some k) := ⟨hf, hat⟩
 obtain ⟨b1, o1, ae, ce, ha, -⟩ := hrd.sv.ino k hk
 have ho1 : o1 = 0 := by
   obtain ⟨g, hg⟩ := f1 _ ha
   simp only [Addr.mk.injEq, and_true] at hg
   exact hg.2
 subst ho1
 have HA : Hid (p.a1 = some ⟨b1, 0, none⟩) := ha
 have d5 := hrd.c5
 have HDt : Hid (_) := hd
 have HS6 : Hid (_) := hs
 clear h e1 e2 e3 f1 f3 hrd hf hat ha hd hs
 go_enter Tryz.func89, Tryz.ntmps89
 go_upto_region 1 with fail
 rw [HWR.out.1, HWR.out.2]
 clear HWR
 go_wp2_with fail
 refine (found_ok HR.out c.path HF.out.1 HF.out.2 HA.out).mono ?_
 rintro e w1 ⟨rfl, k1⟩
 rw [Nat.zero_add]
 have HK1 : Hid (Kept [] w w1) := HKR.out.trans k1 (by simp)
 have HC2 : Hid (_) := HC1.out.kept k1
 have HR2 : Hid (_) := HR.out.kept k1
 have HB1 : Hid (w1.heap[R]? = _) := (k1.block _ (lt_of_heap HRb.out) (by simp)).trans HRb.out
 obtain ⟨b2, o2, ae2, ce2, ha2, q0, q1, q2, q3, q4, q5, q6⟩ := HR2.out.sv.ino k hk
 rw [HA.out] at ha2
 simp only [Option.some.injEq, Addr.mk.injEq, and_true] at ha2
 obtain ⟨hb2, ho2⟩ := ha2
 subst hb2 ho2
 rw [Nat.zero_add] at q0 q1 q2 q3
 obtain ⟨D, hD⟩ : ∃ D, (S.ino[k]).data = D := ⟨_, rfl⟩
 have HD : Hid (D.size ≤ 140737488351232) := by rw [← hD]; exact HBd.out.d1 _ (List.getElem_mem hk)
 rw [hD] at q3
 have HDe : Hid (_) := hD
 obtain ⟨di, hdi⟩ : ∃ di, (S.ino[k]).dir = di := ⟨_, rfl⟩
 rw [hdi] at q1
 have HDi : Hid (_) := hdi
 obtain ⟨nu, hnu⟩ : ∃ nu, (S.ino[k]).num = nu := ⟨_, rfl⟩
 rw [hnu] at q0
 have HNu : Hid (_) := hnu
 obtain ⟨E, hE⟩ : ∃ E, (S.ino[k]).ents = E := ⟨_, rfl⟩
 rw [hE] at q2 q4 q5
 have HEe : Hid (_) := hE
 have HEn : Hid (EntA w1 ae2 E) := q4
 have HV1 : Hid (v1 = .slice (some ⟨b1, 0, none⟩) S.ino.length p.c1) := by show _ = _; rw [HV.out.1, HA.out]
 have HRg : Hid (R ≠ b1) := fun e => (HRo.out.1 R (by simp)).1 (by rw [HV1.out, e]; rfl)
 clear hD hdi hnu hE q4 q5 q6
 clear k1 HR HC1 HRb d5
 have hdt : di = false := by rw [← HDi.out]; exact HDt.out
 subst hdt
 go_wp2_with fail
 refine (p_if_no 8 w1).mono ?_
 rintro e w2 ⟨rfl, hw⟩
 have hw2 := hw.symm
 subst hw2
 have HC : Hid (w1.cell? ⟨B, 8, none⟩ = some (.slice p.a1 S.ino.length p.c1) ∧ w1.cell? ⟨B, 9, none⟩ = some (.slice p.a2 S.opn.length p.c2) ∧ w1.cell? ⟨B, 10, none⟩ = some (.slice p.a3 S.made.length p.c3) ∧ w1.cell? ⟨b1, k * 4, none⟩ = some (.int .i64 nu)) := ⟨HR2.out.c8, HR2.out.c9, HR2.out.c10, q0⟩
 have HSt : Hid (∀ (W : World) (a b c d e f : Value), (W.cell? ⟨B, 8, none⟩ = some (.slice p.a1 S.ino.length p.c1) ∧ W.cell? ⟨B, 9, none⟩ = some (.slice p.a2 S.opn.length p.c2) ∧ W.cell? ⟨B, 10, none⟩ = some (.slice p.a3 S.made.length p.c3) ∧ W.cell? ⟨b1, k * 4, none⟩ = some (.int .i64 nu)) → ((laidR W R a b c d e f).cell? ⟨B, 8, none⟩ = some (.slice p.a1 S.ino.length p.c1) ∧ (laidR W R a b c d e f).cell? ⟨B, 9, none⟩ = some (.slice p.a2 S.opn.length p.c2) ∧ (laidR W R a b c d e f).cell? ⟨B, 10, none⟩ = some (.slice p.a3 S.made.length p.c3) ∧ (laidR W R a b c d e f).cell? ⟨b1, k * 4, none⟩ = some (.int .i64 nu))) := fun W a b c d e f hW => by rw [cell_res (Ne.symm HRo.out.2), cell_res (Ne.symm HRo.out.2), cell_res (Ne.symm HRo.out.2), cell_res (Ne.symm HRg.out)]; exact hW
 clear q0 q1 q2 q3
 go_upto_region 3 with fail
 refine wp_region_held_drew (S := fun w' => w'.cell? ⟨B, 8, none⟩ = some (.slice p.a1 S.ino.length p.c1) ∧ w'.cell? ⟨B, 9, none⟩ = some (.slice p.a2 S.opn.length p.c2) ∧ w'.cell? ⟨B, 10, none⟩ = some (.slice p.a3 S.made.length p.c3) ∧ w'.cell? ⟨b1, k * 4, none⟩ = some (.int .i64 nu)) (by kernel_rfl) ?_ (fun hHeld => ?_)
 · exact HC.out
 refine wpAnyH_take (i := 0) (v := ?vp0) rfl (by kernel_rfl) (by kernel_rfl) (by kernel_rfl) (fun _ _ _ h => h) (Or.inl ⟨by rfl, ?hyp0⟩) (by assumption) ?_
 case hyp0 =>
   intro w hSw
   (try dsimp only at hSw)
   go_simp
   try with_reducible rfl
 try simp only [Act.put, lz0, lz1, lz2, lz3, lz4, lz5]
 refine wpAnyH_take (i := 1) (v := ?vp1) rfl (by kernel_rfl) (by kernel_rfl) (by kernel_rfl) (fun _ _ _ h => h) (Or.inl ⟨by rfl, ?hyp1⟩) (by assumption) ?_
 case hyp1 =>
   intro w hSw
   (try dsimp only at hSw)
   go_simp
   try with_reducible rfl
 try simp only [Act.put, lz0, lz1, lz2, lz3, lz4, lz5]
 refine wpAnyH_take (i := 2) (v := ?vp2) rfl (by kernel_rfl) (by kernel_rfl) (by kernel_rfl) (fun _ _ _ h => h) (Or.inl ⟨by rfl, ?hyp2⟩) (by assumption) ?_
 case hyp2 =>
   intro w hSw
   (try dsimp only at hSw)
   go_simp
   try with_reducible rfl
 try simp only [Act.put, lz0, lz1, lz2, lz3, lz4, lz5]
 refine wpAnyH_take (i := 3) (v := ?vp3) rfl (by kernel_rfl) (by kernel_rfl) (by kernel_rfl) (fun _ _ _ h => h) (Or.inl ⟨by rfl, ?hyp3⟩) (by assumption) ?_
 case hyp3 =>
   intro w hSw
   (try dsimp only at hSw)
   go_simp
   try with_reducible rfl
 try simp only [Act.put, lz0, lz1, lz2, lz3, lz4, lz5]
 refine wpAnyH_take (i := 4) (v := ?vp4) rfl (by kernel_rfl) (by kernel_rfl) (by kernel_rfl) (fun _ _ _ h => h) (Or.inl ⟨by rfl, ?hyp4⟩) (by assumption) ?_
 case hyp4 =>
   intro w hSw
   (try dsimp only at hSw)
   go_simp
   try with_reducible rfl
 try simp only [Act.put, lz0, lz1, lz2, lz3, lz4, lz5]
 refine wpAnyH_take (i := 5) (v := ?vp5) rfl (by kernel_rfl) (by kernel_rfl) (by kernel_rfl) (fun _ _ _ h => h) (Or.inl ⟨by rfl, ?hyp5⟩) (by assumption) ?_
 case hyp5 =>
   intro w hSw
   (try dsimp only at hSw)
   go_simp
   try with_reducible rfl
 try simp only [Act.put, lz0, lz1, lz2, lz3, lz4, lz5]
 refine wpAnyH_take (i := 6) (v := ?vp6) rfl (by kernel_rfl) (by kernel_rfl) (by kernel_rfl) (fun _ _ _ h => h) (Or.inl ⟨by rfl, ?hyp6⟩) (by assumption) ?_
 case hyp6 =>
   intro w hSw
   (try dsimp only at hSw)
   go_simp
   try with_reducible rfl
 try simp only [Act.put, lz0, lz1, lz2, lz3, lz4, lz5]
 refine wpAnyH_take (i := 7) (v := ?vp7) rfl (by kernel_rfl) (by kernel_rfl) (by kernel_rfl) (fun _ _ _ h => h) (Or.inl ⟨by rfl, ?hyp7⟩) (by assumption) ?_
 case hyp7 =>
   intro w hSw
   (try dsimp only at hSw)
   go_simp
   try with_reducible rfl
 try simp only [Act.put, lz0, lz1, lz2, lz3, lz4, lz5]
 refine wpAnyH_ready (rs := [8]) (by kernel_rfl) (by simp) ?_
 refine AllReadyH.cons rfl (fun K hK => ?_) AllReadyH.nil
 go_simp
 refine (p_links (HR2.out.sv.kept (Kept.refl _ _).drew) nu HS6.out).mono ?_
 rintro e w4 ⟨rfl, k4⟩
 have HK4 : Hid (Kept [] w1 w4) := (Kept.refl _ _).drew.trans k4 (by simp)
 have z9 := (⟨HK4.out.cell (HC.out.1) (by simp), HK4.out.cell (HC.out.2.1) (by simp), HK4.out.cell (HC.out.2.2.1) (by simp), HK4.out.cell (HC.out.2.2.2) (by simp)⟩ : w4.cell? ⟨B, 8, none⟩ = some (.slice p.a1 S.ino.length p.c1) ∧ w4.cell? ⟨B, 9, none⟩ = some (.slice p.a2 S.opn.length p.c2) ∧ w4.cell? ⟨B, 10, none⟩ = some (.slice p.a3 S.made.length p.c3) ∧ w4.cell? ⟨b1, k * 4, none⟩ = some (.int .i64 nu))
 have HB3 : Hid (w4.heap[R]? = _) := (HK4.out.block _ (lt_of_heap HB1.out) (by simp)).trans HB1.out
 have g0 : w4.cell? ⟨R, 0, none⟩ = some (.int .i64 0) := cellB HB3.out
 have z0 := frozen_of HB3.out 0
 have g1 : w4.cell? ⟨R, 1, none⟩ = some (.int .i64 0) := cellB HB3.out
 have z1 := frozen_of HB3.out 1
 have g2 : w4.cell? ⟨R, 2, none⟩ = some (.int .i64 0) := cellB HB3.out
 have z2 := frozen_of HB3.out 2
 have g3 : w4.cell? ⟨R, 3, none⟩ = some (.bool false) := cellB HB3.out
 have z3 := frozen_of HB3.out 3
 have g4 : w4.cell? ⟨R, 4, none⟩ = some (.string ⟨#[]⟩) := cellB HB3.out
 have z4 := frozen_of HB3.out 4
 have g5 : w4.cell? ⟨R, 5, none⟩ = some (.slice none 0 0) := cellB HB3.out
 have z5 := frozen_of HB3.out 5
 clear k4
 go_wp2_with fail
 refine hK.out _ _ ?_ (fun hHeld => ?_)
 · exact z9
 clear hK K
 try simp only [Act.put, lz0, lz1, lz2, lz3, lz4, lz5]
 refine wpAnyH_take (i := 9) (v := ?vp9) rfl (by kernel_rfl) (by kernel_rfl) (by kernel_rfl) (fun _ _ _ h => h) (Or.inl ⟨by rfl, ?hyp9⟩) (by assumption) ?_
 case hyp9 =>
   intro w hSw
   (try dsimp only at hSw)
   go_simp
   try with_reducible rfl
 try simp only [Act.put, lz0, lz1, lz2, lz3, lz4, lz5]
 refine wpAnyH_ready (rs := [10]) (by kernel_rfl) (by simp) ?_
 refine AllReadyH.cons rfl (fun K hK => ?_) AllReadyH.nil
 go_simp
 refine hK.out _ _ ?_ (fun hHeld => ?_)
 · exact HSt.out _ _ _ _ _ _ _ hHeld
 clear hK K
 try simp only [Act.put, lz0, lz1, lz2, lz3, lz4, lz5]
 refine wpAnyH_done (by kernel_rfl) ?_ _
 have HC3 : Hid (_) := HC2.out.kept HK4.out
 have HK3 : Hid (Kept [] w w4) := HK1.out.trans HK4.out (by simp)
 go_wp2_with fail
 (try simp only [Exit.inBlock, Exit.then])
 refine bodyPost_ret (results_cell_row rfl _ _ R 32 #[.int .i64 0, .int .i64 0, .int .i64 ((linksR S.ino nu : Nat) : Int), .bool false, .string ⟨#[]⟩, .slice none 0 0] (0, 0) _ rfl (block_res HB3.out _ _ _ _ _ _) Tryz.underlying32 rfl (by kernel_rfl)) rfl ?_
 exact Out.val (by rw [HNu.out]) rfl rfl (HC3.out.res HRl.out HRo.out.1 HRo.out.2 _ _ _ _ _ _) (FrB.res (FrB.kept HK3.out) HRw.out _ _ _ _ _ _)
set_option maxRecDepth 100000 in
set_option maxHeartbeats 8000000 in
theorem p_list_file {w0 w : World} {B : Nat} {c : Cal} {pk v1 v2 v3 : Value} {ev : List Value} {S : Sta} (h : Cb w0 w B c pk v1 v2 v3 ev S) {num : Int} {k : Nat} (hf : findR S.ino c.path = (num, 0)) (hat : atR S.ino num = some k) (hk : k < S.ino.length) (hd : (S.ino[k]).dir = false) :
   Calls Tryz.prog 87 #[.pointer (some ⟨B, 0, none⟩)] w (Out w0 w B c pk v1 v2 v3 ev S (.error 7)) := by
 obtain ⟨W1, R, HWR, HKR, HRb⟩ := boxR w #[.int .i64 0, .int .i64 0, .int .i64 0, .bool false, .string ⟨#[]⟩, .slice none 0 0] 32
 have HC1 : Hid (Cb w0 W1 B c pk v1 v2 v3 ev S) := h.kept HKR.out
 have HRo : Hid (Off [R] v1 v2 v3 ev ∧ R ≠ B) := h.new (Nat.le_of_eq HWR.out.2)
 have HRw : Hid (w.heap.size ≤ R) := Nat.le_of_eq HWR.out.2
 have HRl : Hid (w0.heap.size ≤ R) := by have := h.k.size; rw [← HWR.out.2]; exact this
 obtain ⟨p, e1, e2, e3, hrd, f1, f3⟩ := HC1.out.rd
 have HR : Hid (Rd W1 B c pk p S) := hrd
 have HV : Hid (v1 = .slice p.a1 S.ino.length p.c1 ∧ v2 = .slice p.a2 S.opn.length p.c2 ∧ v3 = .slice p.a3 S.made.length p.c3 ∧ (∀ x, p.a1 = some x → ∃ g, x = ⟨g, 0, none⟩) ∧ (∀ x, p.a3 = some x → ∃ g, x = ⟨g, 0, none⟩)) := ⟨e1, e2, e3, f1, f3⟩
 have HBd : Hid (Bd S) := h.bd
 have HF : Hid (findR S.ino c.path = (num, 0) ∧ atR S.ino num = some k) := ⟨hf, hat⟩
 obtain ⟨b1, o1, ae, ce, ha, -⟩ := hrd.sv.ino k hk
 have ho1 : o1 = 0 := by
   obtain ⟨g, hg⟩ := f1 _ ha
   simp only [Addr.mk.injEq, and_true] at hg
   exact hg.2
 subst ho1
 have HA : Hid (p.a1 = some ⟨b1, 0, none⟩) := ha
 have d5 := hrd.c5
 have HDt : Hid (_) := hd
 clear h e1 e2 e3 f1 f3 hrd hf hat ha hd
 go_enter Tryz.func87, Tryz.ntmps87
 go_upto_region 1 with fail
 rw [HWR.out.1, HWR.out.2]
 clear HWR
 go_wp2_with fail
 refine (found_ok HR.out c.path HF.out.1 HF.out.2 HA.out).mono ?_
 rintro e w1 ⟨rfl, k1⟩
 rw [Nat.zero_add]
 have HK1 : Hid (Kept [] w w1) := HKR.out.trans k1 (by simp)
 have HC2 : Hid (_) := HC1.out.kept k1
 have HR2 : Hid (_) := HR.out.kept k1
 have HB1 : Hid (w1.heap[R]? = _) := (k1.block _ (lt_of_heap HRb.out) (by simp)).trans HRb.out
 obtain ⟨b2, o2, ae2, ce2, ha2, q0, q1, q2, q3, q4, q5, q6⟩ := HR2.out.sv.ino k hk
 rw [HA.out] at ha2
 simp only [Option.some.injEq, Addr.mk.injEq, and_true] at ha2
 obtain ⟨hb2, ho2⟩ := ha2
 subst hb2 ho2
 rw [Nat.zero_add] at q0 q1 q2 q3
 obtain ⟨D, hD⟩ : ∃ D, (S.ino[k]).data = D := ⟨_, rfl⟩
 have HD : Hid (D.size ≤ 140737488351232) := by rw [← hD]; exact HBd.out.d1 _ (List.getElem_mem hk)
 rw [hD] at q3
 have HDe : Hid (_) := hD
 obtain ⟨di, hdi⟩ : ∃ di, (S.ino[k]).dir = di := ⟨_, rfl⟩
 rw [hdi] at q1
 have HDi : Hid (_) := hdi
 obtain ⟨nu, hnu⟩ : ∃ nu, (S.ino[k]).num = nu := ⟨_, rfl⟩
 rw [hnu] at q0
 have HNu : Hid (_) := hnu
 obtain ⟨E, hE⟩ : ∃ E, (S.ino[k]).ents = E := ⟨_, rfl⟩
 rw [hE] at q2 q4 q5
 have HEe : Hid (_) := hE
 have HEn : Hid (EntA w1 ae2 E) := q4
 have HV1 : Hid (v1 = .slice (some ⟨b1, 0, none⟩) S.ino.length p.c1) := by show _ = _; rw [HV.out.1, HA.out]
 have HRg : Hid (R ≠ b1) := fun e => (HRo.out.1 R (by simp)).1 (by rw [HV1.out, e]; rfl)
 clear hD hdi hnu hE q4 q5 q6
 clear k1 HR HC1 HRb d5
 have hdt : di = false := by rw [← HDi.out]; exact HDt.out
 subst hdt
 go_wp2_with fail
 refine (p_if 7 (by decide) w1).mono ?_
 rintro e w2 ⟨rfl, hw⟩
 subst hw
 exact ⟨rfl, Out.err rfl HC2.out (FrB.kept HK1.out)⟩
set_option maxRecDepth 100000 in
set_option maxHeartbeats 8000000 in
theorem p_list_of {w0 w : World} {B : Nat} {c : Cal} {pk v1 v2 v3 : Value} {ev : List Value} {S : Sta} (h : Cb w0 w B c pk v1 v2 v3 ev S) {num : Int} {k : Nat} (hf : findR S.ino c.path = (num, 0)) (hat : atR S.ino num = some k) (hk : k < S.ino.length) (hd : (S.ino[k]).dir = true) (hs : (S.ino[k]).ents.length ≤ 900000) :
   Calls Tryz.prog 87 #[.pointer (some ⟨B, 0, none⟩)] w (Out w0 w B c pk v1 v2 v3 ev S (.ok (S, ⟨0, 0, 0, false, ⟨#[]⟩, (S.ino[k]).ents.map Prod.fst⟩))) := by
 obtain ⟨W1, R, HWR, HKR, HRb⟩ := boxR w #[.int .i64 0, .int .i64 0, .int .i64 0, .bool false, .string ⟨#[]⟩, .slice none 0 0] 32
 have HC1 : Hid (Cb w0 W1 B c pk v1 v2 v3 ev S) := h.kept HKR.out
 have HRo : Hid (Off [R] v1 v2 v3 ev ∧ R ≠ B) := h.new (Nat.le_of_eq HWR.out.2)
 have HRw : Hid (w.heap.size ≤ R) := Nat.le_of_eq HWR.out.2
 have HRl : Hid (w0.heap.size ≤ R) := by have := h.k.size; rw [← HWR.out.2]; exact this
 obtain ⟨p, e1, e2, e3, hrd, f1, f3⟩ := HC1.out.rd
 have HR : Hid (Rd W1 B c pk p S) := hrd
 have HV : Hid (v1 = .slice p.a1 S.ino.length p.c1 ∧ v2 = .slice p.a2 S.opn.length p.c2 ∧ v3 = .slice p.a3 S.made.length p.c3 ∧ (∀ x, p.a1 = some x → ∃ g, x = ⟨g, 0, none⟩) ∧ (∀ x, p.a3 = some x → ∃ g, x = ⟨g, 0, none⟩)) := ⟨e1, e2, e3, f1, f3⟩
 have HBd : Hid (Bd S) := h.bd
 have HF : Hid (findR S.ino c.path = (num, 0) ∧ atR S.ino num = some k) := ⟨hf, hat⟩
 obtain ⟨b1, o1, ae, ce, ha, -⟩ := hrd.sv.ino k hk
 have ho1 : o1 = 0 := by
   obtain ⟨g, hg⟩ := f1 _ ha
   simp only [Addr.mk.injEq, and_true] at hg
   exact hg.2
 subst ho1
 have HA : Hid (p.a1 = some ⟨b1, 0, none⟩) := ha
 have d5 := hrd.c5
 have HDt : Hid (_) := hd
 have HS6 : Hid (_) := hs
 clear h e1 e2 e3 f1 f3 hrd hf hat ha hd hs
 go_enter Tryz.func87, Tryz.ntmps87
 go_upto_region 1 with fail
 rw [HWR.out.1, HWR.out.2]
 clear HWR
 go_wp2_with fail
 refine (found_ok HR.out c.path HF.out.1 HF.out.2 HA.out).mono ?_
 rintro e w1 ⟨rfl, k1⟩
 rw [Nat.zero_add]
 have HK1 : Hid (Kept [] w w1) := HKR.out.trans k1 (by simp)
 have HC2 : Hid (_) := HC1.out.kept k1
 have HR2 : Hid (_) := HR.out.kept k1
 have HB1 : Hid (w1.heap[R]? = _) := (k1.block _ (lt_of_heap HRb.out) (by simp)).trans HRb.out
 obtain ⟨b2, o2, ae2, ce2, ha2, q0, q1, q2, q3, q4, q5, q6⟩ := HR2.out.sv.ino k hk
 rw [HA.out] at ha2
 simp only [Option.some.injEq, Addr.mk.injEq, and_true] at ha2
 obtain ⟨hb2, ho2⟩ := ha2
 subst hb2 ho2
 rw [Nat.zero_add] at q0 q1 q2 q3
 obtain ⟨D, hD⟩ : ∃ D, (S.ino[k]).data = D := ⟨_, rfl⟩
 have HD : Hid (D.size ≤ 140737488351232) := by rw [← hD]; exact HBd.out.d1 _ (List.getElem_mem hk)
 rw [hD] at q3
 have HDe : Hid (_) := hD
 obtain ⟨di, hdi⟩ : ∃ di, (S.ino[k]).dir = di := ⟨_, rfl⟩
 rw [hdi] at q1
 have HDi : Hid (_) := hdi
 obtain ⟨nu, hnu⟩ : ∃ nu, (S.ino[k]).num = nu := ⟨_, rfl⟩
 rw [hnu] at q0
 have HNu : Hid (_) := hnu
 obtain ⟨E, hE⟩ : ∃ E, (S.ino[k]).ents = E := ⟨_, rfl⟩
 rw [hE] at q2 q4 q5
 have HEe : Hid (_) := hE
 have HEn : Hid (EntA w1 ae2 E) := q4
 have HV1 : Hid (v1 = .slice (some ⟨b1, 0, none⟩) S.ino.length p.c1) := by show _ = _; rw [HV.out.1, HA.out]
 have HRg : Hid (R ≠ b1) := fun e => (HRo.out.1 R (by simp)).1 (by rw [HV1.out, e]; rfl)
 clear hD hdi hnu hE q4 q5 q6
 clear k1 HR HC1 HRb d5
 have hdt : di = true := by rw [← HDi.out]; exact HDt.out
 subst hdt
 go_wp2_with fail
 refine (p_if_no 7 w1).mono ?_
 rintro e w2 ⟨rfl, hw⟩
 have hw2 := hw.symm
 subst hw2
 have hEl : E.length ≤ 900000 := by rw [← HEe.out]; exact HS6.out
 have HNm : Hid (∀ e ∈ E, e.1.size ≤ 140737488351232) := by rw [← HEe.out]; exact HBd.out.e1 _ (List.getElem_mem hk)
 go_wp2_with fail
 clear q0 q1 q2 q3
 go_loopw [4, 25] (fun u i wr => ∃ n : Nat, i = .int .i64 (n : Int) ∧ n ≤ E.length ∧ ∃ a m k, u = .slice a m k ∧ Hid (Kept [] w1 wr ∧ Sr wr w1.heap.size (.slice a m k) ((E.take n).map Prod.fst))) (fun _ i _ => (E.length - intOf i).toNat)
 case atStart => exact ⟨0, rfl, by omega, _, _, _, rfl, Kept.refl _ _, Sr.nil _ _⟩
 case round =>
   obtain ⟨n, rfl, hn, a, m, kk, rfl, HJ⟩ := hrel
   by_cases hlt : n < E.length
   · have i0 : (0 : Int) ≤ (n : Int) := by omega
     have i1 : (n : Int) < (E.length : Int) := by omega
     obtain ⟨b5, o5, hb5, h1, h2⟩ := (HEn.out.kept HJ.out.1) n hlt
     subst hb5
     have HTk : Hid ((E.take (n + 1)).map Prod.fst = (E.take n).map Prod.fst ++ [(E[n]).1]) := by show _ = _; rw [List.take_succ_eq_append_getElem hlt, List.map_append]; rfl
     have HTz : Hid ((E[n]).1.size ≤ 140737488351232) := HNm.out _ (List.getElem_mem hlt)
     obtain ⟨t, ht⟩ : ∃ t, (E[n]).1 = t := ⟨_, rfl⟩
     rw [ht] at h1 HTk HTz
     generalize (E[n]).2 = z at h2
     clear ht
     obtain ⟨W3, Z, HWZ, HK3, e0, e1⟩ := box2 wr (.string t) (.int .i64 z) 66
     have HKW : Hid (Kept [] w1 W3) := HJ.out.1.trans HK3.out (by simp)
     have HS3 : Hid (Sr W3 w1.heap.size (.slice a m kk) ((E.take n).map Prod.fst)) := Sr.kept HJ.out.2 HK3.out
     go_upto_region 7 with fail
     rw [HWZ.out.1, HWZ.out.2]
     clear HWZ h1 h2 HJ HK3
     go_wp2_with fail
     refine (s_clone t W3 HTz.out).mono ?_
     rintro e w5 ⟨rfl, k5⟩
     have HK5 : Hid (Kept [] w1 w5) := HKW.out.trans k5 (by simp)
     have hlen : ((E.take n).map Prod.fst).length ≤ E.length := by rw [List.length_map, List.length_take]; omega
     have HS5 : Sr w5 w1.heap.size (.slice a m kk) ((E.take n).map Prod.fst) := Sr.kept HS3.out k5
     obtain ⟨v', w', hr, hs6, hk6⟩ := append_text HS5 HK5.out.size t (by omega) 30
     have HAp : Hid (_) := hr
     have HO6 : Hid (Kept [] w1 w' ∧ Sr w' w1.heap.size v' ((E.take (n + 1)).map Prod.fst)) := ⟨kept_of_own (H := 0) HK5.out hk6 (fun q hq => (Sr.block HS5 q hq).1), by rw [HTk.out]; exact hs6⟩
     obtain ⟨a2, c2, hv2, -⟩ := Sr.read hs6
     obtain ⟨l2, hl2⟩ : ∃ l2, ((E.take n).map Prod.fst ++ [t]).length = l2 := ⟨_, rfl⟩
     rw [hl2] at hv2
     subst hv2
     clear hl2 hr hs6 hk6 k5 HTk HKW HS3 HS5 HK5 e0 e1
     go_wp2_with (first
       | (at_builtin; refine wpList_append_run _ rfl _ _ 30 30 rfl _ _ rfl rfl _ _ HAp.out ?_))
     go_roundw
     case rel => exact ⟨n + 1, by go_num, by omega, _, _, _, rfl, HO6.out⟩
     case measure => simp [intOf]; omega
   · have i1 : ¬ (n : Int) < (E.length : Int) := by omega
     have HN : Hid (Sr wr w1.heap.size (.slice a m kk) (E.map Prod.fst)) := by
       have := HJ.out.2
       rw [List.take_of_length_le (by omega)] at this
       exact this
     have HK3 : Hid (Kept [] w1 wr) := HJ.out.1
     have HC3 : Hid (_) := HC2.out.kept HJ.out.1
     have HB3 : Hid (wr.heap[R]? = _) := (HJ.out.1.block _ (lt_of_heap HB1.out) (by simp)).trans HB1.out
     have HOf : Hid (∀ b, (Value.slice a m kk).ownBlock = some b → Off [b] v1 v2 v3 ev) := fun b hb => (HC2.out.new (Sr.block HN.out b hb).1).1
     have HR1 : Hid (R < w1.heap.size) := lt_of_heap HB1.out
     clear HJ
     have g0 : wr.cell? ⟨R, 0, none⟩ = some (.int .i64 0) := cellB HB3.out
     have z0 := frozen_of HB3.out 0
     have g1 : wr.cell? ⟨R, 1, none⟩ = some (.int .i64 0) := cellB HB3.out
     have z1 := frozen_of HB3.out 1
     have g2 : wr.cell? ⟨R, 2, none⟩ = some (.int .i64 0) := cellB HB3.out
     have z2 := frozen_of HB3.out 2
     have g3 : wr.cell? ⟨R, 3, none⟩ = some (.bool false) := cellB HB3.out
     have z3 := frozen_of HB3.out 3
     have g4 : wr.cell? ⟨R, 4, none⟩ = some (.string ⟨#[]⟩) := cellB HB3.out
     have z4 := frozen_of HB3.out 4
     have g5 : wr.cell? ⟨R, 5, none⟩ = some (.slice none 0 0) := cellB HB3.out
     have z5 := frozen_of HB3.out 5
     go_wp2_with fail
     (try simp only [Exit.inBlock, Exit.then])
     refine bodyPost_ret (results_cell_row rfl _ _ R 32 #[.int .i64 0, .int .i64 0, .int .i64 0, .bool false, .string ⟨#[]⟩, .slice a m kk] (0, 0) _ rfl (block_res HB3.out _ _ _ _ _ _) Tryz.underlying32 rfl (by kernel_rfl)) rfl ?_
     have := Oks.laid (A := ⟨0, 0, 0, false, ⟨#[]⟩, E.map Prod.fst⟩) HK1.out HRl.out HRw.out HR1.out HRo.out HN.out HOf.out HC3.out (FrB.kept HK3.out) (.int .i64 0) (.int .i64 0) (.int .i64 0) (.bool false) (.string ⟨#[]⟩) (.slice a m kk)
     rw [← HEe.out] at this
     exact this
end Go.Proofs.YtmeafancgmkfkaaGreatDoor
