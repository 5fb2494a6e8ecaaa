/-
  Joined of my texts Fc.
-/
import Derived.Test.YtmeafancgmkfkaaGreatDoorJf27
import Derived.Test.YtmeafancgmkfkaaGreatDoorJf28
namespace Go.Proofs.YtmeafancgmkfkaaGreatDoor
open List renaming setIfInBounds_toArray → lz0, set_cons_zero → lz1, set_cons_succ → lz2, getElem_toArray → lz3, getElem_cons_zero → lz4, getElem_cons_succ → lz5
open Go.RowKit
set_option linter.unusedVariables false
set_option linter.unusedSimpArgs false
set_option maxRecDepth 100000 in
set_option maxHeartbeats 8000000 in
theorem p_size_none {w0 w : World} {B : Nat} {c : Cal} {pk v1 v2 v3 : Value} {ev : List Value} {S : Sta} (h : Cb w0 w B c pk v1 v2 v3 ev S) (hf : fdP S.opn c.core c.fd = none) :
   Calls Tryz.prog 82 #[.pointer (some ⟨B, 0, none⟩)] w (Out w0 w B c pk v1 v2 v3 ev S (.error 4)) := by
 obtain ⟨W1, R, HWR, HKR, HRb⟩ := boxR w #[.int .i64 0, .int .i64 0, .int .i64 0, .bool false, .string ⟨#[]⟩, .slice none 0 0] 32
 have HC1 : Hid (Cb w0 W1 B c pk v1 v2 v3 ev S) := h.kept HKR.out
 have HRo : Hid (Off [R] v1 v2 v3 ev ∧ R ≠ B) := h.new (Nat.le_of_eq HWR.out.2)
 have HRw : Hid (w.heap.size ≤ R) := Nat.le_of_eq HWR.out.2
 have HRl : Hid (w0.heap.size ≤ R) := by have := h.k.size; rw [← HWR.out.2]; exact this
 obtain ⟨p, e1, e2, e3, hrd, f1, f3⟩ := HC1.out.rd
 have HR : Hid (Rd W1 B c pk p S) := hrd
 have HV : Hid (v1 = .slice p.a1 S.ino.length p.c1 ∧ v2 = .slice p.a2 S.opn.length p.c2 ∧ v3 = .slice p.a3 S.made.length p.c3 ∧ (∀ x, p.a1 = some x → ∃ g, x = ⟨g, 0, none⟩) ∧ (∀ x, p.a3 = some x → ∃ g, x = ⟨g, 0, none⟩)) := ⟨e1, e2, e3, f1, f3⟩
 have HBd : Hid (Bd S) := h.bd
 have HF : Hid (_) := hf
 clear h e1 e2 e3 f1 f3 hrd hf
 go_enter Tryz.func82, Tryz.ntmps82
 go_upto_region 1 with fail
 rw [HWR.out.1, HWR.out.2]
 clear HWR
 go_wp2_with fail
 refine (p_file_none HR.out HF.out).mono ?_
 rintro e w1 ⟨rfl, k1⟩
 exact ⟨rfl, Out.err rfl (HC1.out.kept k1) (FrB.kept (HKR.out.trans k1 (by simp)))⟩
set_option maxRecDepth 100000 in
set_option maxHeartbeats 8000000 in
theorem p_truncate_none {w0 w : World} {B : Nat} {c : Cal} {pk v1 v2 v3 : Value} {ev : List Value} {S : Sta} (h : Cb w0 w B c pk v1 v2 v3 ev S) (hf : fdP S.opn c.core c.fd = none) :
   Calls Tryz.prog 81 #[.pointer (some ⟨B, 0, none⟩)] w (Out w0 w B c pk v1 v2 v3 ev S (.error 4)) := by
 obtain ⟨W1, R, HWR, HKR, HRb⟩ := boxR w #[.int .i64 0, .int .i64 0, .int .i64 0, .bool false, .string ⟨#[]⟩, .slice none 0 0] 32
 have HC1 : Hid (Cb w0 W1 B c pk v1 v2 v3 ev S) := h.kept HKR.out
 have HRo : Hid (Off [R] v1 v2 v3 ev ∧ R ≠ B) := h.new (Nat.le_of_eq HWR.out.2)
 have HRw : Hid (w.heap.size ≤ R) := Nat.le_of_eq HWR.out.2
 have HRl : Hid (w0.heap.size ≤ R) := by have := h.k.size; rw [← HWR.out.2]; exact this
 obtain ⟨p, e1, e2, e3, hrd, f1, f3⟩ := HC1.out.rd
 have HR : Hid (Rd W1 B c pk p S) := hrd
 have HV : Hid (v1 = .slice p.a1 S.ino.length p.c1 ∧ v2 = .slice p.a2 S.opn.length p.c2 ∧ v3 = .slice p.a3 S.made.length p.c3 ∧ (∀ x, p.a1 = some x → ∃ g, x = ⟨g, 0, none⟩) ∧ (∀ x, p.a3 = some x → ∃ g, x = ⟨g, 0, none⟩)) := ⟨e1, e2, e3, f1, f3⟩
 have HBd : Hid (Bd S) := h.bd
 have HF : Hid (_) := hf
 clear h e1 e2 e3 f1 f3 hrd hf
 go_enter Tryz.func81, Tryz.ntmps81
 go_upto_region 1 with fail
 rw [HWR.out.1, HWR.out.2]
 clear HWR
 go_wp2_with fail
 refine (p_file_none HR.out HF.out).mono ?_
 rintro e w1 ⟨rfl, k1⟩
 exact ⟨rfl, Out.err rfl (HC1.out.kept k1) (FrB.kept (HKR.out.trans k1 (by simp)))⟩
set_option maxRecDepth 100000 in
set_option maxHeartbeats 8000000 in
theorem p_read_none {w0 w : World} {B : Nat} {c : Cal} {pk v1 v2 v3 : Value} {ev : List Value} {S : Sta} (h : Cb w0 w B c pk v1 v2 v3 ev S) (hf : fdP S.opn c.core c.fd = none) :
   Calls Tryz.prog 79 #[.pointer (some ⟨B, 0, none⟩)] w (Out w0 w B c pk v1 v2 v3 ev S (.error 4)) := by
 obtain ⟨W1, R, HWR, HKR, HRb⟩ := boxR w #[.int .i64 0, .int .i64 0, .int .i64 0, .bool false, .string ⟨#[]⟩, .slice none 0 0] 32
 have HC1 : Hid (Cb w0 W1 B c pk v1 v2 v3 ev S) := h.kept HKR.out
 have HRo : Hid (Off [R] v1 v2 v3 ev ∧ R ≠ B) := h.new (Nat.le_of_eq HWR.out.2)
 have HRw : Hid (w.heap.size ≤ R) := Nat.le_of_eq HWR.out.2
 have HRl : Hid (w0.heap.size ≤ R) := by have := h.k.size; rw [← HWR.out.2]; exact this
 obtain ⟨p, e1, e2, e3, hrd, f1, f3⟩ := HC1.out.rd
 have HR : Hid (Rd W1 B c pk p S) := hrd
 have HV : Hid (v1 = .slice p.a1 S.ino.length p.c1 ∧ v2 = .slice p.a2 S.opn.length p.c2 ∧ v3 = .slice p.a3 S.made.length p.c3 ∧ (∀ x, p.a1 = some x → ∃ g, x = ⟨g, 0, none⟩) ∧ (∀ x, p.a3 = some x → ∃ g, x = ⟨g, 0, none⟩)) := ⟨e1, e2, e3, f1, f3⟩
 have HBd : Hid (Bd S) := h.bd
 have HF : Hid (_) := hf
 clear h e1 e2 e3 f1 f3 hrd hf
 go_enter Tryz.func79, Tryz.ntmps79
 go_upto_region 1 with fail
 rw [HWR.out.1, HWR.out.2]
 clear HWR
 go_wp2_with fail
 refine (p_file_none HR.out HF.out).mono ?_
 rintro e w1 ⟨rfl, k1⟩
 exact ⟨rfl, Out.err rfl (HC1.out.kept k1) (FrB.kept (HKR.out.trans k1 (by simp)))⟩
set_option maxRecDepth 100000 in
set_option maxHeartbeats 8000000 in
theorem p_write_none {w0 w : World} {B : Nat} {c : Cal} {pk v1 v2 v3 : Value} {ev : List Value} {S : Sta} (h : Cb w0 w B c pk v1 v2 v3 ev S) (hf : fdP S.opn c.core c.fd = none) :
   Calls Tryz.prog 80 #[.pointer (some ⟨B, 0, none⟩)] w (Out w0 w B c pk v1 v2 v3 ev S (.error 4)) := by
 obtain ⟨W1, R, HWR, HKR, HRb⟩ := boxR w #[.int .i64 0, .int .i64 0, .int .i64 0, .bool false, .string ⟨#[]⟩, .slice none 0 0] 32
 have HC1 : Hid (Cb w0 W1 B c pk v1 v2 v3 ev S) := h.kept HKR.out
 have HRo : Hid (Off [R] v1 v2 v3 ev ∧ R ≠ B) := h.new (Nat.le_of_eq HWR.out.2)
 have HRw : Hid (w.heap.size ≤ R) := Nat.le_of_eq HWR.out.2
 have HRl : Hid (w0.heap.size ≤ R) := by have := h.k.size; rw [← HWR.out.2]; exact this
 obtain ⟨p, e1, e2, e3, hrd, f1, f3⟩ := HC1.out.rd
 have HR : Hid (Rd W1 B c pk p S) := hrd
 have HV : Hid (v1 = .slice p.a1 S.ino.length p.c1 ∧ v2 = .slice p.a2 S.opn.length p.c2 ∧ v3 = .slice p.a3 S.made.length p.c3 ∧ (∀ x, p.a1 = some x → ∃ g, x = ⟨g, 0, none⟩) ∧ (∀ x, p.a3 = some x → ∃ g, x = ⟨g, 0, none⟩)) := ⟨e1, e2, e3, f1, f3⟩
 have HBd : Hid (Bd S) := h.bd
 have HF : Hid (_) := hf
 clear h e1 e2 e3 f1 f3 hrd hf
 go_enter Tryz.func80, Tryz.ntmps80
 go_upto_region 1 with fail
 rw [HWR.out.1, HWR.out.2]
 clear HWR
 go_wp2_with fail
 refine (p_file_none HR.out HF.out).mono ?_
 rintro e w1 ⟨rfl, k1⟩
 exact ⟨rfl, Out.err rfl (HC1.out.kept k1) (FrB.kept (HKR.out.trans k1 (by simp)))⟩
set_option maxRecDepth 100000 in
set_option maxHeartbeats 8000000 in
theorem p_fsync_none {w0 w : World} {B : Nat} {c : Cal} {pk v1 v2 v3 : Value} {ev : List Value} {S : Sta} (h : Cb w0 w B c pk v1 v2 v3 ev S) (hf : fdP S.opn c.core c.fd = none) :
   Calls Tryz.prog 90 #[.pointer (some ⟨B, 0, none⟩)] w (Out w0 w B c pk v1 v2 v3 ev S (.error 4)) := by
 obtain ⟨W1, R, HWR, HKR, HRb⟩ := boxR w #[.int .i64 0, .int .i64 0, .int .i64 0, .bool false, .string ⟨#[]⟩, .slice none 0 0] 32
 have HC1 : Hid (Cb w0 W1 B c pk v1 v2 v3 ev S) := h.kept HKR.out
 have HRo : Hid (Off [R] v1 v2 v3 ev ∧ R ≠ B) := h.new (Nat.le_of_eq HWR.out.2)
 have HRw : Hid (w.heap.size ≤ R) := Nat.le_of_eq HWR.out.2
 have HRl : Hid (w0.heap.size ≤ R) := by have := h.k.size; rw [← HWR.out.2]; exact this
 obtain ⟨p, e1, e2, e3, hrd, f1, f3⟩ := HC1.out.rd
 have HR : Hid (Rd W1 B c pk p S) := hrd
 have HV : Hid (v1 = .slice p.a1 S.ino.length p.c1 ∧ v2 = .slice p.a2 S.opn.length p.c2 ∧ v3 = .slice p.a3 S.made.length p.c3 ∧ (∀ x, p.a1 = some x → ∃ g, x = ⟨g, 0, none⟩) ∧ (∀ x, p.a3 = some x → ∃ g, x = ⟨g, 0, none⟩)) := ⟨e1, e2, e3, f1, f3⟩
 have HBd : Hid (Bd S) := h.bd
 have HF : Hid (_) := hf
 clear h e1 e2 e3 f1 f3 hrd hf
 go_enter Tryz.func90, Tryz.ntmps90
 go_upto_region 1 with fail
 rw [HWR.out.1, HWR.out.2]
 clear HWR
 go_wp2_with fail
 refine (p_own_none HR.out HF.out).mono ?_
 rintro e w1 ⟨rfl, k1⟩
 exact ⟨rfl, Out.err rfl (HC1.out.kept k1) (FrB.kept (HKR.out.trans k1 (by simp)))⟩
set_option maxRecDepth 100000 in
set_option maxHeartbeats 8000000 in
theorem p_fsync {w0 w : World} {B : Nat} {c : Cal} {pk v1 v2 v3 : Value} {ev : List Value} {S : Sta} (h : Cb w0 w B c pk v1 v2 v3 ev S) {j : Nat} (hf : fdP S.opn c.core c.fd = some j) :
   Calls Tryz.prog 90 #[.pointer (some ⟨B, 0, none⟩)] w (Out w0 w B c pk v1 v2 v3 ev S (.ok (S, ansC 0))) := by
 obtain ⟨W1, R, HWR, HKR, HRb⟩ := boxR w #[.int .i64 0, .int .i64 0, .int .i64 0, .bool false, .string ⟨#[]⟩, .slice none 0 0] 32
 have HC1 : Hid (Cb w0 W1 B c pk v1 v2 v3 ev S) := h.kept HKR.out
 have HRo : Hid (Off [R] v1 v2 v3 ev ∧ R ≠ B) := h.new (Nat.le_of_eq HWR.out.2)
 have HRw : Hid (w.heap.size ≤ R) := Nat.le_of_eq HWR.out.2
 have HRl : Hid (w0.heap.size ≤ R) := by have := h.k.size; rw [← HWR.out.2]; exact this
 obtain ⟨p, e1, e2, e3, hrd, f1, f3⟩ := HC1.out.rd
 have HR : Hid (Rd W1 B c pk p S) := hrd
 have HV : Hid (v1 = .slice p.a1 S.ino.length p.c1 ∧ v2 = .slice p.a2 S.opn.length p.c2 ∧ v3 = .slice p.a3 S.made.length p.c3 ∧ (∀ x, p.a1 = some x → ∃ g, x = ⟨g, 0, none⟩) ∧ (∀ x, p.a3 = some x → ∃ g, x = ⟨g, 0, none⟩)) := ⟨e1, e2, e3, f1, f3⟩
 have HBd : Hid (Bd S) := h.bd
 have HF : Hid (_) := hf
 clear h e1 e2 e3 f1 f3 hrd hf
 go_enter Tryz.func90, Tryz.ntmps90
 go_upto_region 1 with fail
 rw [HWR.out.1, HWR.out.2]
 clear HWR
 go_wp2_with fail
 refine (p_own_some HR.out HF.out).mono ?_
 rintro e w1 ⟨rfl, k1⟩
 have HK1 : Hid (Kept [] w w1) := HKR.out.trans k1 (by simp)
 have HC2 : Hid (_) := HC1.out.kept k1
 have HB1 : Hid (w1.heap[R]? = _) := (k1.block _ (lt_of_heap HRb.out) (by simp)).trans HRb.out
 clear k1 HR HC1 HRb
 have g0 : w1.cell? ⟨R, 0, none⟩ = some (.int .i64 0) := cellB HB1.out
 have z0 := frozen_of HB1.out 0
 have g1 : w1.cell? ⟨R, 1, none⟩ = some (.int .i64 0) := cellB HB1.out
 have z1 := frozen_of HB1.out 1
 have g2 : w1.cell? ⟨R, 2, none⟩ = some (.int .i64 0) := cellB HB1.out
 have z2 := frozen_of HB1.out 2
 have g3 : w1.cell? ⟨R, 3, none⟩ = some (.bool false) := cellB HB1.out
 have z3 := frozen_of HB1.out 3
 have g4 : w1.cell? ⟨R, 4, none⟩ = some (.string ⟨#[]⟩) := cellB HB1.out
 have z4 := frozen_of HB1.out 4
 have g5 : w1.cell? ⟨R, 5, none⟩ = some (.slice none 0 0) := cellB HB1.out
 have z5 := frozen_of HB1.out 5
 go_wp2_with fail
 (try simp only [Exit.inBlock, Exit.then])
 refine bodyPost_ret (results_cell_row rfl _ _ R 32 #[.int .i64 0, .int .i64 0, .int .i64 0, .bool false, .string ⟨#[]⟩, .slice none 0 0] (0, 0) _ rfl (block_res HB1.out _ _ _ _ _ _) Tryz.underlying32 rfl (by kernel_rfl)) rfl ?_
 exact Out.val rfl rfl rfl (HC2.out.res HRl.out HRo.out.1 HRo.out.2 _ _ _ _ _ _) (FrB.res (FrB.kept HK1.out) HRw.out _ _ _ _ _ _)
set_option maxRecDepth 100000 in
set_option maxHeartbeats 8000000 in
theorem p_size {w0 w : World} {B : Nat} {c : Cal} {pk v1 v2 v3 : Value} {ev : List Value} {S : Sta} (h : Cb w0 w B c pk v1 v2 v3 ev S) {j k : Nat} (hf : fdP S.opn c.core c.fd = some j) (hj : j < S.opn.length) (hat : atR S.ino (S.opn[j]).2.2 = some k) (hk : k < S.ino.length) :
   Calls Tryz.prog 82 #[.pointer (some ⟨B, 0, none⟩)] w (Out w0 w B c pk v1 v2 v3 ev S (.ok (S, ⟨0, 0, ((S.ino[k]).data.size : Int), false, ⟨#[]⟩, []⟩))) := by
 obtain ⟨W1, R, HWR, HKR, HRb⟩ := boxR w #[.int .i64 0, .int .i64 0, .int .i64 0, .bool false, .string ⟨#[]⟩, .slice none 0 0] 32
 have HC1 : Hid (Cb w0 W1 B c pk v1 v2 v3 ev S) := h.kept HKR.out
 have HRo : Hid (Off [R] v1 v2 v3 ev ∧ R ≠ B) := h.new (Nat.le_of_eq HWR.out.2)
 have HRw : Hid (w.heap.size ≤ R) := Nat.le_of_eq HWR.out.2
 have HRl : Hid (w0.heap.size ≤ R) := by have := h.k.size; rw [← HWR.out.2]; exact this
 obtain ⟨p, e1, e2, e3, hrd, f1, f3⟩ := HC1.out.rd
 have HR : Hid (Rd W1 B c pk p S) := hrd
 have HV : Hid (v1 = .slice p.a1 S.ino.length p.c1 ∧ v2 = .slice p.a2 S.opn.length p.c2 ∧ v3 = .slice p.a3 S.made.length p.c3 ∧ (∀ x, p.a1 = some x → ∃ g, x = ⟨g, 0, none⟩) ∧ (∀ x, p.a3 = some x → ∃ g, x = ⟨g, 0, none⟩)) := ⟨e1, e2, e3, f1, f3⟩
 have HBd : Hid (Bd S) := h.bd
 have HF : Hid (fdP S.opn c.core c.fd = some j ∧ ∃ hj : j < S.opn.length, atR S.ino (S.opn[j]).2.2 = some k) := ⟨hf, hj, hat⟩
 obtain ⟨b1, o1, ae, ce, ha, -⟩ := hrd.sv.ino k hk
 have ho1 : o1 = 0 := by
   obtain ⟨g, hg⟩ := f1 _ ha
   simp only [Addr.mk.injEq, and_true] at hg
   exact hg.2
 subst ho1
 have HA : Hid (p.a1 = some ⟨b1, 0, none⟩) := ha
 clear h e1 e2 e3 f1 f3 hrd hf hj hat ha
 go_enter Tryz.func82, Tryz.ntmps82
 go_upto_region 1 with fail
 rw [HWR.out.1, HWR.out.2]
 clear HWR
 go_wp2_with fail
 refine (p_file_some HR.out HF.out.1 HF.out.2.1 HF.out.2.2 HA.out).mono ?_
 rintro e w1 ⟨rfl, k1⟩
 rw [Nat.zero_add]
 have HK1 : Hid (Kept [] w w1) := HKR.out.trans k1 (by simp)
 have HC2 : Hid (_) := HC1.out.kept k1
 have HR2 : Hid (_) := HR.out.kept k1
 have HB1 : Hid (w1.heap[R]? = _) := (k1.block _ (lt_of_heap HRb.out) (by simp)).trans HRb.out
 obtain ⟨b2, o2, -, -, ha2, -, -, -, q3, -⟩ := HR2.out.sv.ino k hk
 rw [HA.out] at ha2
 simp only [Option.some.injEq, Addr.mk.injEq, and_true] at ha2
 obtain ⟨hb2, ho2⟩ := ha2
 subst hb2 ho2
 rw [Nat.zero_add] at q3
 obtain ⟨D, hD⟩ : ∃ D, (S.ino[k]).data = D := ⟨_, rfl⟩
 have HD : Hid (D.size ≤ 140737488351232) := by rw [← hD]; exact HBd.out.d1 _ (List.getElem_mem hk)
 rw [hD] at q3
 have HDe : Hid (_) := hD
 clear hD
 clear k1 HR HC1 HRb
 have d1 : D.size ≤ 9223372036854775807 := by have := HD.out; omega
 have g0 : w1.cell? ⟨R, 0, none⟩ = some (.int .i64 0) := cellB HB1.out
 have z0 := frozen_of HB1.out 0
 have g1 : w1.cell? ⟨R, 1, none⟩ = some (.int .i64 0) := cellB HB1.out
 have z1 := frozen_of HB1.out 1
 have g2 : w1.cell? ⟨R, 2, none⟩ = some (.int .i64 0) := cellB HB1.out
 have z2 := frozen_of HB1.out 2
 have g3 : w1.cell? ⟨R, 3, none⟩ = some (.bool false) := cellB HB1.out
 have z3 := frozen_of HB1.out 3
 have g4 : w1.cell? ⟨R, 4, none⟩ = some (.string ⟨#[]⟩) := cellB HB1.out
 have z4 := frozen_of HB1.out 4
 have g5 : w1.cell? ⟨R, 5, none⟩ = some (.slice none 0 0) := cellB HB1.out
 have z5 := frozen_of HB1.out 5
 go_wp2_with fail
 (try simp only [Exit.inBlock, Exit.then])
 refine bodyPost_ret (results_cell_row rfl _ _ R 32 #[.int .i64 0, .int .i64 0, .int .i64 (D.size : Int), .bool false, .string ⟨#[]⟩, .slice none 0 0] (0, 0) _ rfl (block_res HB1.out _ _ _ _ _ _) Tryz.underlying32 rfl (by kernel_rfl)) rfl ?_
 exact Out.val (by rw [HDe.out]) rfl rfl (HC2.out.res HRl.out HRo.out.1 HRo.out.2 _ _ _ _ _ _) (FrB.res (FrB.kept HK1.out) HRw.out _ _ _ _ _ _)
set_option maxRecDepth 100000 in
set_option maxHeartbeats 8000000 in
theorem p_truncate_bad {w0 w : World} {B : Nat} {c : Cal} {pk v1 v2 v3 : Value} {ev : List Value} {S : Sta} (h : Cb w0 w B c pk v1 v2 v3 ev S) {j k : Nat} (hf : fdP S.opn c.core c.fd = some j) (hj : j < S.opn.length) (hat : atR S.ino (S.opn[j]).2.2 = some k) (hk : k < S.ino.length) (hn : ¬ (0 ≤ c.num ∧ c.num ≤ 256)) :
   Calls Tryz.prog 81 #[.pointer (some ⟨B, 0, none⟩)] w (Out w0 w B c pk v1 v2 v3 ev S (.error 9)) := by
 obtain ⟨W1, R, HWR, HKR, HRb⟩ := boxR w #[.int .i64 0, .int .i64 0, .int .i64 0, .bool false, .string ⟨#[]⟩, .slice none 0 0] 32
 have HC1 : Hid (Cb w0 W1 B c pk v1 v2 v3 ev S) := h.kept HKR.out
 have HRo : Hid (Off [R] v1 v2 v3 ev ∧ R ≠ B) := h.new (Nat.le_of_eq HWR.out.2)
 have HRw : Hid (w.heap.size ≤ R) := Nat.le_of_eq HWR.out.2
 have HRl : Hid (w0.heap.size ≤ R) := by have := h.k.size; rw [← HWR.out.2]; exact this
 obtain ⟨p, e1, e2, e3, hrd, f1, f3⟩ := HC1.out.rd
 have HR : Hid (Rd W1 B c pk p S) := hrd
 have HV : Hid (v1 = .slice p.a1 S.ino.length p.c1 ∧ v2 = .slice p.a2 S.opn.length p.c2 ∧ v3 = .slice p.a3 S.made.length p.c3 ∧ (∀ x, p.a1 = some x → ∃ g, x = ⟨g, 0, none⟩) ∧ (∀ x, p.a3 = some x → ∃ g, x = ⟨g, 0, none⟩)) := ⟨e1, e2, e3, f1, f3⟩
 have HBd : Hid (Bd S) := h.bd
 have HF : Hid (fdP S.opn c.core c.fd = some j ∧ ∃ hj : j < S.opn.length, atR S.ino (S.opn[j]).2.2 = some k) := ⟨hf, hj, hat⟩
 obtain ⟨b1, o1, ae, ce, ha, -⟩ := hrd.sv.ino k hk
 have ho1 : o1 = 0 := by
   obtain ⟨g, hg⟩ := f1 _ ha
   simp only [Addr.mk.injEq, and_true] at hg
   exact hg.2
 subst ho1
 have HA : Hid (p.a1 = some ⟨b1, 0, none⟩) := ha
 have HN : Hid ((decide (0 ≤ c.num) && decide (c.num ≤ 256)) = false) := by show _ = _; rw [Bool.and_eq_false_iff, decide_eq_false_iff_not, decide_eq_false_iff_not]; omega
 clear h e1 e2 e3 f1 f3 hrd hf hj hat ha hn
 go_enter Tryz.func81, Tryz.ntmps81
 go_upto_region 1 with fail
 rw [HWR.out.1, HWR.out.2]
 clear HWR
 go_wp2_with fail
 refine (p_file_some HR.out HF.out.1 HF.out.2.1 HF.out.2.2 HA.out).mono ?_
 rintro e w1 ⟨rfl, k1⟩
 rw [Nat.zero_add]
 have HK1 : Hid (Kept [] w w1) := HKR.out.trans k1 (by simp)
 have HC2 : Hid (_) := HC1.out.kept k1
 have HR2 : Hid (_) := HR.out.kept k1
 have HB1 : Hid (w1.heap[R]? = _) := (k1.block _ (lt_of_heap HRb.out) (by simp)).trans HRb.out
 obtain ⟨b2, o2, -, -, ha2, -, -, -, q3, -⟩ := HR2.out.sv.ino k hk
 rw [HA.out] at ha2
 simp only [Option.some.injEq, Addr.mk.injEq, and_true] at ha2
 obtain ⟨hb2, ho2⟩ := ha2
 subst hb2 ho2
 rw [Nat.zero_add] at q3
 obtain ⟨D, hD⟩ : ∃ D, (S.ino[k]).data = D := ⟨_, rfl⟩
 have HD : Hid (D.size ≤ 140737488351232) := by rw [← hD]; exact HBd.out.d1 _ (List.getElem_mem hk)
 rw [hD] at q3
 have HDe : Hid (_) := hD
 clear hD
 clear k1 HR HC1 HRb
 have d4 := HR2.out.c4
 go_wp2_with fail
 refine (p_infile c.num w1).mono ?_
 rintro e w2 ⟨rfl, hw⟩
 subst hw
 rw [HN.out]
 go_wp2_with fail
 refine (p_if 9 (by decide) _).mono ?_
 rintro e w3 ⟨rfl, hw⟩
 subst hw
 exact ⟨rfl, Out.err rfl HC2.out (FrB.kept HK1.out)⟩
set_option maxRecDepth 100000 in
set_option maxHeartbeats 8000000 in
theorem p_truncate {w0 w : World} {B : Nat} {c : Cal} {pk v1 v2 v3 : Value} {ev : List Value} {S : Sta} (h : Cb w0 w B c pk v1 v2 v3 ev S) {j k : Nat} (hf : fdP S.opn c.core c.fd = some j) (hj : j < S.opn.length) (hat : atR S.ino (S.opn[j]).2.2 = some k) (hk : k < S.ino.length) {n : Nat} (hn : c.num = (n : Int)) (hn2 : n ≤ 256) :
   Calls Tryz.prog 81 #[.pointer (some ⟨B, 0, none⟩)] w (Out w0 w B c pk v1 v2 v3 ev S (.ok (setD S k hk (strOfNums (sizedL (S.ino[k]).data n)), ansC 0))) := by
 obtain ⟨W1, R, HWR, HKR, HRb⟩ := boxR w #[.int .i64 0, .int .i64 0, .int .i64 0, .bool false, .string ⟨#[]⟩, .slice none 0 0] 32
 have HC1 : Hid (Cb w0 W1 B c pk v1 v2 v3 ev S) := h.kept HKR.out
 have HRo : Hid (Off [R] v1 v2 v3 ev ∧ R ≠ B) := h.new (Nat.le_of_eq HWR.out.2)
 have HRw : Hid (w.heap.size ≤ R) := Nat.le_of_eq HWR.out.2
 have HRl : Hid (w0.heap.size ≤ R) := by have := h.k.size; rw [← HWR.out.2]; exact this
 obtain ⟨p, e1, e2, e3, hrd, f1, f3⟩ := HC1.out.rd
 have HR : Hid (Rd W1 B c pk p S) := hrd
 have HV : Hid (v1 = .slice p.a1 S.ino.length p.c1 ∧ v2 = .slice p.a2 S.opn.length p.c2 ∧ v3 = .slice p.a3 S.made.length p.c3 ∧ (∀ x, p.a1 = some x → ∃ g, x = ⟨g, 0, none⟩) ∧ (∀ x, p.a3 = some x → ∃ g, x = ⟨g, 0, none⟩)) := ⟨e1, e2, e3, f1, f3⟩
 have HBd : Hid (Bd S) := h.bd
 have HF : Hid (fdP S.opn c.core c.fd = some j ∧ ∃ hj : j < S.opn.length, atR S.ino (S.opn[j]).2.2 = some k) := ⟨hf, hj, hat⟩
 obtain ⟨b1, o1, ae, ce, ha, -⟩ := hrd.sv.ino k hk
 have ho1 : o1 = 0 := by
   obtain ⟨g, hg⟩ := f1 _ ha
   simp only [Addr.mk.injEq, and_true] at hg
   exact hg.2
 subst ho1
 have HA : Hid (p.a1 = some ⟨b1, 0, none⟩) := ha
 have HN : Hid (c.num = (n : Int) ∧ (decide (0 ≤ c.num) && decide (c.num ≤ 256)) = true) := ⟨hn, by rw [hn, Bool.and_eq_true, decide_eq_true_eq, decide_eq_true_eq]; omega⟩
 clear h e1 e2 e3 f1 f3 hrd hf hj hat ha hn
 go_enter Tryz.func81, Tryz.ntmps81
 go_upto_region 1 with fail
 rw [HWR.out.1, HWR.out.2]
 clear HWR
 go_wp2_with fail
 refine (p_file_some HR.out HF.out.1 HF.out.2.1 HF.out.2.2 HA.out).mono ?_
 rintro e w1 ⟨rfl, k1⟩
 rw [Nat.zero_add]
 have HK1 : Hid (Kept [] w w1) := HKR.out.trans k1 (by simp)
 have HC2 : Hid (_) := HC1.out.kept k1
 have HR2 : Hid (_) := HR.out.kept k1
 have HB1 : Hid (w1.heap[R]? = _) := (k1.block _ (lt_of_heap HRb.out) (by simp)).trans HRb.out
 obtain ⟨b2, o2, -, -, ha2, -, -, -, q3, -⟩ := HR2.out.sv.ino k hk
 rw [HA.out] at ha2
 simp only [Option.some.injEq, Addr.mk.injEq, and_true] at ha2
 obtain ⟨hb2, ho2⟩ := ha2
 subst hb2 ho2
 rw [Nat.zero_add] at q3
 obtain ⟨D, hD⟩ : ∃ D, (S.ino[k]).data = D := ⟨_, rfl⟩
 have HD : Hid (D.size ≤ 140737488351232) := by rw [← hD]; exact HBd.out.d1 _ (List.getElem_mem hk)
 rw [hD] at q3
 have HDe : Hid (_) := hD
 clear hD
 clear k1 HR HC1 HRb
 have d4 := HR2.out.c4
 go_wp2_with fail
 refine (p_infile c.num w1).mono ?_
 rintro e w2 ⟨rfl, hw⟩
 have hw2 := hw.symm
 subst hw2
 rw [HN.out.2]
 go_wp2_with fail
 refine (p_if_no 9 _).mono ?_
 rintro e w2 ⟨rfl, hw⟩
 have hw2 := hw.symm
 subst hw2
 rw [HN.out.1] at d4
 have HC : Hid (w1.cell? ⟨B, 4, none⟩ = some (.int .i64 (n : Int))) := d4
 have q3d : w1.drew.cell? ⟨b1, k * 4 + 3, none⟩ = some (.string D) := q3
 have HV1 : Hid (v1 = .slice (some ⟨b1, 0, none⟩) S.ino.length p.c1) := by show _ = _; rw [HV.out.1, HA.out]
 have HFz : Hid (∀ W, Kept [] w1 W → W.frozen? ⟨b1, k * 4 + 3, none⟩ = false) := fun W hW => by
   have := (HC2.out.kept hW).os.ino
   rw [HV1.out] at this
   exact this.frozenAt _
 have HBg : Hid (B ≠ b1) := fun e => (HC2.out.off B (by simp)).1 (by rw [HV1.out, e]; rfl)
 have HSt : Hid (∀ (W : World) (v : Value), (W.cell? ⟨B, 4, none⟩ = some (.int .i64 (n : Int))) → ((W.setCell ⟨b1, k * 4 + 3, none⟩ v).cell? ⟨B, 4, none⟩ = some (.int .i64 (n : Int)))) := fun W v hW => by rw [cellO HBg.out]; exact hW
 have n63 : n ≤ 9223372036854775807 := by omega
 clear d4
 go_upto_region 3 with fail
 refine wp_region_held_drew (S := fun w' => w'.cell? ⟨B, 4, none⟩ = some (.int .i64 (n : Int))) (by kernel_rfl) ?_ (fun hHeld => ?_)
 · exact HC.out
 refine wpAnyH_take (i := 0) (v := ?vp0) rfl (by kernel_rfl) (by kernel_rfl) (by kernel_rfl) (fun _ _ _ h => h) (Or.inl ⟨by rfl, ?hyp0⟩) (by assumption) ?_
 case hyp0 =>
   intro w hSw
   (try dsimp only at hSw)
   go_simp
   try with_reducible rfl
 try simp only [Act.put, lz0, lz1, lz2, lz3, lz4, lz5]
 refine wpAnyH_take (i := 1) (v := ?vp1) rfl (by kernel_rfl) (by kernel_rfl) (by kernel_rfl) (fun _ _ _ h => h) (Or.inl ⟨by rfl, ?hyp1⟩) (by assumption) ?_
 case hyp1 =>
   intro w hSw
   (try dsimp only at hSw)
   go_simp
   try with_reducible rfl
 try simp only [Act.put, lz0, lz1, lz2, lz3, lz4, lz5]
 refine wpAnyH_take (i := 2) (v := ?vp2) rfl (by kernel_rfl) (by kernel_rfl) (by kernel_rfl) (fun _ _ _ h => h) (Or.inl ⟨by rfl, ?hyp2⟩) (by assumption) ?_
 case hyp2 =>
   intro w hSw
   (try dsimp only at hSw)
   go_simp
   try with_reducible rfl
 try simp only [Act.put, lz0, lz1, lz2, lz3, lz4, lz5]
 refine wpAnyH_take (i := 3) (v := ?vp3) rfl (by kernel_rfl) (by kernel_rfl) (by kernel_rfl) (fun _ _ _ h => h) (Or.inl ⟨by rfl, ?hyp3⟩) (by assumption) ?_
 case hyp3 =>
   intro w hSw
   (try dsimp only at hSw)
   go_simp
   try with_reducible rfl
 try simp only [Act.put, lz0, lz1, lz2, lz3, lz4, lz5]
 refine wpAnyH_take (i := 5) (v := ?vp5) rfl (by kernel_rfl) (by kernel_rfl) (by kernel_rfl) (fun _ _ _ h => h) (Or.inl ⟨by rfl, ?hyp5⟩) (by assumption) ?_
 case hyp5 =>
   intro w hSw
   (try dsimp only at hSw)
   go_simp
   try with_reducible rfl
 try simp only [Act.put, lz0, lz1, lz2, lz3, lz4, lz5]
 refine wpAnyH_take (i := 6) (v := ?vp6) rfl (by kernel_rfl) (by kernel_rfl) (by kernel_rfl) (fun _ _ _ h => h) (Or.inl ⟨by rfl, ?hyp6⟩) (by assumption) ?_
 case hyp6 =>
   intro w hSw
   (try dsimp only at hSw)
   go_simp
   try with_reducible rfl
 try simp only [Act.put, lz0, lz1, lz2, lz3, lz4, lz5]
 refine wpAnyH_take (i := 7) (v := ?vp7) rfl (by kernel_rfl) (by kernel_rfl) (by kernel_rfl) (fun _ _ _ h => h) (Or.inl ⟨by rfl, ?hyp7⟩) (by assumption) ?_
 case hyp7 =>
   intro w hSw
   (try dsimp only at hSw)
   go_simp
   try with_reducible rfl
 try simp only [Act.put, lz0, lz1, lz2, lz3, lz4, lz5]
 refine wpAnyH_take (i := 8) (v := ?vp8) rfl (by kernel_rfl) (by kernel_rfl) (by kernel_rfl) (fun _ _ _ h => h) (Or.inl ⟨by rfl, ?hyp8⟩) (by assumption) ?_
 case hyp8 =>
   intro w hSw
   (try dsimp only at hSw)
   go_simp
   try with_reducible rfl
 try simp only [Act.put, lz0, lz1, lz2, lz3, lz4, lz5]
 refine wpAnyH_take (i := 9) (v := ?vp9) rfl (by kernel_rfl) (by kernel_rfl) (by kernel_rfl) (fun _ _ _ h => h) (Or.inl ⟨by rfl, ?hyp9⟩) (by assumption) ?_
 case hyp9 =>
   intro w hSw
   (try dsimp only at hSw)
   go_simp
   try with_reducible rfl
 try simp only [Act.put, lz0, lz1, lz2, lz3, lz4, lz5]
 refine wpAnyH_ready (rs := [4]) (by kernel_rfl) (by simp) ?_
 refine AllReadyH.cons rfl (fun K hK => ?_) AllReadyH.nil
 go_simp
 refine hK.out _ _ ?_ (fun hHeld => ?_)
 · exact hHeld
 clear hK K
 try simp only [Act.put, lz0, lz1, lz2, lz3, lz4, lz5]
 refine wpAnyH_ready (rs := [10]) (by kernel_rfl) (by simp) ?_
 refine AllReadyH.cons rfl (fun K hK => ?_) AllReadyH.nil
 go_simp
 refine (p_sized D n (by omega) _).mono ?_
 rintro e w4 ⟨G, rfl, h4⟩
 have HK4 : Hid (Kept [] w1 w4) := (Kept.refl _ _).drew.trans h4.kept (by simp)
 have z4 := HK4.out.cell HC.out (by simp)
 have hcv := h4.conv n (sizedL_length _ _) n
 have q4 := HK4.out.cell q3 (by simp)
 have f4 : w4.frozen? ⟨b1, k * 4 + 3, none⟩ = false := HFz.out w4 HK4.out
 clear h4
 go_wp2_with fail
 refine hK.out _ _ ?_ (fun hHeld => ?_)
 · exact z4
 clear hK K
 try simp only [Act.put, lz0, lz1, lz2, lz3, lz4, lz5]
 refine wpAnyH_ready (rs := [11]) (by kernel_rfl) (by simp) ?_
 refine AllReadyH.cons rfl (fun K hK => ?_) AllReadyH.nil
 go_simp
 refine hK.out _ _ ?_ (fun hHeld => ?_)
 · exact hHeld
 clear hK K
 try simp only [Act.put, lz0, lz1, lz2, lz3, lz4, lz5]
 refine wpAnyH_take (i := 12) (v := ?vp12) rfl (by kernel_rfl) (by kernel_rfl) (by kernel_rfl) (fun _ _ _ h => h) (Or.inl ⟨by rfl, ?hyp12⟩) (by assumption) ?_
 case hyp12 =>
   intro w hSw
   (try dsimp only at hSw)
   go_simp
   try with_reducible rfl
 try simp only [Act.put, lz0, lz1, lz2, lz3, lz4, lz5]
 refine wpAnyH_take (i := 13) (v := ?vp13) rfl (by kernel_rfl) (by kernel_rfl) (by kernel_rfl) (fun _ _ _ h => h) (Or.inl ⟨by rfl, ?hyp13⟩) (by assumption) ?_
 case hyp13 =>
   intro w hSw
   (try dsimp only at hSw)
   go_simp
   try with_reducible rfl
 try simp only [Act.put, lz0, lz1, lz2, lz3, lz4, lz5]
 refine wpAnyH_ready (rs := [14]) (by kernel_rfl) (by simp) ?_
 refine AllReadyH.cons rfl (fun K hK => ?_) AllReadyH.nil
 go_simp
 refine hK.out _ _ ?_ (fun hHeld => ?_)
 · exact HSt.out _ _ hHeld
 clear hK K
 try simp only [Act.put, lz0, lz1, lz2, lz3, lz4, lz5]
 refine wpAnyH_done (by kernel_rfl) ?_ _
 have HC5 : Hid (_) := (HC2.out.kept HK4.out).setDat hk HV1.out (d := strOfNums (sizedL D n)) (by rw [strOfNums_size, sizedL_length]; omega)
 have HF5 : Hid (_) := (FrB.kept (B := B) (v1 := v1) (v2 := v2) (v3 := v3) (ev := ev) (HK1.out.trans HK4.out (by simp))).trans (FrB.ino (i := k * 4 + 3) HV1.out (.string (strOfNums (sizedL D n))))
 have HRg : Hid (R ≠ b1) := fun e => (HRo.out.1 R (by simp)).1 (by rw [HV1.out, e]; rfl)
 have HB5 : Hid (_) := (block_other (v := .string (strOfNums (sizedL D n))) (i := k * 4 + 3) HRg.out).trans ((HK4.out.block _ (lt_of_heap HB1.out) (by simp)).trans HB1.out)
 obtain ⟨W5, hW5⟩ : ∃ W5, w4.setCell ⟨b1, k * 4 + 3, none⟩ (.string (strOfNums (sizedL D n))) = W5 := ⟨_, rfl⟩
 rw [hW5] at HC5 HF5 HB5 ⊢
 clear hW5 z4 hcv q4 f4 q3 q3d hHeld HC2 HB1 HR2
 have g0 : W5.cell? ⟨R, 0, none⟩ = some (.int .i64 0) := cellB HB5.out
 have z0 := frozen_of HB5.out 0
 have g1 : W5.cell? ⟨R, 1, none⟩ = some (.int .i64 0) := cellB HB5.out
 have z1 := frozen_of HB5.out 1
 have g2 : W5.cell? ⟨R, 2, none⟩ = some (.int .i64 0) := cellB HB5.out
 have z2 := frozen_of HB5.out 2
 have g3 : W5.cell? ⟨R, 3, none⟩ = some (.bool false) := cellB HB5.out
 have z3 := frozen_of HB5.out 3
 have g4 : W5.cell? ⟨R, 4, none⟩ = some (.string ⟨#[]⟩) := cellB HB5.out
 have z4 := frozen_of HB5.out 4
 have g5 : W5.cell? ⟨R, 5, none⟩ = some (.slice none 0 0) := cellB HB5.out
 have z5 := frozen_of HB5.out 5
 go_wp2_with fail
 (try simp only [Exit.inBlock, Exit.then])
 refine bodyPost_ret (results_cell_row rfl _ _ R 32 #[.int .i64 0, .int .i64 0, .int .i64 0, .bool false, .string ⟨#[]⟩, .slice none 0 0] (0, 0) _ rfl (block_res HB5.out _ _ _ _ _ _) Tryz.underlying32 rfl (by kernel_rfl)) rfl ?_
 exact Out.val (by rw [HDe.out]) rfl rfl (HC5.out.res HRl.out HRo.out.1 HRo.out.2 _ _ _ _ _ _) (FrB.res HF5.out HRw.out _ _ _ _ _ _)
end Go.Proofs.YtmeafancgmkfkaaGreatDoor
