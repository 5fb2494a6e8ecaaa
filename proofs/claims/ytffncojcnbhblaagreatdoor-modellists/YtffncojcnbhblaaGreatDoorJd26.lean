/-
  Joined of my texts Do Ce.
-/
import Derived.Test.YtffncojcnbhblaaGreatDoorJd25
import Derived.Test.YtffncojcnbhblaaGreatDoorTk
set_option linter.unusedVariables false
set_option linter.unusedSimpArgs false
set_option maxRecDepth 100000
set_option maxHeartbeats 8000000
namespace Go.Proofs.YtffncojcnbhblaaGreatDoor
open Go.RowKit
theorem do_create {w0 w : World} {B : Nat} {c : Cal} {pk v1 v2 v3 : Value} {ev : List Value} {S : Sta} (h : Cb w0 w B c pk v1 v2 v3 ev S) (hk : c.kind = 0) {r : Except Int (Sta × Ans)}
  (hdo : ∀ W, Cb w0 W B c pk v1 v2 v3 ev S → Calls Tryz.prog 103 #[.pointer (some ⟨B, 0, none⟩), .bool false] W (Out w0 W B c pk v1 v2 v3 ev S r)) :
  Calls Tryz.prog 68 #[.pointer (some ⟨B, 0, none⟩)] w (Out w0 w B c pk v1 v2 v3 ev S r) := by
 obtain ⟨W1, R, HWR, HKR, HRb⟩ := boxR w #[.int .i64 0, .int .i64 0, .int .i64 0, .bool false, .string ⟨#[]⟩, .slice none 0 0] 31
 have HC1 : Hid (Cb w0 W1 B c pk v1 v2 v3 ev S) := h.kept HKR.out
 have HRo : Hid (Off [R] v1 v2 v3 ev ∧ R ≠ B) := h.new (Nat.le_of_eq HWR.out.2)
 have HRw : Hid (w.heap.size ≤ R) := Nat.le_of_eq HWR.out.2
 have HRl : Hid (w0.heap.size ≤ R) := by have := h.k.size; rw [← HWR.out.2]; exact this
 have d0 : W1.cell? ⟨B, 0, none⟩ = some (.int .i64 0) := by rw [← hk]; exact cellB HC1.out.box
 have HDo : Hid (_) := hdo
 clear h hk hdo
 go_enter Tryz.func68, Tryz.ntmps68
 go_upto_region 1 with fail
 rw [HWR.out.1, HWR.out.2]
 clear HWR
 go_wp2_with fail
 refine (HDo.out W1 HC1.out).mono ?_
 rintro e w6 hout
 rcases r with code | ⟨S', v⟩
 ·
  obtain ⟨rfl, u1, u2, u3, eu, hcb, hfr⟩ := hout
  exact ⟨rfl, rfl, u1, u2, u3, eu, hcb, (FrB.kept HKR.out).trans hfr⟩
 ·
  obtain ⟨x, l, k, u1, u2, u3, eu, rfl, hsr, hof, hcb, hfr⟩ := hout
  obtain ⟨a, b, n, d, t, ns⟩ := v
  have h6 := hfr.2 R (lt_of_heap HRb.out) HRo.out.2 HRo.out.1
  have hb6 : w6.heap[R]? = _ := h6.1.trans HRb.out
  have HE : Hid (Out w0 w B c pk v1 v2 v3 ev S (.ok (S', ⟨a, b, n, d, t, ns⟩)) (.returned (.agg #[.int .i64 a, .int .i64 b, .int .i64 n, .bool d, .string t, .slice x l k])) (laidR w6 R (.int .i64 a) (.int .i64 b) (.int .i64 n) (.bool d) (.string t) (.slice x l k))) := Oks.laid HKR.out HRl.out HRw.out (lt_of_heap HRb.out) HRo.out hsr hof hcb hfr _ _ _ _ _ _
  have HB6 : Hid (_) := hb6
  obtain ⟨g0, g1, g2, g3, g4, g5⟩ := cz6 hb6
  obtain ⟨z0, z1, z2, z3, z4, z5⟩ := fz6 hb6
  clear hcb hfr h6 HC1 HRb hb6 d0 hsr hof
  dsimp only [ansV]
  go_wp2_with fail
  (try simp only [Exit.inBlock, Exit.then])
  refine bodyPost_ret (results_cell_row rfl _ _ R 31 #[.int .i64 a, .int .i64 b, .int .i64 n, .bool d, .string t, .slice x l k] (0, 0) _ rfl (block_res HB6.out _ _ _ _ _ _) Tryz.underlying31 rfl (by kernel_rfl)) rfl ?_
  exact HE.out
theorem do_open {w0 w : World} {B : Nat} {c : Cal} {pk v1 v2 v3 : Value} {ev : List Value} {S : Sta} (h : Cb w0 w B c pk v1 v2 v3 ev S) (hk : c.kind = 2) {r : Except Int (Sta × Ans)}
  (hdo : ∀ W, Cb w0 W B c pk v1 v2 v3 ev S → Calls Tryz.prog 104 #[.pointer (some ⟨B, 0, none⟩)] W (Out w0 W B c pk v1 v2 v3 ev S r)) :
  Calls Tryz.prog 68 #[.pointer (some ⟨B, 0, none⟩)] w (Out w0 w B c pk v1 v2 v3 ev S r) := by
 obtain ⟨W1, R, HWR, HKR, HRb⟩ := boxR w #[.int .i64 0, .int .i64 0, .int .i64 0, .bool false, .string ⟨#[]⟩, .slice none 0 0] 31
 have HC1 : Hid (Cb w0 W1 B c pk v1 v2 v3 ev S) := h.kept HKR.out
 have HRo : Hid (Off [R] v1 v2 v3 ev ∧ R ≠ B) := h.new (Nat.le_of_eq HWR.out.2)
 have HRw : Hid (w.heap.size ≤ R) := Nat.le_of_eq HWR.out.2
 have HRl : Hid (w0.heap.size ≤ R) := by have := h.k.size; rw [← HWR.out.2]; exact this
 have d0 : W1.cell? ⟨B, 0, none⟩ = some (.int .i64 2) := by rw [← hk]; exact cellB HC1.out.box
 have HDo : Hid (_) := hdo
 clear h hk hdo
 go_enter Tryz.func68, Tryz.ntmps68
 go_upto_region 1 with fail
 rw [HWR.out.1, HWR.out.2]
 clear HWR
 go_wp2_with fail
 refine (HDo.out W1 HC1.out).mono ?_
 rintro e w6 hout
 rcases r with code | ⟨S', v⟩
 ·
  obtain ⟨rfl, u1, u2, u3, eu, hcb, hfr⟩ := hout
  exact ⟨rfl, rfl, u1, u2, u3, eu, hcb, (FrB.kept HKR.out).trans hfr⟩
 ·
  obtain ⟨x, l, k, u1, u2, u3, eu, rfl, hsr, hof, hcb, hfr⟩ := hout
  obtain ⟨a, b, n, d, t, ns⟩ := v
  have h6 := hfr.2 R (lt_of_heap HRb.out) HRo.out.2 HRo.out.1
  have hb6 : w6.heap[R]? = _ := h6.1.trans HRb.out
  have HE : Hid (Out w0 w B c pk v1 v2 v3 ev S (.ok (S', ⟨a, b, n, d, t, ns⟩)) (.returned (.agg #[.int .i64 a, .int .i64 b, .int .i64 n, .bool d, .string t, .slice x l k])) (laidR w6 R (.int .i64 a) (.int .i64 b) (.int .i64 n) (.bool d) (.string t) (.slice x l k))) := Oks.laid HKR.out HRl.out HRw.out (lt_of_heap HRb.out) HRo.out hsr hof hcb hfr _ _ _ _ _ _
  have HB6 : Hid (_) := hb6
  obtain ⟨g0, g1, g2, g3, g4, g5⟩ := cz6 hb6
  obtain ⟨z0, z1, z2, z3, z4, z5⟩ := fz6 hb6
  clear hcb hfr h6 HC1 HRb hb6 d0 hsr hof
  dsimp only [ansV]
  go_wp2_with fail
  (try simp only [Exit.inBlock, Exit.then])
  refine bodyPost_ret (results_cell_row rfl _ _ R 31 #[.int .i64 a, .int .i64 b, .int .i64 n, .bool d, .string t, .slice x l k] (0, 0) _ rfl (block_res HB6.out _ _ _ _ _ _) Tryz.underlying31 rfl (by kernel_rfl)) rfl ?_
  exact HE.out
theorem do_write {w0 w : World} {B : Nat} {c : Cal} {pk v1 v2 v3 : Value} {ev : List Value} {S : Sta} (h : Cb w0 w B c pk v1 v2 v3 ev S) (hk : c.kind = 5) {r : Except Int (Sta × Ans)}
  (hdo : ∀ W, Cb w0 W B c pk v1 v2 v3 ev S → Calls Tryz.prog 107 #[.pointer (some ⟨B, 0, none⟩)] W (Out w0 W B c pk v1 v2 v3 ev S r)) :
  Calls Tryz.prog 68 #[.pointer (some ⟨B, 0, none⟩)] w (Out w0 w B c pk v1 v2 v3 ev S r) := by
 obtain ⟨W1, R, HWR, HKR, HRb⟩ := boxR w #[.int .i64 0, .int .i64 0, .int .i64 0, .bool false, .string ⟨#[]⟩, .slice none 0 0] 31
 have HC1 : Hid (Cb w0 W1 B c pk v1 v2 v3 ev S) := h.kept HKR.out
 have HRo : Hid (Off [R] v1 v2 v3 ev ∧ R ≠ B) := h.new (Nat.le_of_eq HWR.out.2)
 have HRw : Hid (w.heap.size ≤ R) := Nat.le_of_eq HWR.out.2
 have HRl : Hid (w0.heap.size ≤ R) := by have := h.k.size; rw [← HWR.out.2]; exact this
 have d0 : W1.cell? ⟨B, 0, none⟩ = some (.int .i64 5) := by rw [← hk]; exact cellB HC1.out.box
 have HDo : Hid (_) := hdo
 clear h hk hdo
 go_enter Tryz.func68, Tryz.ntmps68
 go_upto_region 1 with fail
 rw [HWR.out.1, HWR.out.2]
 clear HWR
 go_wp2_with fail
 refine (HDo.out W1 HC1.out).mono ?_
 rintro e w6 hout
 rcases r with code | ⟨S', v⟩
 ·
  obtain ⟨rfl, u1, u2, u3, eu, hcb, hfr⟩ := hout
  exact ⟨rfl, rfl, u1, u2, u3, eu, hcb, (FrB.kept HKR.out).trans hfr⟩
 ·
  obtain ⟨x, l, k, u1, u2, u3, eu, rfl, hsr, hof, hcb, hfr⟩ := hout
  obtain ⟨a, b, n, d, t, ns⟩ := v
  have h6 := hfr.2 R (lt_of_heap HRb.out) HRo.out.2 HRo.out.1
  have hb6 : w6.heap[R]? = _ := h6.1.trans HRb.out
  have HE : Hid (Out w0 w B c pk v1 v2 v3 ev S (.ok (S', ⟨a, b, n, d, t, ns⟩)) (.returned (.agg #[.int .i64 a, .int .i64 b, .int .i64 n, .bool d, .string t, .slice x l k])) (laidR w6 R (.int .i64 a) (.int .i64 b) (.int .i64 n) (.bool d) (.string t) (.slice x l k))) := Oks.laid HKR.out HRl.out HRw.out (lt_of_heap HRb.out) HRo.out hsr hof hcb hfr _ _ _ _ _ _
  have HB6 : Hid (_) := hb6
  obtain ⟨g0, g1, g2, g3, g4, g5⟩ := cz6 hb6
  obtain ⟨z0, z1, z2, z3, z4, z5⟩ := fz6 hb6
  clear hcb hfr h6 HC1 HRb hb6 d0 hsr hof
  dsimp only [ansV]
  go_wp2_with fail
  (try simp only [Exit.inBlock, Exit.then])
  refine bodyPost_ret (results_cell_row rfl _ _ R 31 #[.int .i64 a, .int .i64 b, .int .i64 n, .bool d, .string t, .slice x l k] (0, 0) _ rfl (block_res HB6.out _ _ _ _ _ _) Tryz.underlying31 rfl (by kernel_rfl)) rfl ?_
  exact HE.out
theorem do_list {w0 w : World} {B : Nat} {c : Cal} {pk v1 v2 v3 : Value} {ev : List Value} {S : Sta} (h : Cb w0 w B c pk v1 v2 v3 ev S) (hk : c.kind = 12) {r : Except Int (Sta × Ans)}
  (hdo : ∀ W, Cb w0 W B c pk v1 v2 v3 ev S → Calls Tryz.prog 114 #[.pointer (some ⟨B, 0, none⟩)] W (Out w0 W B c pk v1 v2 v3 ev S r)) :
  Calls Tryz.prog 68 #[.pointer (some ⟨B, 0, none⟩)] w (Out w0 w B c pk v1 v2 v3 ev S r) := by
 obtain ⟨W1, R, HWR, HKR, HRb⟩ := boxR w #[.int .i64 0, .int .i64 0, .int .i64 0, .bool false, .string ⟨#[]⟩, .slice none 0 0] 31
 have HC1 : Hid (Cb w0 W1 B c pk v1 v2 v3 ev S) := h.kept HKR.out
 have HRo : Hid (Off [R] v1 v2 v3 ev ∧ R ≠ B) := h.new (Nat.le_of_eq HWR.out.2)
 have HRw : Hid (w.heap.size ≤ R) := Nat.le_of_eq HWR.out.2
 have HRl : Hid (w0.heap.size ≤ R) := by have := h.k.size; rw [← HWR.out.2]; exact this
 have d0 : W1.cell? ⟨B, 0, none⟩ = some (.int .i64 12) := by rw [← hk]; exact cellB HC1.out.box
 have HDo : Hid (_) := hdo
 clear h hk hdo
 go_enter Tryz.func68, Tryz.ntmps68
 go_upto_region 1 with fail
 rw [HWR.out.1, HWR.out.2]
 clear HWR
 go_wp2_with fail
 refine (HDo.out W1 HC1.out).mono ?_
 rintro e w6 hout
 rcases r with code | ⟨S', v⟩
 ·
  obtain ⟨rfl, u1, u2, u3, eu, hcb, hfr⟩ := hout
  exact ⟨rfl, rfl, u1, u2, u3, eu, hcb, (FrB.kept HKR.out).trans hfr⟩
 ·
  obtain ⟨x, l, k, u1, u2, u3, eu, rfl, hsr, hof, hcb, hfr⟩ := hout
  obtain ⟨a, b, n, d, t, ns⟩ := v
  have h6 := hfr.2 R (lt_of_heap HRb.out) HRo.out.2 HRo.out.1
  have hb6 : w6.heap[R]? = _ := h6.1.trans HRb.out
  have HE : Hid (Out w0 w B c pk v1 v2 v3 ev S (.ok (S', ⟨a, b, n, d, t, ns⟩)) (.returned (.agg #[.int .i64 a, .int .i64 b, .int .i64 n, .bool d, .string t, .slice x l k])) (laidR w6 R (.int .i64 a) (.int .i64 b) (.int .i64 n) (.bool d) (.string t) (.slice x l k))) := Oks.laid HKR.out HRl.out HRw.out (lt_of_heap HRb.out) HRo.out hsr hof hcb hfr _ _ _ _ _ _
  have HB6 : Hid (_) := hb6
  obtain ⟨g0, g1, g2, g3, g4, g5⟩ := cz6 hb6
  obtain ⟨z0, z1, z2, z3, z4, z5⟩ := fz6 hb6
  clear hcb hfr h6 HC1 HRb hb6 d0 hsr hof
  dsimp only [ansV]
  go_wp2_with fail
  (try simp only [Exit.inBlock, Exit.then])
  refine bodyPost_ret (results_cell_row rfl _ _ R 31 #[.int .i64 a, .int .i64 b, .int .i64 n, .bool d, .string t, .slice x l k] (0, 0) _ rfl (block_res HB6.out _ _ _ _ _ _) Tryz.underlying31 rfl (by kernel_rfl)) rfl ?_
  exact HE.out
theorem do_stat {w0 w : World} {B : Nat} {c : Cal} {pk v1 v2 v3 : Value} {ev : List Value} {S : Sta} (h : Cb w0 w B c pk v1 v2 v3 ev S) (hk : c.kind = 13) {r : Except Int (Sta × Ans)}
  (hdo : ∀ W, Cb w0 W B c pk v1 v2 v3 ev S → Calls Tryz.prog 115 #[.pointer (some ⟨B, 0, none⟩)] W (Out w0 W B c pk v1 v2 v3 ev S r)) :
  Calls Tryz.prog 68 #[.pointer (some ⟨B, 0, none⟩)] w (Out w0 w B c pk v1 v2 v3 ev S r) := by
 obtain ⟨W1, R, HWR, HKR, HRb⟩ := boxR w #[.int .i64 0, .int .i64 0, .int .i64 0, .bool false, .string ⟨#[]⟩, .slice none 0 0] 31
 have HC1 : Hid (Cb w0 W1 B c pk v1 v2 v3 ev S) := h.kept HKR.out
 have HRo : Hid (Off [R] v1 v2 v3 ev ∧ R ≠ B) := h.new (Nat.le_of_eq HWR.out.2)
 have HRw : Hid (w.heap.size ≤ R) := Nat.le_of_eq HWR.out.2
 have HRl : Hid (w0.heap.size ≤ R) := by have := h.k.size; rw [← HWR.out.2]; exact this
 have d0 : W1.cell? ⟨B, 0, none⟩ = some (.int .i64 13) := by rw [← hk]; exact cellB HC1.out.box
 have HDo : Hid (_) := hdo
 clear h hk hdo
 go_enter Tryz.func68, Tryz.ntmps68
 go_upto_region 1 with fail
 rw [HWR.out.1, HWR.out.2]
 clear HWR
 go_wp2_with fail
 refine (HDo.out W1 HC1.out).mono ?_
 rintro e w6 hout
 rcases r with code | ⟨S', v⟩
 ·
  obtain ⟨rfl, u1, u2, u3, eu, hcb, hfr⟩ := hout
  exact ⟨rfl, rfl, u1, u2, u3, eu, hcb, (FrB.kept HKR.out).trans hfr⟩
 ·
  obtain ⟨x, l, k, u1, u2, u3, eu, rfl, hsr, hof, hcb, hfr⟩ := hout
  obtain ⟨a, b, n, d, t, ns⟩ := v
  have h6 := hfr.2 R (lt_of_heap HRb.out) HRo.out.2 HRo.out.1
  have hb6 : w6.heap[R]? = _ := h6.1.trans HRb.out
  have HE : Hid (Out w0 w B c pk v1 v2 v3 ev S (.ok (S', ⟨a, b, n, d, t, ns⟩)) (.returned (.agg #[.int .i64 a, .int .i64 b, .int .i64 n, .bool d, .string t, .slice x l k])) (laidR w6 R (.int .i64 a) (.int .i64 b) (.int .i64 n) (.bool d) (.string t) (.slice x l k))) := Oks.laid HKR.out HRl.out HRw.out (lt_of_heap HRb.out) HRo.out hsr hof hcb hfr _ _ _ _ _ _
  have HB6 : Hid (_) := hb6
  obtain ⟨g0, g1, g2, g3, g4, g5⟩ := cz6 hb6
  obtain ⟨z0, z1, z2, z3, z4, z5⟩ := fz6 hb6
  clear hcb hfr h6 HC1 HRb hb6 d0 hsr hof
  dsimp only [ansV]
  go_wp2_with fail
  (try simp only [Exit.inBlock, Exit.then])
  refine bodyPost_ret (results_cell_row rfl _ _ R 31 #[.int .i64 a, .int .i64 b, .int .i64 n, .bool d, .string t, .slice x l k] (0, 0) _ rfl (block_res HB6.out _ _ _ _ _ _) Tryz.underlying31 rfl (by kernel_rfl)) rfl ?_
  exact HE.out
end Go.Proofs.YtffncojcnbhblaaGreatDoor
