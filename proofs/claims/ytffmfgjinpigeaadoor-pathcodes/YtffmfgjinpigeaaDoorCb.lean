/-
  PathCodes, case by case.
-/
import Derived.Test.YtffmfgjinpigeaaDoorCc
import Derived.Deep.Draws
import Derived.BigQuiet
namespace Go.Proofs.YtffmfgjinpigeaaDoor
open Go.RowKit
set_option linter.unusedVariables false

theorem bad3 : parseR ⟨#[47, 46]⟩ = ([], 1100) := by rw [parse_eq]; decide +kernel

set_option maxRecDepth 100000 in
set_option maxHeartbeats 8000000 in
theorem case3 (which : Int) (w : World) (hT : Tab w) (h6 : wrap64 ((IntKind.u64.wrap which).tmod 6) = 3) :
    Calls Tryd.prog 7 #[.int .i64 which] w fun e w' => e = .returned (.bool true) ∧ Below w.heap.size w w' := by
  have HT : Hid (Tab w) := hT
  clear hT
  go_enter Tryd.func7, Tryd.ntmps7
  go_wp2_with fail
  refine (awake_any w HT.out).mono ?_
  rintro e w1 ⟨rfl, hk⟩
  have hk2 : Kept [] w ((w1.alloc (.cells #[.string ⟨#[]⟩, .string ⟨#[120]⟩, .string ⟨#[47, 97, 47]⟩, .string ⟨#[47, 46]⟩, .string ⟨#[47, 97, 98, 99, 100, 101, 102, 103, 104, 105, 106, 107, 108, 109, 110]⟩, .string ⟨#[47, 97, 47, 98, 47, 99, 47, 100, 47, 101]⟩] 9)).alloc (.cells #[.int .i64 9, .int .i64 9, .int .i64 9, .int .i64 9, .int .i64 6, .int .i64 6] 3)) := (hk.alloc _).alloc _
  have hcw : ((w1.alloc (.cells #[.string ⟨#[]⟩, .string ⟨#[120]⟩, .string ⟨#[47, 97, 47]⟩, .string ⟨#[47, 46]⟩, .string ⟨#[47, 97, 98, 99, 100, 101, 102, 103, 104, 105, 106, 107, 108, 109, 110]⟩, .string ⟨#[47, 97, 47, 98, 47, 99, 47, 100, 47, 101]⟩] 9)).alloc (.cells #[.int .i64 9, .int .i64 9, .int .i64 9, .int .i64 9, .int .i64 6, .int .i64 6] 3)).cell? ⟨w1.heap.size + 1, 3, none⟩ = some (.int .i64 9) := by
    have := heap_alloc_new (w1.alloc (.cells #[.string ⟨#[]⟩, .string ⟨#[120]⟩, .string ⟨#[47, 97, 47]⟩, .string ⟨#[47, 46]⟩, .string ⟨#[47, 97, 98, 99, 100, 101, 102, 103, 104, 105, 106, 107, 108, 109, 110]⟩, .string ⟨#[47, 97, 47, 98, 47, 99, 47, 100, 47, 101]⟩] 9)) (.cells #[.int .i64 9, .int .i64 9, .int .i64 9, .int .i64 9, .int .i64 6, .int .i64 6] 3)
    rw [show (w1.alloc (.cells #[.string ⟨#[]⟩, .string ⟨#[120]⟩, .string ⟨#[47, 97, 47]⟩, .string ⟨#[47, 46]⟩, .string ⟨#[47, 97, 98, 99, 100, 101, 102, 103, 104, 105, 106, 107, 108, 109, 110]⟩, .string ⟨#[47, 97, 47, 98, 47, 99, 47, 100, 47, 101]⟩] 9)).heap.size = w1.heap.size + 1 by simp] at this
    rw [cell_of_row _ _ _ _ _ _ this]
    rfl
  have H1 : Hid (_ ∧ _ ∧ _) := ⟨hk2, HT.out.kept hk2, hcw⟩
  clear hk hk2 hcw
  go_wp2_with fail
  refine (p_parse _ _ H1.out.2.1).mono ?_
  rintro e w2 ⟨v, he, hS, hk⟩
  rw [bad3] at he
  subst he
  have H2 : Hid (_ ∧ _ ∧ _) := ⟨H1.out.1.trans hk (by simp), H1.out.2.1.kept hk, hk.cell H1.out.2.2 (by simp)⟩
  clear hk H1 hS
  go_wp2_with fail
  refine (p_parse _ w2 H2.out.2.1).mono ?_
  rintro e w3 ⟨v3, he, hS, hk⟩
  rw [v_pab] at he
  subst he
  have hcw : w3.cell? ⟨w1.heap.size + 1, 3, none⟩ = some (.int .i64 9) := hk.cell H2.out.2.2 (by simp)
  have H3 : Hid (Kept [] w w3) := H2.out.1.trans hk (by simp)
  clear hk H2 hS
  go_wp2_with fail
  go_quiet (first | (go_at_call 12; exact Calls.quiet_of_same (num_of _ _)) | (go_at_call 13; first | exact Calls.quiet_of_same (code1100 _) | exact Calls.quiet_of_same (code0 _)))
  go_wp2_with fail
  go_ret
  exact ⟨rfl, (H3.out.drewN _).below (Nat.le_refl _) (by simp)⟩

theorem bad4 : parseR ⟨#[47, 97, 98, 99, 100, 101, 102, 103, 104, 105, 106, 107, 108, 109, 110]⟩ = ([], 1101) := by rw [parse_eq]; decide +kernel

set_option maxRecDepth 100000 in
set_option maxHeartbeats 8000000 in
theorem case4 (which : Int) (w : World) (hT : Tab w) (h6 : wrap64 ((IntKind.u64.wrap which).tmod 6) = 4) :
    Calls Tryd.prog 7 #[.int .i64 which] w fun e w' => e = .returned (.bool true) ∧ Below w.heap.size w w' := by
  have HT : Hid (Tab w) := hT
  clear hT
  go_enter Tryd.func7, Tryd.ntmps7
  go_wp2_with fail
  refine (awake_any w HT.out).mono ?_
  rintro e w1 ⟨rfl, hk⟩
  have hk2 : Kept [] w ((w1.alloc (.cells #[.string ⟨#[]⟩, .string ⟨#[120]⟩, .string ⟨#[47, 97, 47]⟩, .string ⟨#[47, 46]⟩, .string ⟨#[47, 97, 98, 99, 100, 101, 102, 103, 104, 105, 106, 107, 108, 109, 110]⟩, .string ⟨#[47, 97, 47, 98, 47, 99, 47, 100, 47, 101]⟩] 9)).alloc (.cells #[.int .i64 9, .int .i64 9, .int .i64 9, .int .i64 9, .int .i64 6, .int .i64 6] 3)) := (hk.alloc _).alloc _
  have hcw : ((w1.alloc (.cells #[.string ⟨#[]⟩, .string ⟨#[120]⟩, .string ⟨#[47, 97, 47]⟩, .string ⟨#[47, 46]⟩, .string ⟨#[47, 97, 98, 99, 100, 101, 102, 103, 104, 105, 106, 107, 108, 109, 110]⟩, .string ⟨#[47, 97, 47, 98, 47, 99, 47, 100, 47, 101]⟩] 9)).alloc (.cells #[.int .i64 9, .int .i64 9, .int .i64 9, .int .i64 9, .int .i64 6, .int .i64 6] 3)).cell? ⟨w1.heap.size + 1, 4, none⟩ = some (.int .i64 6) := by
    have := heap_alloc_new (w1.alloc (.cells #[.string ⟨#[]⟩, .string ⟨#[120]⟩, .string ⟨#[47, 97, 47]⟩, .string ⟨#[47, 46]⟩, .string ⟨#[47, 97, 98, 99, 100, 101, 102, 103, 104, 105, 106, 107, 108, 109, 110]⟩, .string ⟨#[47, 97, 47, 98, 47, 99, 47, 100, 47, 101]⟩] 9)) (.cells #[.int .i64 9, .int .i64 9, .int .i64 9, .int .i64 9, .int .i64 6, .int .i64 6] 3)
    rw [show (w1.alloc (.cells #[.string ⟨#[]⟩, .string ⟨#[120]⟩, .string ⟨#[47, 97, 47]⟩, .string ⟨#[47, 46]⟩, .string ⟨#[47, 97, 98, 99, 100, 101, 102, 103, 104, 105, 106, 107, 108, 109, 110]⟩, .string ⟨#[47, 97, 47, 98, 47, 99, 47, 100, 47, 101]⟩] 9)).heap.size = w1.heap.size + 1 by simp] at this
    rw [cell_of_row _ _ _ _ _ _ this]
    rfl
  have H1 : Hid (_ ∧ _ ∧ _) := ⟨hk2, HT.out.kept hk2, hcw⟩
  clear hk hk2 hcw
  go_wp2_with fail
  refine (p_parse _ _ H1.out.2.1).mono ?_
  rintro e w2 ⟨v, he, hS, hk⟩
  rw [bad4] at he
  subst he
  have H2 : Hid (_ ∧ _ ∧ _) := ⟨H1.out.1.trans hk (by simp), H1.out.2.1.kept hk, hk.cell H1.out.2.2 (by simp)⟩
  clear hk H1 hS
  go_wp2_with fail
  refine (p_parse _ w2 H2.out.2.1).mono ?_
  rintro e w3 ⟨v3, he, hS, hk⟩
  rw [v_pab] at he
  subst he
  have hcw : w3.cell? ⟨w1.heap.size + 1, 4, none⟩ = some (.int .i64 6) := hk.cell H2.out.2.2 (by simp)
  have H3 : Hid (Kept [] w w3) := H2.out.1.trans hk (by simp)
  clear hk H2 hS
  go_wp2_with fail
  go_quiet (first | (go_at_call 12; exact Calls.quiet_of_same (num_of _ _)) | (go_at_call 13; first | exact Calls.quiet_of_same (code1101 _) | exact Calls.quiet_of_same (code0 _)))
  go_wp2_with fail
  go_ret
  exact ⟨rfl, (H3.out.drewN _).below (Nat.le_refl _) (by simp)⟩

theorem bad5 : parseR ⟨#[47, 97, 47, 98, 47, 99, 47, 100, 47, 101]⟩ = ([], 1102) := by rw [parse_eq]; decide +kernel

set_option maxRecDepth 100000 in
set_option maxHeartbeats 8000000 in
theorem case5 (which : Int) (w : World) (hT : Tab w) (h6 : wrap64 ((IntKind.u64.wrap which).tmod 6) = 5) :
    Calls Tryd.prog 7 #[.int .i64 which] w fun e w' => e = .returned (.bool true) ∧ Below w.heap.size w w' := by
  have HT : Hid (Tab w) := hT
  clear hT
  go_enter Tryd.func7, Tryd.ntmps7
  go_wp2_with fail
  refine (awake_any w HT.out).mono ?_
  rintro e w1 ⟨rfl, hk⟩
  have hk2 : Kept [] w ((w1.alloc (.cells #[.string ⟨#[]⟩, .string ⟨#[120]⟩, .string ⟨#[47, 97, 47]⟩, .string ⟨#[47, 46]⟩, .string ⟨#[47, 97, 98, 99, 100, 101, 102, 103, 104, 105, 106, 107, 108, 109, 110]⟩, .string ⟨#[47, 97, 47, 98, 47, 99, 47, 100, 47, 101]⟩] 9)).alloc (.cells #[.int .i64 9, .int .i64 9, .int .i64 9, .int .i64 9, .int .i64 6, .int .i64 6] 3)) := (hk.alloc _).alloc _
  have hcw : ((w1.alloc (.cells #[.string ⟨#[]⟩, .string ⟨#[120]⟩, .string ⟨#[47, 97, 47]⟩, .string ⟨#[47, 46]⟩, .string ⟨#[47, 97, 98, 99, 100, 101, 102, 103, 104, 105, 106, 107, 108, 109, 110]⟩, .string ⟨#[47, 97, 47, 98, 47, 99, 47, 100, 47, 101]⟩] 9)).alloc (.cells #[.int .i64 9, .int .i64 9, .int .i64 9, .int .i64 9, .int .i64 6, .int .i64 6] 3)).cell? ⟨w1.heap.size + 1, 5, none⟩ = some (.int .i64 6) := by
    have := heap_alloc_new (w1.alloc (.cells #[.string ⟨#[]⟩, .string ⟨#[120]⟩, .string ⟨#[47, 97, 47]⟩, .string ⟨#[47, 46]⟩, .string ⟨#[47, 97, 98, 99, 100, 101, 102, 103, 104, 105, 106, 107, 108, 109, 110]⟩, .string ⟨#[47, 97, 47, 98, 47, 99, 47, 100, 47, 101]⟩] 9)) (.cells #[.int .i64 9, .int .i64 9, .int .i64 9, .int .i64 9, .int .i64 6, .int .i64 6] 3)
    rw [show (w1.alloc (.cells #[.string ⟨#[]⟩, .string ⟨#[120]⟩, .string ⟨#[47, 97, 47]⟩, .string ⟨#[47, 46]⟩, .string ⟨#[47, 97, 98, 99, 100, 101, 102, 103, 104, 105, 106, 107, 108, 109, 110]⟩, .string ⟨#[47, 97, 47, 98, 47, 99, 47, 100, 47, 101]⟩] 9)).heap.size = w1.heap.size + 1 by simp] at this
    rw [cell_of_row _ _ _ _ _ _ this]
    rfl
  have H1 : Hid (_ ∧ _ ∧ _) := ⟨hk2, HT.out.kept hk2, hcw⟩
  clear hk hk2 hcw
  go_wp2_with fail
  refine (p_parse _ _ H1.out.2.1).mono ?_
  rintro e w2 ⟨v, he, hS, hk⟩
  rw [bad5] at he
  subst he
  have H2 : Hid (_ ∧ _ ∧ _) := ⟨H1.out.1.trans hk (by simp), H1.out.2.1.kept hk, hk.cell H1.out.2.2 (by simp)⟩
  clear hk H1 hS
  go_wp2_with fail
  refine (p_parse _ w2 H2.out.2.1).mono ?_
  rintro e w3 ⟨v3, he, hS, hk⟩
  rw [v_pab] at he
  subst he
  have hcw : w3.cell? ⟨w1.heap.size + 1, 5, none⟩ = some (.int .i64 6) := hk.cell H2.out.2.2 (by simp)
  have H3 : Hid (Kept [] w w3) := H2.out.1.trans hk (by simp)
  clear hk H2 hS
  go_wp2_with fail
  go_quiet (first | (go_at_call 12; exact Calls.quiet_of_same (num_of _ _)) | (go_at_call 13; first | exact Calls.quiet_of_same (code1102 _) | exact Calls.quiet_of_same (code0 _)))
  go_wp2_with fail
  go_ret
  exact ⟨rfl, (H3.out.drewN _).below (Nat.le_refl _) (by simp)⟩

end Go.Proofs.YtffmfgjinpigeaaDoor
