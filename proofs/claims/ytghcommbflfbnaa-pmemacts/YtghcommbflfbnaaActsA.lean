/-
  PmemActs, where it ends at once.
-/
import Derived.Test.YtghcommbflfbnaaPair
import Derived.Test.YtghcommbflfbnaaAwake
namespace Go.Proofs.Ytghcommbflfbnaa
open Go.RowKit
theorem One.more {w0 w : World} {b c n : Nat} {t s : Int} (h : One w0 w b c n t) (hs : t ≤ s) : One w0 w b c n s := by
  obtain ⟨hK, p, q, M, R, hb, hc, h1, h2, h3⟩ := h
  exact ⟨hK, p, q, M, R, hb, hc, h1, h2, h3.more hs⟩

theorem Two.more {w0 w : World} {b c o d n : Nat} {t s : Int} (h : Two w0 w b c o d n t) (hs : t ≤ s) : Two w0 w b c o d n s := by
  obtain ⟨hK, p, q, M, R, p2, q2, M2, R2, hb, h1, h2, h3, h4, h5, h6⟩ := h
  exact ⟨hK, p, q, M, R, p2, q2, M2, R2, hb, h1, h2, h3, h4, h5.more hs, h6.more hs⟩

set_option maxRecDepth 100000 in
set_option maxHeartbeats 4000000 in
theorem acts_none (n : Int) (sv : Value) (w : World) (hn : n < 8 ∨ 65536 < n ∨ n % 8 ≠ 0) :
    Calls Try.prog 3 #[.int .i64 n, sv] w fun e w' => e = .returned (.bool true) ∧ Kept [] w w' := by
  go_enter Try.func3, Try.ntmps3
  go_wp2_with fail
  refine (u_new_no w n hn).mono ?_
  rintro e w' ⟨rfl, rfl⟩
  go_wp2_with fail
  refine (rnew_no w n hn).mono ?_
  rintro e w' ⟨rfl, rfl⟩
  go_wp2_with (first
    | (go_at_call 11; refine (u_num _ _).mono ?_; rintro e w' ⟨rfl, rfl⟩)
    | (go_at_call 12; refine (awake_any w).mono ?_; rintro e w1 ⟨rfl, hK⟩))
  go_ret
  exact ⟨rfl, hK⟩

set_option maxRecDepth 100000 in
set_option maxHeartbeats 4000000 in
theorem acts_great (n : Nat) (sv : Value) (w : World) (h0 : 800 < n) (h1 : n ≤ 65536) (h8 : n % 8 = 0) :
    Calls Try.prog 3 #[.int .i64 (n : Int), sv] w fun e w' => e = .returned (.bool true) ∧ Kept [] w w' := by
  have H8 : Hid (n % 8 = 0) := h8
  clear h8
  have d1 : decide (800 < (n : Int)) = true := by simp; omega
  go_enter Try.func3, Try.ntmps3
  go_wp2_with fail
  refine (new_yes w n (by omega) h1 H8.out).mono ?_
  rintro e w1 ⟨p, rfl, hK1, hf1, hm1⟩
  clear hf1 hm1
  go_wp2_with fail
  refine (rnew_yes w1 n (by omega) h1 H8.out).mono ?_
  rintro e w2 ⟨q, rfl, hK2, hf2, hr2⟩
  have hK3 := hK1.trans hK2 (by simp)
  clear hf2 hr2
  go_wp2_with (first
    | (go_at_call 12; refine (awake_any _).mono ?_; rintro e w3 ⟨rfl, hK⟩))
  go_ret
  exact ⟨rfl, hK3.trans hK (by simp)⟩
end Go.Proofs.Ytghcommbflfbnaa
