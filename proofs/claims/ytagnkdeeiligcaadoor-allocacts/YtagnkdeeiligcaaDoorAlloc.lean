/-
  The allocator: shareOf, New, Get, Free, Left.
-/
import Derived.Test.YtagnkdeeiligcaaDoorFree
import Derived.Laws.ResultCell
namespace Go.Proofs.YtagnkdeeiligcaaDoor
open Go.RowKit

/-- The allocator's own struct. -/
def AlIs (w : World) (x b f s : Nat) : Prop := w.heap[x]? = some (.cells #[.pointer (some ⟨b, 0, none⟩), .int .i64 (f : Int), .int .i64 (s : Int)] 59 (0, 0))

theorem AlIs.cells {w : World} {x b f s : Nat} (h : AlIs w x b f s) : w.cell? ⟨x, 0, none⟩ = some (.pointer (some ⟨b, 0, none⟩)) ∧ w.cell? ⟨x, 1, none⟩ = some (.int .i64 (f : Int)) ∧ w.cell? ⟨x, 2, none⟩ = some (.int .i64 (s : Int)) :=
  ⟨cellB h, cellB h, cellB h⟩

theorem AlIs.kept {F : List Nat} {w w' : World} {x b f s : Nat} (h : AlIs w x b f s) (k : Kept F w w') (hF : x ∉ F) : AlIs w' x b f s := by
  unfold AlIs at *
  rw [k.block x (lt_of_heap h) hF]; exact h

set_option maxHeartbeats 2000000 in
theorem shareOf_yes {w : World} {p : Ap} {A : Ar} (h : ArIs 56 w p A) {x f s : Nat} (hx : AlIs w x p.b f s) (hs : s ≤ 1000) (hf : f ≤ 90000) (c : Nat) (hc : c < A.traces.length) :
    Calls Tryd.prog 24 #[.pointer (some ⟨x, 0, none⟩), .int .i64 (c : Int)] w fun e w' => e = .returned (.tuple #[shv p.b c (f + c * s) s, .bool true]) ∧ Kept [] w w' := by
  obtain ⟨x0, x1, x2⟩ := hx.cells
  have hm := h.kept0 ((Kept.refl [] w).alloc (.cells #[.pointer none, .int .i64 0, .int .i64 0, .int .i64 0] 61))
  have hch := h.chi
  have HX : Hid (_) := hm
  have y0 := ((Kept.refl [] w).alloc (.cells #[.pointer none, .int .i64 0, .int .i64 0, .int .i64 0] 61)).cell x0 (by simp)
  have y1 := ((Kept.refl [] w).alloc (.cells #[.pointer none, .int .i64 0, .int .i64 0, .int .i64 0] 61)).cell x1 (by simp)
  have y2 := ((Kept.refl [] w).alloc (.cells #[.pointer none, .int .i64 0, .int .i64 0, .int .i64 0] 61)).cell x2 (by simp)
  have i0 : decide ((c : Int) < 0) = false := by simp
  have i1 : decide ((A.traces.length : Int) ≤ (c : Int)) = false := by simp; omega
  clear h hm hx
  go_enter Tryd.func24, Tryd.ntmps24
  go_wp2_with fail
  refine (cores_any HX.out).mono ?_
  rintro e w1 ⟨rfl, hw1⟩
  subst hw1
  go_wp2
  go_region_held3 (fun w' => w'.cell? ⟨x, 0, none⟩ = some (.pointer (some ⟨p.b, 0, none⟩)) ∧ w'.cell? ⟨x, 1, none⟩ = some (.int .i64 (f : Int)) ∧ w'.cell? ⟨x, 2, none⟩ = some (.int .i64 (s : Int))) (first | exact ⟨y0, y1, y2⟩ | go_keep) (fail)
  have hcs : c * s ≤ 8 * 1000 := Nat.mul_le_mul (by omega) hs
  have eA : IntKind.i64.wrap ((f : Int) + IntKind.i64.wrap ((c : Int) * (s : Int))) = ((f + c * s : Nat) : Int) := by
    rw [← Int.natCast_mul]
    simp only [IntKind.wrap_i64]
    omega
  rw [eA]
  clear y0 y1 y2 x0 x1 x2
  go_wp2
  (try simp only [Exit.inBlock, Exit.then])
  refine bodyPost_ret (v := .tuple #[shv p.b c (f + c * s) s, .bool true]) ?_ rfl ⟨rfl, ((Kept.refl _ _).alloc _).drew⟩
  rw [results_cell_tmp rfl]
  go_simp

set_option maxHeartbeats 2000000 in
theorem shareOf_no {w : World} {p : Ap} {A : Ar} (h : ArIs 56 w p A) {x f s : Nat} (hx : AlIs w x p.b f s) (c : Int) (hc : c < 0 ∨ (A.traces.length : Int) ≤ c) :
    Calls Tryd.prog 24 #[.pointer (some ⟨x, 0, none⟩), .int .i64 c] w fun e w' => e = .returned (.tuple #[.agg #[.pointer none, .int .i64 0, .int .i64 0, .int .i64 0], .bool false]) ∧ Kept [] w w' := by
  obtain ⟨x0, x1, x2⟩ := hx.cells
  have hm := h.kept0 ((Kept.refl [] w).alloc (.cells #[.pointer none, .int .i64 0, .int .i64 0, .int .i64 0] 61))
  have HX : Hid (_) := hm
  have y0 := ((Kept.refl [] w).alloc (.cells #[.pointer none, .int .i64 0, .int .i64 0, .int .i64 0] 61)).cell x0 (by simp)
  by_cases h0 : c < 0
  · have i0 : decide (c < 0) = true := by simpa using h0
    clear h hm hx
    go_enter Tryd.func24, Tryd.ntmps24
    go_wp2
    (try simp only [Exit.inBlock, Exit.then])
    refine bodyPost_ret (v := .tuple #[.agg #[.pointer none, .int .i64 0, .int .i64 0, .int .i64 0], .bool false]) ?_ rfl ⟨rfl, (Kept.refl _ _).alloc _⟩
    rw [results_cell_tmp rfl]
    go_simp
  · have i0 : decide (c < 0) = false := by simpa using h0
    have h1 : (A.traces.length : Int) ≤ c := by omega
    have i1 : decide ((A.traces.length : Int) ≤ c) = true := by simpa using h1
    clear h hm hx hc
    go_enter Tryd.func24, Tryd.ntmps24
    go_wp2_with fail
    refine (cores_any HX.out).mono ?_
    rintro e w1 ⟨rfl, hw1⟩
    subst hw1
    go_wp2
    (try simp only [Exit.inBlock, Exit.then])
    refine bodyPost_ret (v := .tuple #[.agg #[.pointer none, .int .i64 0, .int .i64 0, .int .i64 0], .bool false]) ?_ rfl ⟨rfl, (Kept.refl _ _).alloc _⟩
    rw [results_cell_tmp rfl]
    go_simp

theorem Got.pre {w w1 : World} {p : Ap} {A : Ar} {c a n : Nat} {ps : List Pc} {z : Nat} {e : Ending} {w' : World} (hk : Kept [] w w1) (h : Got w1 p A c a n ps z e w') : Got w p A c a n ps z e w' := by
  obtain ⟨pos, p', A', h1, h2, h3⟩ := h
  exact ⟨pos, p', A', h1, Run.pre hk h2, h3⟩

set_option maxHeartbeats 2000000 in
theorem Get_ok {w : World} {p : Ap} {A : Ar} {b c f s q x : Nat} (h : In w p A b c (f + c * s) s q) (hx : AlIs w x b f s) (hq : 100 ≤ q) {ps : List Pc} (inv : Inv s (f + c * s) (wordAt A.words) ps) (z : Nat) (z0 : 1 ≤ z) (z1 : z ≤ 32) (hz : loads ps + z + 2 ≤ s / 4) :
    Calls Tryd.prog 11 #[.pointer (some ⟨x, 0, none⟩), .int .i64 (c : Int), .int .i64 (z : Int)] w (Got w p A c (f + c * s) s ps z) := by
  have hb := h.hb
  subst hb
  have hsh := shareOf_yes h.is hx h.fits.hi (by have := h.within; have := h.is.hi; have := h.fits.lo; omega) c h.core
  have i0 : decide ((z : Int) < 1) = false := by simp; omega
  have i1 : decide (32 < (z : Int)) = false := by simp; omega
  have HX : Hid (_ ∧ _) := ⟨h, inv⟩
  have HS : Hid (_) := hsh
  clear h hx inv hsh
  go_enter Tryd.func11, Tryd.ntmps11
  go_wp2_with fail
  refine Calls.mono HS.out ?_
  rintro e w1 ⟨rfl, hk1⟩
  have hk2 := hk1.trans (box_kept w1 p.b c (f + c * s) s) (by simp)
  have HK : Hid (_) := hk2
  clear hk1 hk2 HS
  go_wp2_with fail
  refine (get_ok (HX.out.1.kept HK.out) hq HX.out.2 z z0 z1 hz).mono ?_
  intro e w3 hg
  obtain ⟨pos, p', A', he, hr⟩ := hg
  subst he
  have HR : Hid (_) := hr
  clear hr
  go_wp2
  go_ret2
  exact ⟨pos, p', A', rfl, Run.pre HK.out HR.out.1, HR.out.2⟩

set_option maxHeartbeats 2000000 in
theorem Get_full {w : World} {p : Ap} {A : Ar} {b c f s q x : Nat} (h : In w p A b c (f + c * s) s q) (hx : AlIs w x b f s) (hq : 1 ≤ q) {ps : List Pc} (inv : Inv s (f + c * s) (wordAt A.words) ps) (z : Nat) (z0 : 1 ≤ z) (z1 : z ≤ 32) (hz : s / 4 < loads ps + z + 2) :
    Calls Tryd.prog 11 #[.pointer (some ⟨x, 0, none⟩), .int .i64 (c : Int), .int .i64 (z : Int)] w fun e w' => e = .returned (.tuple #[.int .i64 0, .int .i64 401]) ∧ ∃ p' A', Run c (f + c * s) (f + c * s + s) 100 w p A w' p' A' ∧ A'.words = A.words := by
  have hb := h.hb
  subst hb
  have hsh := shareOf_yes h.is hx h.fits.hi (by have := h.within; have := h.is.hi; have := h.fits.lo; omega) c h.core
  have i0 : decide ((z : Int) < 1) = false := by simp; omega
  have i1 : decide (32 < (z : Int)) = false := by simp; omega
  have HX : Hid (_ ∧ _) := ⟨h, inv⟩
  have HS : Hid (_) := hsh
  clear h hx inv hsh
  go_enter Tryd.func11, Tryd.ntmps11
  go_wp2_with fail
  refine Calls.mono HS.out ?_
  rintro e w1 ⟨rfl, hk1⟩
  have hk2 := hk1.trans (box_kept w1 p.b c (f + c * s) s) (by simp)
  have HK : Hid (_) := hk2
  clear hk1 hk2 HS
  go_wp2_with fail
  refine (get_full (HX.out.1.kept HK.out) hq HX.out.2 z z1 hz).mono ?_
  rintro e w3 ⟨rfl, p', A', hr⟩
  have HR : Hid (_) := hr
  clear hr
  go_wp2
  go_ret2
  exact ⟨rfl, p', A', Run.pre HK.out HR.out.1, HR.out.2⟩

set_option maxHeartbeats 2000000 in
theorem Get_size {w : World} {p : Ap} {A : Ar} {b c f s q x : Nat} (h : In w p A b c (f + c * s) s q) (hx : AlIs w x b f s) (z : Int) (hz : z < 1 ∨ 32 < z) :
    Calls Tryd.prog 11 #[.pointer (some ⟨x, 0, none⟩), .int .i64 (c : Int), .int .i64 z] w fun e w' => e = .returned (.tuple #[.int .i64 0, .int .i64 403]) ∧ Kept [] w w' := by
  have hb := h.hb
  subst hb
  have hsh := shareOf_yes h.is hx h.fits.hi (by have := h.within; have := h.is.hi; have := h.fits.lo; omega) c h.core
  have HS : Hid (_) := hsh
  clear h hx hsh
  by_cases h0 : z < 1
  · have i0 : decide (z < 1) = true := by simpa using h0
    go_enter Tryd.func11, Tryd.ntmps11
    go_wp2_with fail
    refine Calls.mono HS.out ?_
    rintro e w1 ⟨rfl, hk1⟩
    have HK : Hid (_) := hk1.trans (box_kept w1 p.b c (f + c * s) s) (by simp)
    clear hk1 HS
    go_wp2
    go_ret2
    exact ⟨rfl, HK.out⟩
  · have i0 : decide (z < 1) = false := by simpa using h0
    have h1 : 32 < z := by omega
    have i1 : decide (32 < z) = true := by simpa using h1
    clear hz
    go_enter Tryd.func11, Tryd.ntmps11
    go_wp2_with fail
    refine Calls.mono HS.out ?_
    rintro e w1 ⟨rfl, hk1⟩
    have HK : Hid (_) := hk1.trans (box_kept w1 p.b c (f + c * s) s) (by simp)
    clear hk1 HS
    go_wp2
    go_ret2
    exact ⟨rfl, HK.out⟩

set_option maxHeartbeats 2000000 in
theorem Get_core {w : World} {p : Ap} {A : Ar} (h : ArIs 56 w p A) {x f s : Nat} (hx : AlIs w x p.b f s) (c z : Int) (hc : c < 0 ∨ (A.traces.length : Int) ≤ c) :
    Calls Tryd.prog 11 #[.pointer (some ⟨x, 0, none⟩), .int .i64 c, .int .i64 z] w fun e w' => e = .returned (.tuple #[.int .i64 0, .int .i64 403]) ∧ Kept [] w w' := by
  have HS : Hid (_) := shareOf_no h hx c hc
  clear h hx hc
  go_enter Tryd.func11, Tryd.ntmps11
  go_wp2_with fail
  refine Calls.mono HS.out ?_
  rintro e w1 ⟨rfl, hk1⟩
  have HK : Hid (_) := hk1.alloc (.cells #[.pointer none, .int .i64 0, .int .i64 0, .int .i64 0] 61)
  clear hk1 HS
  go_wp2
  go_ret2
  exact ⟨rfl, HK.out⟩

set_option maxHeartbeats 2000000 in
theorem Free_core {w : World} {p : Ap} {A : Ar} (h : ArIs 56 w p A) {x f s : Nat} (hx : AlIs w x p.b f s) (c t : Int) (hc : c < 0 ∨ (A.traces.length : Int) ≤ c) :
    Calls Tryd.prog 16 #[.pointer (some ⟨x, 0, none⟩), .int .i64 c, .int .i64 t] w fun e w' => e = .returned (.int .i64 402) ∧ Kept [] w w' := by
  have HS : Hid (_) := shareOf_no h hx c hc
  clear h hx hc
  go_enter Tryd.func16, Tryd.ntmps16
  go_wp2_with fail
  refine Calls.mono HS.out ?_
  rintro e w1 ⟨rfl, hk1⟩
  have HK : Hid (_) := hk1.alloc (.cells #[.pointer none, .int .i64 0, .int .i64 0, .int .i64 0] 61)
  clear hk1 HS
  go_wp2
  go_ret
  exact ⟨rfl, HK.out⟩

set_option maxHeartbeats 2000000 in
/-- Free comes down to the share's free. -/
theorem Free_by {w : World} {p : Ap} {A : Ar} {b c f s q x : Nat} (h : In w p A b c (f + c * s) s q) (hx : AlIs w x b f s) (t v : Int) {R : World → World → Prop} (hR : ∀ w1 w2, Kept [] w w1 → R w1 w2 → R w w2)
    (hf : ∀ w1, Kept [] w w1 → Calls Tryd.prog 30 #[shv b c (f + c * s) s, .int .i64 t] w1 fun e w' => e = .returned (.int .i64 v) ∧ R w1 w') :
    Calls Tryd.prog 16 #[.pointer (some ⟨x, 0, none⟩), .int .i64 (c : Int), .int .i64 t] w fun e w' => e = .returned (.int .i64 v) ∧ R w w' := by
  have hb := h.hb
  subst hb
  have hsh := shareOf_yes h.is hx h.fits.hi (by have := h.within; have := h.is.hi; have := h.fits.lo; omega) c h.core
  have HS : Hid (_ ∧ _ ∧ _) := ⟨hsh, hf, hR⟩
  clear h hx hsh hf hR
  go_enter Tryd.func16, Tryd.ntmps16
  go_wp2_with fail
  refine HS.out.1.mono ?_
  rintro e w1 ⟨rfl, hk1⟩
  have HK : Hid (_) := hk1.trans (box_kept w1 p.b c (f + c * s) s) (by simp)
  clear hk1
  go_wp2_with fail
  refine (HS.out.2.1 _ HK.out).mono ?_
  rintro e w3 ⟨rfl, hr⟩
  have HR : Hid (_) := HS.out.2.2 _ _ HK.out hr
  clear hr
  go_wp2
  go_ret
  exact ⟨rfl, HR.out⟩

set_option maxHeartbeats 2000000 in
theorem Left_any {w : World} {p : Ap} {A : Ar} {b c f s q x : Nat} (h : In w p A b c (f + c * s) s q) (hx : AlIs w x b f s) (hq : 1 ≤ q) (L : Nat) (hL : L ≤ s / 4) (hw : wordAt A.words (f + c * s) = (L : Int)) :
    Calls Tryd.prog 21 #[.pointer (some ⟨x, 0, none⟩), .int .i64 (c : Int)] w fun e w' => e = .returned (.int .i64 ((leftOf (s / 4 - L) : Nat) : Int)) ∧ ∃ p' A', Run c (f + c * s) (f + c * s + s) 100 w p A w' p' A' ∧ A'.words = A.words := by
  have hb := h.hb
  subst hb
  have hsh := shareOf_yes h.is hx h.fits.hi (by have := h.within; have := h.is.hi; have := h.fits.lo; omega) c h.core
  have HX : Hid (_ ∧ _) := ⟨h, hw⟩
  have HS : Hid (_) := hsh
  clear h hx hsh hw
  go_enter Tryd.func21, Tryd.ntmps21
  go_wp2_with fail
  refine Calls.mono HS.out ?_
  rintro e w1 ⟨rfl, hk1⟩
  have HK : Hid (_) := hk1.trans (box_kept w1 p.b c (f + c * s) s) (by simp)
  clear hk1 HS
  go_wp2_with fail
  refine (left_any (HX.out.1.kept HK.out) hq L hL HX.out.2).mono ?_
  rintro e w3 ⟨rfl, p', A', hr⟩
  have HR : Hid (_) := hr
  clear hr
  go_wp2
  go_ret
  exact ⟨rfl, p', A', Run.pre HK.out HR.out.1, HR.out.2⟩

end Go.Proofs.YtagnkdeeiligcaaDoor
