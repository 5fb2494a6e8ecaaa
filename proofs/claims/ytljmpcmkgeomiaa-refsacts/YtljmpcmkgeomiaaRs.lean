/-
  Counts of package refs in an arena's words: the state, and the functions that tell where a word lies.
-/
import Derived.Test.YtljmpcmkgeomiaaHs
namespace Go.Proofs.Ytljmpcmkgeomiaa
open Go.RowKit
set_option linter.unusedVariables false

theorem ret_int {k : IntKind} {x y : Int} (h : x = y) : Ending.returned (.int k x) = .returned (.int k y) := by rw [h]

theorem wrap_small (c : Int) (h0 : -1000000 ≤ c) (h1 : c ≤ 1000000) : wrap64 c = c := by
  unfold wrap64
  omega

/-- What lies in the block of counts. -/
def box (b f n : Nat) : Obj := .cells #[.pointer (some ⟨b, 0, none⟩), .int .i64 (f : Int), .int .i64 (n : Int)] 58 (0, 0)

/-- The sizes: k cores, n objects, from f on, within L words. -/
structure Fx (k f n L : Nat) : Prop where
  klo : 1 ≤ k
  khi : k ≤ 8
  nlo : 1 ≤ n
  nhi : n ≤ 64
  fit : f + (k + 2) * (n + 2) ≤ L
  lhi : L ≤ 65536

/-- Where the word of row r, place i lies. -/
def pl (f n r i : Nat) : Nat := f + r * (n + 2) + i

theorem row_le {n r s : Nat} (h : r < s) : r * (n + 2) + (n + 2) ≤ s * (n + 2) := by
  have := Nat.mul_le_mul_right (n + 2) (show r + 1 ≤ s from h)
  rw [Nat.add_mul, Nat.one_mul] at this
  exact this

theorem pl_lt {k f n L r i : Nat} (F : Fx k f n L) (hr : r < k + 2) (hi : i < n + 2) : pl f n r i < L := by
  have h1 := F.fit
  have h2 := row_le (n := n) hr
  unfold pl
  omega

theorem pl_inj {f n r i r' i' : Nat} (hi : i < n + 2) (hi' : i' < n + 2) (h : pl f n r i = pl f n r' i') : r = r' ∧ i = i' := by
  unfold pl at h
  rcases Nat.lt_trichotomy r r' with h1 | h1 | h1
  · have := row_le (n := n) h1; omega
  · subst h1; exact ⟨rfl, by omega⟩
  · have := row_le (n := n) h1; omega

/-- The words, one turned. -/
def upd (W : Nat → Nat → Int) (r i : Nat) (v : Int) : Nat → Nat → Int := fun r' i' => if r' = r ∧ i' = i then v else W r' i'

theorem upd_same (W : Nat → Nat → Int) (r i : Nat) (v : Int) : upd W r i v r i = v := by simp [upd]
theorem upd_row (W : Nat → Nat → Int) {r i r' i' : Nat} (v : Int) (h : r' ≠ r) : upd W r i v r' i' = W r' i' := by simp [upd, h]
theorem upd_col (W : Nat → Nat → Int) {r i r' i' : Nat} (v : Int) (h : i' ≠ i) : upd W r i v r' i' = W r' i' := by simp [upd, h]

/-- Counts made since w0: P tells which core may have touched which word; N bounds the accesses of a core; W are the words. -/
structure Rs (P : Nat → Nat → Prop) (S : List (Nat × Obj)) (w0 w : World) (b g f n k L N : Nat) (W : Nat → Nat → Int) : Prop where
  sizes : Fx k f n L
  mem : (g, box b f n) ∈ S
  ar : ∃ A, Hs S w0 w b A ∧ A.words.length = L ∧ A.traces.length = k ∧ (∀ c, (A.traces.getD c []).length ≤ N) ∧ (∀ c, c < k → ∀ x ∈ A.traces.getD c [], ∃ j : Nat, x.1 = (j : Int) ∧ P c j) ∧ ∀ r i, r < k + 2 → i < n + 2 → wordAt A.words (pl f n r i) = W r i

section
variable {P : Nat → Nat → Prop} {S : List (Nat × Obj)} {w0 w : World} {b g f n k L N : Nat} {W : Nat → Nat → Int}

theorem Rs.still (h : Rs P S w0 w b g f n k L N W) {w' : World} (hk : Kept [] w w') : Rs P S w0 w' b g f n k L N W := by
  obtain ⟨F, hS, A, hH, h1⟩ := h
  exact ⟨F, hS, A, hH.still hk, h1⟩

theorem Rs.mono (h : Rs P S w0 w b g f n k L N W) {N' : Nat} (hN : N ≤ N') : Rs P S w0 w b g f n k L N' W := by
  obtain ⟨F, hS, A, hH, h1, h2, h3, h4⟩ := h
  exact ⟨F, hS, A, hH, h1, h2, fun c => Nat.le_trans (h3 c) hN, h4⟩

theorem Rs.as (h : Rs P S w0 w b g f n k L N W) {W' : Nat → Nat → Int} (hW : ∀ r i, r < k + 2 → i < n + 2 → W r i = W' r i) : Rs P S w0 w b g f n k L N W' := by
  obtain ⟨F, hS, A, hH, h1, h2, h3, h4, h5⟩ := h
  exact ⟨F, hS, A, hH, h1, h2, h3, h4, fun r i hr hi => (h5 r i hr hi).trans (hW r i hr hi)⟩

theorem Rs.fx (h : Rs P S w0 w b g f n k L N W) : Fx k f n L := h.1

theorem Rs.cells (h : Rs P S w0 w b g f n k L N W) : w.cell? ⟨g, 0, none⟩ = some (.pointer (some ⟨b, 0, none⟩)) ∧ w.cell? ⟨g, 1, none⟩ = some (.int .i64 (f : Int)) ∧ w.cell? ⟨g, 2, none⟩ = some (.int .i64 (n : Int)) := by
  obtain ⟨F, hS, A, hH, -⟩ := h
  exact ⟨hH.cell hS rfl, hH.cell hS rfl, hH.cell hS rfl⟩

theorem Rs.old (h : Rs P S w0 w b g f n k L N W) : Kept [] w0 w := by
  obtain ⟨F, hS, A, hH, -⟩ := h
  exact hH.old

theorem r_cores (h : Rs P S w0 w b g f n k L N W) : Calls Try.prog 41 #[.pointer (some ⟨b, 0, none⟩)] w fun e w' => e = .returned (.int .i64 (k : Int)) ∧ w' = w := by
  obtain ⟨F, hS, A, hH, h1, rfl, -⟩ := h
  exact h_cores hH

set_option maxRecDepth 100000 in
theorem r_rowWords (h : Rs P S w0 w b g f n k L N W) : Calls Try.prog 24 #[.pointer (some ⟨g, 0, none⟩)] w fun e w' => e = .returned (.int .i64 ((n + 2 : Nat) : Int)) ∧ w' = w := by
  obtain ⟨c0, c1, c2⟩ := h.cells
  have F := h.fx
  have hw : wrap64 ((n : Int) + 2) = ((n + 2 : Nat) : Int) := by rw [wrap_small _ (by omega) (by have := F.nhi; omega)]; omega
  go_enter Try.func24, Try.ntmps24
  go_wp2_with fail
  rw [hw]
  go_ret
  exact ⟨rfl, rfl⟩

set_option maxRecDepth 100000 in
theorem r_rows (h : Rs P S w0 w b g f n k L N W) : Calls Try.prog 23 #[.pointer (some ⟨g, 0, none⟩)] w fun e w' => e = .returned (.int .i64 ((k + 2 : Nat) : Int)) ∧ w' = w := by
  obtain ⟨c0, c1, c2⟩ := h.cells
  have F := h.fx
  have hw : wrap64 ((k : Int) + 2) = ((k + 2 : Nat) : Int) := by rw [wrap_small _ (by omega) (by have := F.khi; omega)]; omega
  go_enter Try.func23, Try.ntmps23
  go_wp2_with fail
  refine (r_cores h).mono ?_
  rintro e w' ⟨rfl, rfl⟩
  go_wp2_with fail
  rw [hw]
  go_ret
  exact ⟨rfl, rfl⟩

theorem i64_small (c : Int) (h0 : -1000000 ≤ c) (h1 : c ≤ 1000000) : IntKind.i64.wrap c = c := by
  rw [IntKind.wrap_i64]
  omega

theorem row_cast (n r : Nat) : (r : Int) * ((n : Int) + 2) = ((r * (n + 2) : Nat) : Int) := by
  rw [Int.natCast_mul]; rfl

set_option maxRecDepth 100000 in
set_option maxHeartbeats 1000000 in
theorem r_rowAt (h : Rs P S w0 w b g f n k L N W) (r : Nat) (hr : r < k + 2) : Calls Try.prog 42 #[.pointer (some ⟨g, 0, none⟩), .int .i64 (r : Int)] w fun e w' => e = .returned (.int .i64 ((pl f n r 0 : Nat) : Int)) ∧ Kept [] w w' := by
  have hD := h.still (Kept.refl [] w).drew
  have F := h.fx
  have hl := pl_lt F hr (show 0 < n + 2 by omega)
  have hL := F.lhi
  have HX : Hid (_ ∧ _) := ⟨hD, hD.cells⟩
  clear hD
  go_enter Try.func42, Try.ntmps42
  go_wp2_with fail
  go_region_held3 (fun w' => w'.cell? ⟨g, 0, none⟩ = some (.pointer (some ⟨b, 0, none⟩)) ∧ w'.cell? ⟨g, 1, none⟩ = some (.int .i64 (f : Int)) ∧ w'.cell? ⟨g, 2, none⟩ = some (.int .i64 (n : Int))) (first | exact HX.out.2 | go_keep)
    (first
      | (go_at_call 24; refine (r_rowWords HX.out.1).mono ?_; rintro e w1 ⟨rfl, rfl⟩))
  go_wp2_with fail
  go_ret
  refine ⟨ret_int ?_, ?_⟩
  · rw [row_cast]
    unfold pl at hl ⊢
    rw [i64_small ((r * (n + 2) : Nat) : Int) (by omega) (by omega), i64_small _ (by omega) (by omega)]; omega
  · exact (Kept.refl [] w).drew

set_option maxRecDepth 100000 in
set_option maxHeartbeats 1000000 in
theorem r_partAt (h : Rs P S w0 w b g f n k L N W) (c o : Nat) (hc : c < k) (ho : o < n) : Calls Try.prog 45 #[.pointer (some ⟨g, 0, none⟩), .int .i64 (c : Int), .int .i64 (o : Int)] w fun e w' => e = .returned (.int .i64 ((pl f n c o : Nat) : Int)) ∧ Kept [] w w' := by
  have F := h.fx
  have hl := pl_lt F (show c < k + 2 by omega) (show o < n + 2 by omega)
  have hL := F.lhi
  have hw : wrap64 (((pl f n c 0 : Nat) : Int) + (o : Int)) = ((pl f n c o : Nat) : Int) := by unfold pl at hl ⊢; rw [wrap_small _ (by omega) (by omega)]; omega
  go_enter Try.func45, Try.ntmps45
  go_wp2_with fail
  refine (r_rowAt h c (by omega)).mono ?_
  rintro e w' ⟨rfl, hk⟩
  have HK : Hid (_) := hk
  clear hk
  go_wp2_with fail
  rw [hw]
  go_ret
  exact ⟨rfl, HK.out⟩

set_option maxRecDepth 100000 in
set_option maxHeartbeats 1000000 in
theorem r_countedAt (h : Rs P S w0 w b g f n k L N W) (c : Nat) (hc : c < k) : Calls Try.prog 55 #[.pointer (some ⟨g, 0, none⟩), .int .i64 (c : Int)] w fun e w' => e = .returned (.int .i64 ((pl f n c n : Nat) : Int)) ∧ Kept [] w w' := by
  have hD := h.still (Kept.refl [] w).drew
  have F := h.fx
  have hl := pl_lt F (show c < k + 2 by omega) (show n < n + 2 by omega)
  have hL := F.lhi
  have HX : Hid (_ ∧ _) := ⟨hD, hD.cells⟩
  clear hD
  go_enter Try.func55, Try.ntmps55
  go_wp2_with fail
  go_region_held3 (fun w' => w'.cell? ⟨g, 0, none⟩ = some (.pointer (some ⟨b, 0, none⟩)) ∧ w'.cell? ⟨g, 1, none⟩ = some (.int .i64 (f : Int)) ∧ w'.cell? ⟨g, 2, none⟩ = some (.int .i64 (n : Int))) (first | exact HX.out.2 | exact z1 | go_keep)
    (first
      | (go_at_call 42; refine (r_rowAt HX.out.1 c (by omega)).mono ?_; rintro e w1 ⟨rfl, hk1⟩; have z1 := (HX.out.1.still hk1).cells))
  go_wp2_with fail
  go_ret
  refine ⟨ret_int ?_, ?_⟩
  · unfold pl at hl ⊢
    simp only [Int.natCast_add, IntKind.wrap_i64] at *
    omega
  · exact (Kept.refl [] w).drew.trans hk1 (by simp)

set_option maxRecDepth 100000 in
set_option maxHeartbeats 1000000 in
theorem r_flushedAt (h : Rs P S w0 w b g f n k L N W) (c : Nat) (hc : c < k) : Calls Try.prog 31 #[.pointer (some ⟨g, 0, none⟩), .int .i64 (c : Int)] w fun e w' => e = .returned (.int .i64 ((pl f n c (n + 1) : Nat) : Int)) ∧ Kept [] w w' := by
  have hD := h.still (Kept.refl [] w).drew
  have F := h.fx
  have hl := pl_lt F (show c < k + 2 by omega) (show (n + 1) < n + 2 by omega)
  have hL := F.lhi
  have HX : Hid (_ ∧ _) := ⟨hD, hD.cells⟩
  clear hD
  go_enter Try.func31, Try.ntmps31
  go_wp2_with fail
  go_region_held3 (fun w' => w'.cell? ⟨g, 0, none⟩ = some (.pointer (some ⟨b, 0, none⟩)) ∧ w'.cell? ⟨g, 1, none⟩ = some (.int .i64 (f : Int)) ∧ w'.cell? ⟨g, 2, none⟩ = some (.int .i64 (n : Int))) (first | exact HX.out.2 | exact z1 | go_keep)
    (first
      | (go_at_call 42; refine (r_rowAt HX.out.1 c (by omega)).mono ?_; rintro e w1 ⟨rfl, hk1⟩; have z1 := (HX.out.1.still hk1).cells))
  go_wp2_with fail
  go_ret
  refine ⟨ret_int ?_, ?_⟩
  · unfold pl at hl ⊢
    simp only [Int.natCast_add, IntKind.wrap_i64] at *
    omega
  · exact (Kept.refl [] w).drew.trans hk1 (by simp)

set_option maxRecDepth 100000 in
set_option maxHeartbeats 1000000 in
theorem r_epochAt (h : Rs P S w0 w b g f n k L N W)  : Calls Try.prog 49 #[.pointer (some ⟨g, 0, none⟩)] w fun e w' => e = .returned (.int .i64 ((pl f n k n : Nat) : Int)) ∧ Kept [] w w' := by
  have hD := h.still (Kept.refl [] w).drew
  have F := h.fx
  have hl := pl_lt F (show k < k + 2 by omega) (show n < n + 2 by omega)
  have hL := F.lhi
  have HX : Hid (_ ∧ _) := ⟨hD, hD.cells⟩
  clear hD
  go_enter Try.func49, Try.ntmps49
  go_wp2_with fail
  go_region_held3 (fun w' => w'.cell? ⟨g, 0, none⟩ = some (.pointer (some ⟨b, 0, none⟩)) ∧ w'.cell? ⟨g, 1, none⟩ = some (.int .i64 (f : Int)) ∧ w'.cell? ⟨g, 2, none⟩ = some (.int .i64 (n : Int))) (first | exact HX.out.2 | exact z1 | go_keep)
    (first
      | (go_at_call 41; refine (r_cores HX.out.1).mono ?_; rintro e w2 ⟨rfl, rfl⟩)
      | (go_at_call 42; refine (r_rowAt HX.out.1 k (by omega)).mono ?_; rintro e w1 ⟨rfl, hk1⟩; have z1 := (HX.out.1.still hk1).cells))
  go_wp2_with fail
  go_ret
  refine ⟨ret_int ?_, ?_⟩
  · unfold pl at hl ⊢
    simp only [Int.natCast_add, IntKind.wrap_i64] at *
    omega
  · exact (Kept.refl [] w).drew.trans hk1 (by simp)

set_option maxRecDepth 100000 in
set_option maxHeartbeats 1000000 in
theorem r_globalAt (h : Rs P S w0 w b g f n k L N W) (o : Nat) (ho : o < n) : Calls Try.prog 47 #[.pointer (some ⟨g, 0, none⟩), .int .i64 (o : Int)] w fun e w' => e = .returned (.int .i64 ((pl f n k o : Nat) : Int)) ∧ Kept [] w w' := by
  have F := h.fx
  obtain ⟨c0, c1, c2⟩ := h.cells
  have hl := pl_lt F (show k < k + 2 by omega) (show o < n + 2 by omega)
  have hL := F.lhi
  have hw : wrap64 (((pl f n k 0 : Nat) : Int) + (o : Int)) = ((pl f n k o : Nat) : Int) := by unfold pl at hl ⊢; rw [wrap_small _ (by omega) (by omega)]; omega
  go_enter Try.func47, Try.ntmps47
  go_wp2_with fail
  refine (r_cores h).mono ?_
  rintro e w' ⟨rfl, rfl⟩
  go_wp2_with fail
  refine (r_rowAt h (k) (by omega)).mono ?_
  rintro e w' ⟨rfl, hk⟩
  have HK : Hid (_) := hk
  clear hk
  go_wp2_with fail
  rw [hw]
  go_ret
  exact ⟨rfl, HK.out⟩

set_option maxRecDepth 100000 in
set_option maxHeartbeats 1000000 in
theorem r_stateAt (h : Rs P S w0 w b g f n k L N W) (o : Nat) (ho : o < n) : Calls Try.prog 36 #[.pointer (some ⟨g, 0, none⟩), .int .i64 (o : Int)] w fun e w' => e = .returned (.int .i64 ((pl f n (k + 1) o : Nat) : Int)) ∧ Kept [] w w' := by
  have F := h.fx
  obtain ⟨c0, c1, c2⟩ := h.cells
  have hl := pl_lt F (show (k + 1) < k + 2 by omega) (show o < n + 2 by omega)
  have hL := F.lhi
  have hw : wrap64 (((pl f n (k + 1) 0 : Nat) : Int) + (o : Int)) = ((pl f n (k + 1) o : Nat) : Int) := by unfold pl at hl ⊢; rw [wrap_small _ (by omega) (by omega)]; omega
  have hw2 : wrap64 ((k : Int) + 1) = ((k + 1 : Nat) : Int) := by have := F.khi; rw [wrap_small _ (by omega) (by omega)]; omega
  go_enter Try.func36, Try.ntmps36
  go_wp2_with fail
  refine (r_cores h).mono ?_
  rintro e w' ⟨rfl, rfl⟩
  go_wp2_with fail
  rw [hw2]
  refine (r_rowAt h ((k + 1)) (by omega)).mono ?_
  rintro e w' ⟨rfl, hk⟩
  have HK : Hid (_) := hk
  clear hk
  go_wp2_with fail
  rw [hw]
  go_ret
  exact ⟨rfl, HK.out⟩

end
end Go.Proofs.Ytljmpcmkgeomiaa
