/-
  Counts of package refs: counting up and down.
-/
import Derived.Test.YtljmpcmkgeomiaaRw
namespace Go.Proofs.Ytljmpcmkgeomiaa
open Go.RowKit
set_option linter.unusedVariables false

/-- Bit o of a word. -/
def bit (x : Int) (o : Nat) : Bool := (BitVec.ofInt 64 x).getLsbD o

/-- The word with bit o. -/
def mark (x : Int) (o : Nat) : Int := bits .or .i64 x (wrap64 (2 ^ o))

theorem ofInt_wrap (x : Int) : BitVec.ofInt 64 (IntKind.i64.wrap x) = BitVec.ofInt 64 x := by
  apply BitVec.eq_of_toNat_eq
  rw [BitVec.toNat_ofInt, BitVec.toNat_ofInt, IntKind.wrap_i64]
  omega

theorem ofInt_wrap64 (x : Int) : BitVec.ofInt 64 (wrap64 x) = BitVec.ofInt 64 x := by
  apply BitVec.eq_of_toNat_eq
  rw [BitVec.toNat_ofInt, BitVec.toNat_ofInt]
  unfold wrap64
  omega

theorem ofInt_nat (v : BitVec 64) : BitVec.ofInt 64 (v.toNat : Int) = v := by
  apply BitVec.eq_of_toNat_eq
  rw [BitVec.toNat_ofInt]
  have := v.isLt
  omega

theorem or_ofInt (x y : Int) : BitVec.ofInt 64 (bits .or .i64 x y) = BitVec.ofInt 64 x ||| BitVec.ofInt 64 y := by
  show BitVec.ofInt 64 (IntKind.i64.wrap ((BitVec.ofInt 64 x ||| BitVec.ofInt 64 y).toNat : Nat)) = _
  rw [ofInt_wrap, ofInt_nat]

theorem and_ofInt (x y : Int) : BitVec.ofInt 64 (bits .and .i64 x y) = BitVec.ofInt 64 x &&& BitVec.ofInt 64 y := by
  show BitVec.ofInt 64 (IntKind.i64.wrap ((BitVec.ofInt 64 x &&& BitVec.ofInt 64 y).toNat : Nat)) = _
  rw [ofInt_wrap, ofInt_nat]

theorem two_ofInt (o : Nat) : BitVec.ofInt 64 (wrap64 (2 ^ o)) = BitVec.twoPow 64 o := by
  rw [ofInt_wrap64]
  apply BitVec.eq_of_toNat_eq
  rw [BitVec.toNat_ofInt, BitVec.toNat_twoPow]
  have : ((2 : Int) ^ o) = ((2 ^ o : Nat) : Int) := by simp
  rw [this]
  omega

theorem bit_or (x y : Int) (o : Nat) : bit (bits .or .i64 x y) o = (bit x o || bit y o) := by
  unfold bit; rw [or_ofInt, BitVec.getLsbD_or]

theorem bit_mark (x : Int) (o o' : Nat) (h : o < 64) : bit (mark x o) o' = (bit x o' || decide (o' = o)) := by
  unfold mark; rw [bit_or]
  congr 1
  unfold bit
  rw [two_ofInt, BitVec.getLsbD_twoPow]
  by_cases e : o' = o
  · subst e; simp [h]
  · simp [Ne.symm e, e]

theorem bit_zero (o : Nat) : bit 0 o = false := by simp [bit]

theorem bit_test (x : Int) (o : Nat) (h : o < 64) : (bits .and .i64 x (wrap64 (2 ^ o)) != 0) = bit x o := by
  have e := and_ofInt x (wrap64 (2 ^ o))
  rw [two_ofInt, BitVec.and_twoPow] at e
  by_cases hb : bit x o = true
  · rw [hb]
    unfold bit at hb
    rw [if_pos hb] at e
    simp only [bne_iff_ne, ne_eq]
    intro h0
    rw [h0] at e
    have := congrArg (fun v => BitVec.getLsbD v o) e
    simp [h] at this
  · have hb2 : bit x o = false := by simpa using hb
    rw [hb2]
    unfold bit at hb2
    rw [if_neg (by simp [hb2])] at e
    have hz : bits .and .i64 x (wrap64 (2 ^ o)) = 0 := by
      have h1 : bits .and .i64 x (wrap64 (2 ^ o)) = IntKind.i64.wrap ((BitVec.ofInt 64 x &&& BitVec.ofInt 64 (wrap64 (2 ^ o))).toNat : Nat) := rfl
      rw [h1, ← and_ofInt, e]
      rfl
    rw [hz]; rfl

section
variable {P : Nat → Nat → Prop} {S : List (Nat × Obj)} {w0 w : World} {b g f n k L N : Nat} {W : Nat → Nat → Int}

set_option maxRecDepth 100000 in
theorem r_note (h : Rs P S w0 w b g f n k L N W) (c o : Nat) (hc : c < k) (ho : o < n) (hP : P c (pl f n c n)) (hN : N < 999999) :
    Calls Try.prog 46 #[.pointer (some ⟨g, 0, none⟩), .int .i64 (c : Int), .int .i64 (o : Int)] w fun e w' => e = .returned (.tuple #[]) ∧ Rs P S w0 w' b g f n k L (N + 2) (upd W c n (mark (W c n) o)) := by
  have F := h.fx
  have hn := F.nhi
  have o1 : (o : Int) < 64 := by omega
  go_enter Try.func46, Try.ntmps46
  go_wp2_with fail
  refine (r_countedAt h c hc).mono ?_
  rintro e w' ⟨rfl, hk⟩
  have H0 : Hid (_) := h.still hk
  clear hk
  go_wp2_with fail
  refine (r_load H0.out c c n hc (by omega) (by omega) hP (by omega)).mono ?_
  rintro e w' ⟨rfl, h1⟩
  have H1 : Hid (_) := h1
  clear h1 H0
  by_cases hm : mark (W c n) o = W c n
  · have t1 : (bits .or .i64 (W c n) (wrap64 (2 ^ o)) != W c n) = false := by simp only [bne_eq_false_iff_eq]; exact hm
    have HM : Hid (_) := hm
    clear hm
    go_wp2_with fail
    go_end0
    refine ⟨rfl, (H1.out.mono (by omega)).as fun r i hr hi => ?_⟩
    rw [HM.out]
    unfold upd
    by_cases e : r = c ∧ i = n
    · rw [if_pos e, e.1, e.2]
    · rw [if_neg e]
  · have t1 : (bits .or .i64 (W c n) (wrap64 (2 ^ o)) != W c n) = true := by simp only [bne_iff_ne]; exact hm
    clear hm
    go_wp2_with fail
    refine (r_countedAt H1.out c hc).mono ?_
    rintro e w' ⟨rfl, hk⟩
    have H2 : Hid (_) := Rs.still H1.out hk
    clear hk H1
    go_wp2_with fail
    refine (r_store H2.out c c n _ hc (by omega) (by omega) hP (by omega)).mono ?_
    rintro e w' ⟨rfl, h1⟩
    have H1 : Hid (_) := h1
    clear h1 H2
    go_wp2_with fail
    go_end0
    exact ⟨rfl, H1.out⟩

/-- The words when core c has counted object o. -/
def counted (n : Nat) (W : Nat → Nat → Int) (c o : Nat) (v : Int) : Nat → Nat → Int := upd (upd W c o (wrap64 (W c o + v))) c n (mark (W c n) o)

set_option maxRecDepth 100000 in
set_option maxHeartbeats 1000000 in
theorem r_count (h : Rs P S w0 w b g f n k L N W) (c o : Nat) (v : Int) (hc : c < k) (ho : o < n) (hP : ∀ i, i < n + 2 → P c (pl f n c i)) (hN : N < 999900) :
    Calls Try.prog 27 #[.pointer (some ⟨g, 0, none⟩), .int .i64 (c : Int), .int .i64 (o : Int), .int .i64 v] w fun e w' => e = .returned (.int .i64 0) ∧ Rs P S w0 w' b g f n k L (N + 3) (counted n W c o v) := by
  have hD := h.still (Kept.refl [] w).drew
  have HX : Hid (_ ∧ _) := ⟨hD, hD.cells⟩
  clear hD
  go_enter Try.func27, Try.ntmps27
  go_wp2_with fail
  refine (r_core_yes h c hc).mono ?_
  rintro e w' ⟨rfl, rfl⟩
  go_wp2_with fail
  refine (r_obj_yes h o ho).mono ?_
  rintro e w' ⟨rfl, rfl⟩
  go_wp2_with fail
  go_region_held3 (fun w' => w'.cell? ⟨g, 0, none⟩ = some (.pointer (some ⟨b, 0, none⟩)) ∧ w'.cell? ⟨g, 1, none⟩ = some (.int .i64 (f : Int)) ∧ w'.cell? ⟨g, 2, none⟩ = some (.int .i64 (n : Int))) (first | exact HX.out.2 | exact z1 | exact z2 | go_keep)
    (first
      | (go_at_call 45; refine (r_partAt HX.out.1 c o hc ho).mono ?_; rintro e w1 ⟨rfl, hk1⟩; have z1 := (HX.out.1.still hk1).cells)
      | (go_at_call 44; refine (a_add (HX.out.1.still hk1) c c o v hc (by omega) (by omega) (hP o (by omega)) (by omega)).mono ?_; rintro e w2 ⟨rfl, h2⟩; have z2 := h2.cells))
  have H2 : Hid (_) := h2
  clear h2 z2 z1 hk1 HX
  go_wp2_with fail
  refine (r_note H2.out c o hc ho (hP n (by omega)) (by omega)).mono ?_
  rintro e w' ⟨rfl, h1⟩
  rw [upd_col _ _ (show n ≠ o by omega)] at h1
  have H1 : Hid (_) := h1
  clear h1 H2
  go_wp2_with fail
  go_ret
  exact ⟨rfl, H1.out⟩

set_option maxRecDepth 100000 in
theorem r_count_nocore (h : Rs P S w0 w b g f n k L N W) (c o v : Int) (hc : c < 0 ∨ (k : Int) ≤ c) :
    Calls Try.prog 27 #[.pointer (some ⟨g, 0, none⟩), .int .i64 c, .int .i64 o, .int .i64 v] w fun e w' => e = .returned (.int .i64 600) ∧ w' = w := by
  go_enter Try.func27, Try.ntmps27
  go_wp2_with fail
  refine (r_core_no h c hc).mono ?_
  rintro e w' ⟨rfl, rfl⟩
  go_wp2_with fail
  go_ret
  exact ⟨rfl, rfl⟩

set_option maxRecDepth 100000 in
theorem r_count_noobj (h : Rs P S w0 w b g f n k L N W) (c : Nat) (o v : Int) (hc : c < k) (ho : o < 0 ∨ (n : Int) ≤ o) :
    Calls Try.prog 27 #[.pointer (some ⟨g, 0, none⟩), .int .i64 (c : Int), .int .i64 o, .int .i64 v] w fun e w' => e = .returned (.int .i64 601) ∧ w' = w := by
  go_enter Try.func27, Try.ntmps27
  go_wp2_with fail
  refine (r_core_yes h c hc).mono ?_
  rintro e w' ⟨rfl, rfl⟩
  go_wp2_with fail
  refine (r_obj_no h o ho).mono ?_
  rintro e w' ⟨rfl, rfl⟩
  go_wp2_with fail
  go_ret
  exact ⟨rfl, rfl⟩

set_option maxRecDepth 100000 in
theorem r_inc (h : Rs P S w0 w b g f n k L N W) (c o : Nat) (hc : c < k) (ho : o < n) (hP : ∀ i, i < n + 2 → P c (pl f n c i)) (hN : N < 999900) :
    Calls Try.prog 10 #[.pointer (some ⟨g, 0, none⟩), .int .i64 (c : Int), .int .i64 (o : Int)] w fun e w' => e = .returned (.int .i64 0) ∧ Rs P S w0 w' b g f n k L (N + 3) (counted n W c o 1) := by
  go_enter Try.func10, Try.ntmps10
  go_wp2_with fail
  refine (r_count h c o 1 hc ho hP hN).mono ?_
  rintro e w' ⟨rfl, h1⟩
  have H1 : Hid (_) := h1
  clear h1
  go_wp2_with fail
  go_ret
  exact ⟨rfl, H1.out⟩

set_option maxRecDepth 100000 in
theorem r_inc_nocore (h : Rs P S w0 w b g f n k L N W) (c o : Int) (hc : c < 0 ∨ (k : Int) ≤ c) :
    Calls Try.prog 10 #[.pointer (some ⟨g, 0, none⟩), .int .i64 c, .int .i64 o] w fun e w' => e = .returned (.int .i64 600) ∧ w' = w := by
  go_enter Try.func10, Try.ntmps10
  go_wp2_with fail
  refine (r_count_nocore h c o 1 hc).mono ?_
  rintro e w' ⟨rfl, rfl⟩
  go_wp2_with fail
  go_ret
  exact ⟨rfl, rfl⟩

set_option maxRecDepth 100000 in
theorem r_inc_noobj (h : Rs P S w0 w b g f n k L N W) (c : Nat) (o : Int) (hc : c < k) (ho : o < 0 ∨ (n : Int) ≤ o) :
    Calls Try.prog 10 #[.pointer (some ⟨g, 0, none⟩), .int .i64 (c : Int), .int .i64 o] w fun e w' => e = .returned (.int .i64 601) ∧ w' = w := by
  go_enter Try.func10, Try.ntmps10
  go_wp2_with fail
  refine (r_count_noobj h c o 1 hc ho).mono ?_
  rintro e w' ⟨rfl, rfl⟩
  go_wp2_with fail
  go_ret
  exact ⟨rfl, rfl⟩

set_option maxRecDepth 100000 in
theorem r_dec (h : Rs P S w0 w b g f n k L N W) (c o : Nat) (hc : c < k) (ho : o < n) (hP : ∀ i, i < n + 2 → P c (pl f n c i)) (hN : N < 999900) :
    Calls Try.prog 11 #[.pointer (some ⟨g, 0, none⟩), .int .i64 (c : Int), .int .i64 (o : Int)] w fun e w' => e = .returned (.int .i64 0) ∧ Rs P S w0 w' b g f n k L (N + 3) (counted n W c o (-1)) := by
  go_enter Try.func11, Try.ntmps11
  go_wp2_with fail
  refine (r_count h c o (-1) hc ho hP hN).mono ?_
  rintro e w' ⟨rfl, h1⟩
  have H1 : Hid (_) := h1
  clear h1
  go_wp2_with fail
  go_ret
  exact ⟨rfl, H1.out⟩

set_option maxRecDepth 100000 in
theorem r_dec_nocore (h : Rs P S w0 w b g f n k L N W) (c o : Int) (hc : c < 0 ∨ (k : Int) ≤ c) :
    Calls Try.prog 11 #[.pointer (some ⟨g, 0, none⟩), .int .i64 c, .int .i64 o] w fun e w' => e = .returned (.int .i64 600) ∧ w' = w := by
  go_enter Try.func11, Try.ntmps11
  go_wp2_with fail
  refine (r_count_nocore h c o (-1) hc).mono ?_
  rintro e w' ⟨rfl, rfl⟩
  go_wp2_with fail
  go_ret
  exact ⟨rfl, rfl⟩

set_option maxRecDepth 100000 in
theorem r_dec_noobj (h : Rs P S w0 w b g f n k L N W) (c : Nat) (o : Int) (hc : c < k) (ho : o < 0 ∨ (n : Int) ≤ o) :
    Calls Try.prog 11 #[.pointer (some ⟨g, 0, none⟩), .int .i64 (c : Int), .int .i64 o] w fun e w' => e = .returned (.int .i64 601) ∧ w' = w := by
  go_enter Try.func11, Try.ntmps11
  go_wp2_with fail
  refine (r_count_noobj h c o (-1) hc ho).mono ?_
  rintro e w' ⟨rfl, rfl⟩
  go_wp2_with fail
  go_ret
  exact ⟨rfl, rfl⟩

end
end Go.Proofs.Ytljmpcmkgeomiaa
