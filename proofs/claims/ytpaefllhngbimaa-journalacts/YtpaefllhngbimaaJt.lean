/-
  Package journal's look, placed, New, Open, Write, Read.
-/
import Derived.Test.YtpaefllhngbimaaJs
namespace Go.Proofs.Ytpaefllhngbimaa
open Go.RowKit
set_option linter.unusedVariables false
set_option maxRecDepth 100000

/-- What look answers. -/
def lookV : Option ByteArray → Value
  | some t => .iface 69 (.agg #[.string t])
  | none => .iface 99 (.agg #[])

set_option maxHeartbeats 4000000 in
theorem j_look {S : List (Nat × Obj)} {w0 w : World} {b j : Nat} {M : Pm} (h : Hj S w0 w b M) {f n : Nat} (hj : (j, jn b f n) ∈ S) (hx : Fits M.seen f n) (hr : Rng M.seen) :
    Calls Try.prog 39 #[.pointer (some ⟨j, 0, none⟩)] w fun e w' => e = .returned (lookV (lookOf M.seen f n)) ∧ Kept [] w w' := by
  have hhi := hx.hi; have hlo := hx.lo; have htop := hx.top; have h8 := hx.len8
  have hroom := room_le (n := n)
  have hjw := h.at hj
  have hhead := j_head h hjw hx
  have a1 := assert93_some
  have a2 := assert93_none
  unfold lookOf
  cases hh : headOf M.seen f n with
  | none =>
    rw [hh] at hhead
    have HD : Hid (Calls Try.prog 50 #[.pointer (some ⟨j, 0, none⟩)] w fun e w' => e = .returned (.iface 99 (.agg #[])) ∧ w = w') := hhead
    clear hhead
    go_enter Try.func39, Try.ntmps39
    go_wp2_with (first
      | (go_at_call 50; refine Calls.mono HD.out ?_; rintro e w' ⟨rfl, rfl⟩))
    go_ret
    exact ⟨rfl, (Kept.refl _ _).alloc _⟩
  | some q =>
    rw [hh] at hhead
    have HD : Hid (Calls Try.prog 50 #[.pointer (some ⟨j, 0, none⟩)] w fun e w' => e = .returned (.iface 93 (.agg #[.int .i64 (q : Int)])) ∧ w = w') := hhead
    have hq2 := head_lt hh
    have hz0 : (ByteArray.empty).size ≤ roomOf n := Nat.zero_le _
    obtain ⟨r1, r2, r3, r4⟩ := area_fits hx hq2 hz0
    have harea : ∀ W : World, Hj S w0 W b M → Calls Try.prog 52 #[.pointer (some ⟨j, 0, none⟩), .int .i64 (q : Int)] W fun e w' => e = .returned (.int .i64 ((areaOf f n q : Nat) : Int)) ∧ W = w' :=
      fun W hW => j_areaAt (hW.at hj) hlo (by omega) (by omega) q hq2
    dsimp only
    have hfit : areaOf f n q + 2 + (roomOf n + 7) / 8 ≤ M.seen.length := by unfold areaOf roomOf; rcases (show q = 0 ∨ q = 1 from by omega) with rfl | rfl <;> omega
    generalize areaOf f n q = at_ at *
    have hl0 : ∀ W : World, Hj S w0 W b M → Calls Try.prog 55 #[.pointer (some ⟨j, 0, none⟩), .int .i64 (at_ : Int)] W fun e w' => e = .returned (.int .u64 (wordAt M.seen at_)) ∧ W = w' :=
      fun W hW => j_load hW (hW.at hj) at_ (by omega)
    have hl1 : ∀ W : World, Hj S w0 W b M → Calls Try.prog 55 #[.pointer (some ⟨j, 0, none⟩), .int .i64 ((at_ : Int) + 1)] W fun e w' => e = .returned (.int .u64 (wordAt M.seen (at_ + 1))) ∧ W = w' :=
      fun W hW => by
        have := j_load hW (hW.at hj) (at_ + 1) (by omega)
        rw [show ((at_ + 1 : Nat) : Int) = (at_ : Int) + 1 from by omega] at this
        exact this
    have hrm : ∀ W : World, Hj S w0 W b M → Calls Try.prog 40 #[.pointer (some ⟨j, 0, none⟩)] W fun e w' => e = .returned (.int .i64 ((roomOf n : Nat) : Int)) ∧ W = w' :=
      fun W hW => j_room (hW.at hj) hlo (by omega)
    have hrng := hr at_
    have hrng1 := hr (at_ + 1)
    have HA : Hid (∀ W : World, Hj S w0 W b M → Calls Try.prog 52 #[.pointer (some ⟨j, 0, none⟩), .int .i64 (q : Int)] W fun e w' => e = .returned (.int .i64 (at_ : Int)) ∧ W = w') := harea
    have H0 : Hid (∀ W : World, Hj S w0 W b M → Calls Try.prog 55 #[.pointer (some ⟨j, 0, none⟩), .int .i64 (at_ : Int)] W fun e w' => e = .returned (.int .u64 (wordAt M.seen at_)) ∧ W = w') := hl0
    have H1 : Hid (∀ W : World, Hj S w0 W b M → Calls Try.prog 55 #[.pointer (some ⟨j, 0, none⟩), .int .i64 ((at_ : Int) + 1)] W fun e w' => e = .returned (.int .u64 (wordAt M.seen (at_ + 1))) ∧ W = w') := hl1
    have HR : Hid (∀ W : World, Hj S w0 W b M → Calls Try.prog 40 #[.pointer (some ⟨j, 0, none⟩)] W fun e w' => e = .returned (.int .i64 ((roomOf n : Nat) : Int)) ∧ W = w') := hrm
    have HX : Hid (Hj S w0 w b M) := h
    have hKa : ∀ o, Kept [] w (w.alloc o) := fun o => (Kept.refl _ _).alloc o
    have hatb : (at_ : Int) < 65536 := by omega
    by_cases hsz : wordAt M.seen at_ ≤ (roomOf n : Int)
    · obtain ⟨z, hz⟩ : ∃ z : Nat, wordAt M.seen at_ = (z : Int) := ⟨(wordAt M.seen at_).toNat, by omega⟩
      have htx : ∀ W : World, Hj S w0 W b M → Calls Try.prog 56 #[.pointer (some ⟨j, 0, none⟩), .int .i64 ((at_ : Int) + 2), .int .i64 (z : Int)] W fun e w' => e = .returned (.string (textAt M.seen (at_ + 2) z)) ∧ Kept [] W w' :=
        fun W hW => by
          have := j_text hW (hW.at hj) hr (at_ + 2) z (by omega) (by omega) htop
          rw [show ((at_ + 2 : Nat) : Int) = (at_ : Int) + 2 from by omega] at this
          exact this
      rw [← hz] at htx
      have HT : Hid (∀ W : World, Hj S w0 W b M → Calls Try.prog 56 #[.pointer (some ⟨j, 0, none⟩), .int .i64 ((at_ : Int) + 2), .int .i64 (wordAt M.seen at_)] W fun e w' => e = .returned (.string (textAt M.seen (at_ + 2) z)) ∧ Kept [] W w') := htx
      have htsz : (textAt M.seen (at_ + 2) z).size ≤ 65536 := by unfold textAt; rw [strOfNums_size]; simp; omega
      have htn : (wordAt M.seen at_).toNat = z := by omega
      rw [htn]
      generalize textAt M.seen (at_ + 2) z = t at *
      have hof := fun W => p_of t W (by omega)
      have HO : Hid (∀ W : World, Calls Try.prog 57 #[.string t] W fun e w' => e = .returned (.int .u64 ((sumS t).toNat : Int)) ∧ w' = W) := hof
      have i1 : ¬ (((roomOf n : Nat) : Int) < wordAt M.seen at_) := by omega
      have i2 : wordAt M.seen at_ ≤ 65536 := by omega
      have hcz : IntKind.i64.wrap (wordAt M.seen at_) = wordAt M.seen at_ := by rw [IntKind.wrap_i64]; omega
      have hcr : IntKind.u64.wrap ((roomOf n : Nat) : Int) = ((roomOf n : Nat) : Int) := by rw [IntKind.wrap_u64]; omega
      clear hhead harea hl0 hl1 hrm hof htx h hjw hroom r1 r2 r3 r4 hfit hz hz0 htn
      generalize wordAt M.seen at_ = y at *
      generalize roomOf n = room at *
      have d1 : decide (((room : Nat) : Int) < y) = false := by simpa using i1
      clear hrng hrng1 hhi hlo htop h8 hq2
      by_cases hsum : ((sumS t).toNat : Int) = wordAt M.seen (at_ + 1)
      · rw [if_pos ⟨hsz, hsum⟩]
        rw [← hsum] at H1
        go_enter Try.func39, Try.ntmps39
        go_wp2_with (first
        | (go_at_call 50; refine Calls.mono HD.out ?_; rintro e w' ⟨rfl, rfl⟩)
        | (go_at_call 52; refine Calls.mono (HA.out _ (HX.out.still (hKa _))) ?_; rintro e w2 ⟨rfl, hw⟩; have hw3 := hw.symm; subst hw3; clear hw)
        | (go_at_call 55; refine Calls.mono (H0.out _ (HX.out.still (hKa _))) ?_; rintro e w2 ⟨rfl, hw⟩; have hw3 := hw.symm; subst hw3; clear hw H0)
        | (go_at_call 40; refine Calls.mono (HR.out _ (HX.out.still (hKa _))) ?_; rintro e w2 ⟨rfl, hw⟩; have hw3 := hw.symm; subst hw3; clear hw)
        | (go_at_call 56; refine Calls.mono (HT.out _ (HX.out.still (hKa _))) ?_; rintro e w4 ⟨rfl, h4⟩; have HK : Hid (Kept [] w w4) := (hKa _).trans h4 (by simp); clear h4)
        | (go_at_call 57; refine Calls.mono (HO.out _) ?_; rintro e w5 ⟨rfl, hw⟩; have hw3 := hw; subst hw3; clear hw)
        | (go_at_call 55; refine Calls.mono (H1.out _ (HX.out.still HK.out)) ?_; rintro e w6 ⟨rfl, hw⟩; have hw3 := hw.symm; subst hw3; clear hw))
        go_ret
        exact ⟨rfl, HK.out⟩
      · rw [if_neg (fun h => hsum h.2)]
        have hne : (((sumS t).toNat : Int) != wordAt M.seen (at_ + 1)) = true := by simp; exact hsum
        go_enter Try.func39, Try.ntmps39
        go_wp2_with (first
        | (go_at_call 50; refine Calls.mono HD.out ?_; rintro e w' ⟨rfl, rfl⟩)
        | (go_at_call 52; refine Calls.mono (HA.out _ (HX.out.still (hKa _))) ?_; rintro e w2 ⟨rfl, hw⟩; have hw3 := hw.symm; subst hw3; clear hw)
        | (go_at_call 55; refine Calls.mono (H0.out _ (HX.out.still (hKa _))) ?_; rintro e w2 ⟨rfl, hw⟩; have hw3 := hw.symm; subst hw3; clear hw H0)
        | (go_at_call 40; refine Calls.mono (HR.out _ (HX.out.still (hKa _))) ?_; rintro e w2 ⟨rfl, hw⟩; have hw3 := hw.symm; subst hw3; clear hw)
        | (go_at_call 56; refine Calls.mono (HT.out _ (HX.out.still (hKa _))) ?_; rintro e w4 ⟨rfl, h4⟩; have HK : Hid (Kept [] w w4) := (hKa _).trans h4 (by simp); clear h4)
        | (go_at_call 57; refine Calls.mono (HO.out _) ?_; rintro e w5 ⟨rfl, hw⟩; have hw3 := hw; subst hw3; clear hw)
        | (go_at_call 55; refine Calls.mono (H1.out _ (HX.out.still HK.out)) ?_; rintro e w6 ⟨rfl, hw⟩; have hw3 := hw.symm; subst hw3; clear hw))
        go_ret
        exact ⟨rfl, HK.out⟩
    · rw [if_neg (fun h => hsz h.1)]
      have i1 : ((roomOf n : Nat) : Int) < wordAt M.seen at_ := by omega
      clear hhead harea hl0 hl1 hrm h hjw hroom r1 r2 r3 r4 hfit H1
      go_enter Try.func39, Try.ntmps39
      go_wp2_with (first
        | (go_at_call 50; refine Calls.mono HD.out ?_; rintro e w' ⟨rfl, rfl⟩)
        | (go_at_call 52; refine Calls.mono (HA.out _ (HX.out.still (hKa _))) ?_; rintro e w2 ⟨rfl, hw⟩; have hw3 := hw.symm; subst hw3; clear hw)
        | (go_at_call 55; refine Calls.mono (H0.out _ (HX.out.still (hKa _))) ?_; rintro e w2 ⟨rfl, hw⟩; have hw3 := hw.symm; subst hw3; clear hw H0)
        | (go_at_call 40; refine Calls.mono (HR.out _ (HX.out.still (hKa _))) ?_; rintro e w2 ⟨rfl, hw⟩; have hw3 := hw.symm; subst hw3; clear hw))
      go_ret
      exact ⟨rfl, hKa _⟩

end Go.Proofs.Ytpaefllhngbimaa
