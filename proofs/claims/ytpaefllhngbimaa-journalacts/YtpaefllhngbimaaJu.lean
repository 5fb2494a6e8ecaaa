/-
  Package journal's calls: placed, New, Open, Write, Read.
-/
import Derived.Test.YtpaefllhngbimaaJt
namespace Go.Proofs.Ytpaefllhngbimaa
open Go.RowKit
set_option linter.unusedVariables false
set_option maxRecDepth 100000

theorem j_placed {S : List (Nat × Obj)} {w0 w : World} {b : Nat} {M : Pm} (h : Hj S w0 w b M) {f n : Nat} (hx : Fits M.seen f n) :
    Calls Try.prog 34 #[.pointer (some ⟨b, 0, none⟩), .int .i64 (f : Int), .int .i64 (n : Int)] w fun e w' => e = .returned (.tuple #[.pointer (some ⟨w.heap.size, 0, none⟩), .int .i64 0]) ∧ w' = w.alloc (jn b f n) := by
  have hhi := hx.hi; have hlo := hx.lo; have htop := hx.top; have h8 := hx.mul
  have i1 : ¬ (f : Int) < 0 := by omega
  have i2 : ((f : Int) % 8 != 0) = false := by simp; omega
  have i3 : ¬ (n : Int) < 64 := by omega
  have i4 : ¬ (M.seen.length : Int) - (f : Int) < (n : Int) := by omega
  have i5 : 0 ≤ (f : Int) := by omega
  have hw := fun W (hW : Hj S w0 W b M) => h_words hW
  have HW : Hid (Calls Try.prog 49 #[.pointer (some ⟨b, 0, none⟩)] w fun e w' => e = .returned (.int .i64 (M.seen.length : Int)) ∧ w = w') := hw w h
  clear hw h
  go_enter Try.func34, Try.ntmps34
  go_wp2_with (first
    | (go_at_call 49; refine Calls.mono HW.out ?_; rintro e w' ⟨rfl, rfl⟩))
  go_ret2
  exact ⟨rfl, rfl⟩

theorem j_placed_bad {S : List (Nat × Obj)} {w0 w : World} {b : Nat} {M : Pm} (h : Hj S w0 w b M) (hlen : M.seen.length ≤ 65536) {f n : Int} (hf : -1000000 < f) (hf1 : f < 1000000) (hbad : f < 0 ∨ f % 8 ≠ 0 ∨ n < 64 ∨ (M.seen.length : Int) - f < n) :
    Calls Try.prog 34 #[.pointer (some ⟨b, 0, none⟩), .int .i64 f, .int .i64 n] w fun e w' => e = .returned (.tuple #[.pointer none, .int .i64 2100]) ∧ w' = w := by
  have HW : Hid (Calls Try.prog 49 #[.pointer (some ⟨b, 0, none⟩)] w fun e w' => e = .returned (.int .i64 (M.seen.length : Int)) ∧ w = w') := h_words h
  clear h
  by_cases i1 : f < 0
  · go_enter Try.func34, Try.ntmps34
    go_wp2_with fail
    go_ret2
    exact ⟨rfl, rfl⟩
  · have i5 : 0 ≤ f := by omega
    by_cases h2 : f % 8 ≠ 0
    · have i2 : (f % 8 != 0) = true := by simpa using h2
      clear hbad h2
      go_enter Try.func34, Try.ntmps34
      go_wp2_with fail
      go_ret2
      exact ⟨rfl, rfl⟩
    · have i2 : (f % 8 != 0) = false := by simp; omega
      by_cases i3 : n < 64
      · clear hbad h2
        go_enter Try.func34, Try.ntmps34
        go_wp2_with fail
        go_ret2
        exact ⟨rfl, rfl⟩
      · have i4 : (M.seen.length : Int) - f < n := by omega
        clear hbad h2
        go_enter Try.func34, Try.ntmps34
        go_wp2_with (first
          | (go_at_call 49; refine Calls.mono HW.out ?_; rintro e w' ⟨rfl, rfl⟩))
        go_ret2
        exact ⟨rfl, rfl⟩

/-- New, where it fits. -/
theorem j_new {S : List (Nat × Obj)} {w0 w : World} {b : Nat} {M : Pm} (h : Hj S w0 w b M) {f n : Nat} (hx : Fits M.seen f n) (hs0 : 0 ≤ M.steps) (hs1 : M.steps < 700000000) (ht0 : 0 ≤ M.stores) (ht1 : M.stores < 700000000) :
    Calls Try.prog 14 #[.pointer (some ⟨b, 0, none⟩), .int .i64 (f : Int), .int .i64 (n : Int)] w fun e w' => ∃ j, e = .returned (.tuple #[.pointer (some ⟨j, 0, none⟩), .int .i64 0]) ∧ j = w.heap.size ∧ Hj ((j, jn b f n) :: S) w0 w' b (M.run (replOps M.seen f n ⟨#[]⟩)) := by
  have h1 := h.make (jn b f n)
  have HR : Hid (Calls Try.prog 35 #[.pointer (some ⟨w.heap.size, 0, none⟩), .string ⟨#[]⟩] (w.alloc (jn b f n)) fun e w' => e = .returned (.tuple #[]) ∧ Hj ((w.heap.size, jn b f n) :: S) w0 w' b (M.run (replOps M.seen f n ⟨#[]⟩))) :=
    j_replace h1 (by simp) hx ⟨#[]⟩ (Nat.zero_le _) hs0 hs1 ht0 ht1
  have HP : Hid (Calls Try.prog 34 #[.pointer (some ⟨b, 0, none⟩), .int .i64 (f : Int), .int .i64 (n : Int)] w fun e w' => e = .returned (.tuple #[.pointer (some ⟨w.heap.size, 0, none⟩), .int .i64 0]) ∧ w' = w.alloc (jn b f n)) := j_placed h hx
  clear h h1 hs0 hs1 ht0 ht1
  go_enter Try.func14, Try.ntmps14
  go_wp2_with (first
    | (go_at_call 34; refine Calls.mono HP.out ?_; rintro e w' ⟨rfl, rfl⟩)
    | (go_at_call 35; refine Calls.mono HR.out ?_; rintro e w2 ⟨rfl, h2⟩; have H2 : Hid (Hj _ w0 w2 b _) := h2; clear h2))
  go_ret2
  exact ⟨_, rfl, rfl, H2.out⟩

theorem j_new_bad {S : List (Nat × Obj)} {w0 w : World} {b : Nat} {M : Pm} (h : Hj S w0 w b M) (hlen : M.seen.length ≤ 65536) {f n : Int} (hf : -1000000 < f) (hf1 : f < 1000000) (hbad : f < 0 ∨ f % 8 ≠ 0 ∨ n < 64 ∨ (M.seen.length : Int) - f < n) :
    Calls Try.prog 14 #[.pointer (some ⟨b, 0, none⟩), .int .i64 f, .int .i64 n] w fun e w' => e = .returned (.tuple #[.pointer none, .int .i64 2100]) ∧ w' = w := by
  have HP : Hid (Calls Try.prog 34 #[.pointer (some ⟨b, 0, none⟩), .int .i64 f, .int .i64 n] w fun e w' => e = .returned (.tuple #[.pointer none, .int .i64 2100]) ∧ w' = w) := j_placed_bad h hlen hf hf1 hbad
  clear h hbad
  go_enter Try.func14, Try.ntmps14
  go_wp2_with (first
    | (go_at_call 34; refine Calls.mono HP.out ?_; rintro e w' ⟨rfl, rfl⟩))
  go_ret2
  exact ⟨rfl, rfl⟩

theorem j_open {S : List (Nat × Obj)} {w0 w : World} {b : Nat} {M : Pm} (h : Hj S w0 w b M) {f n : Nat} (hx : Fits M.seen f n) (hr : Rng M.seen) {t : ByteArray} (hl : lookOf M.seen f n = some t) :
    Calls Try.prog 19 #[.pointer (some ⟨b, 0, none⟩), .int .i64 (f : Int), .int .i64 (n : Int)] w fun e w' => ∃ j, e = .returned (.tuple #[.pointer (some ⟨j, 0, none⟩), .int .i64 0]) ∧ j = w.heap.size ∧ Hj ((j, jn b f n) :: S) w0 w' b M ∧ Kept [] w w' := by
  have h1 := h.make (jn b f n)
  have hlk := j_look h1 (f := f) (n := n) (j := w.heap.size) (by simp) hx hr
  rw [hl] at hlk
  have HL : Hid (Calls Try.prog 39 #[.pointer (some ⟨w.heap.size, 0, none⟩)] (w.alloc (jn b f n)) fun e w' => e = .returned (.iface 69 (.agg #[.string t])) ∧ Kept [] (w.alloc (jn b f n)) w') := hlk
  have HP : Hid (Calls Try.prog 34 #[.pointer (some ⟨b, 0, none⟩), .int .i64 (f : Int), .int .i64 (n : Int)] w fun e w' => e = .returned (.tuple #[.pointer (some ⟨w.heap.size, 0, none⟩), .int .i64 0]) ∧ w' = w.alloc (jn b f n)) := j_placed h hx
  have H1 : Hid (Hj ((w.heap.size, jn b f n) :: S) w0 (w.alloc (jn b f n)) b M) := h1
  have a1 := assert69_some
  clear h h1 hl hlk
  go_enter Try.func19, Try.ntmps19
  go_wp2_with (first
    | (go_at_call 34; refine Calls.mono HP.out ?_; rintro e w' ⟨rfl, rfl⟩)
    | (go_at_call 39; refine Calls.mono HL.out ?_; rintro e w2 ⟨rfl, h2⟩; have HK : Hid (Kept [] (w.alloc (jn b f n)) w2) := h2; clear h2))
  go_ret2
  exact ⟨_, rfl, rfl, H1.out.still (HK.out.alloc _), ((Kept.refl [] w).alloc (jn b f n)).trans (HK.out.alloc _) (by simp)⟩

theorem j_open_none {S : List (Nat × Obj)} {w0 w : World} {b : Nat} {M : Pm} (h : Hj S w0 w b M) {f n : Nat} (hx : Fits M.seen f n) (hr : Rng M.seen) (hl : lookOf M.seen f n = none) :
    Calls Try.prog 19 #[.pointer (some ⟨b, 0, none⟩), .int .i64 (f : Int), .int .i64 (n : Int)] w fun e w' => e = .returned (.tuple #[.pointer none, .int .i64 2102]) ∧ Hj S w0 w' b M ∧ Kept [] w w' := by
  have h1 := h.make (jn b f n)
  have hlk := j_look h1 (f := f) (n := n) (j := w.heap.size) (by simp) hx hr
  rw [hl] at hlk
  have HL : Hid (Calls Try.prog 39 #[.pointer (some ⟨w.heap.size, 0, none⟩)] (w.alloc (jn b f n)) fun e w' => e = .returned (.iface 99 (.agg #[])) ∧ Kept [] (w.alloc (jn b f n)) w') := hlk
  have HP : Hid (Calls Try.prog 34 #[.pointer (some ⟨b, 0, none⟩), .int .i64 (f : Int), .int .i64 (n : Int)] w fun e w' => e = .returned (.tuple #[.pointer (some ⟨w.heap.size, 0, none⟩), .int .i64 0]) ∧ w' = w.alloc (jn b f n)) := j_placed h hx
  have H1 : Hid (Hj S w0 w b M) := h
  have a1 := assert69_none
  clear h h1 hl hlk
  go_enter Try.func19, Try.ntmps19
  go_wp2_with (first
    | (go_at_call 34; refine Calls.mono HP.out ?_; rintro e w' ⟨rfl, rfl⟩)
    | (go_at_call 39; refine Calls.mono HL.out ?_; rintro e w2 ⟨rfl, h2⟩; have HK : Hid (Kept [] (w.alloc (jn b f n)) w2) := h2; clear h2))
  go_ret2
  have hk := ((Kept.refl [] w).alloc (jn b f n)).trans (HK.out.alloc (.cells #[.string ⟨#[]⟩] 69)) (by simp)
  exact ⟨rfl, H1.out.still hk, hk⟩

theorem j_write {S : List (Nat × Obj)} {w0 w : World} {b j : Nat} {M : Pm} (h : Hj S w0 w b M) {f n : Nat} (hj : (j, jn b f n) ∈ S) (hx : Fits M.seen f n) (s : ByteArray) (hs : s.size ≤ roomOf n)
    (hs0 : 0 ≤ M.steps) (hs1 : M.steps < 700000000) (ht0 : 0 ≤ M.stores) (ht1 : M.stores < 700000000) :
    Calls Try.prog 20 #[.pointer (some ⟨j, 0, none⟩), .string s] w fun e w' => e = .returned (.int .i64 0) ∧ Hj S w0 w' b (M.run (replOps M.seen f n s)) := by
  have hlo := hx.lo; have hhi := hx.hi; have htop := hx.top
  have HR : Hid (Calls Try.prog 35 #[.pointer (some ⟨j, 0, none⟩), .string s] w fun e w' => e = .returned (.tuple #[]) ∧ Hj S w0 w' b (M.run (replOps M.seen f n s))) := j_replace h hj hx s hs hs0 hs1 ht0 ht1
  have HM : Hid (Calls Try.prog 40 #[.pointer (some ⟨j, 0, none⟩)] w fun e w' => e = .returned (.int .i64 ((roomOf n : Nat) : Int)) ∧ w = w') := j_room (h.at hj) hlo (by omega)
  generalize roomOf n = room at *
  have d1 : decide (((room : Nat) : Int) < (s.size : Int)) = false := by simp; omega
  have i1 : ¬ ((room : Nat) : Int) < (s.size : Int) := by omega
  clear h hx hs hs0 hs1 ht0 ht1
  go_enter Try.func20, Try.ntmps20
  go_wp2_with (first
    | (go_at_call 40; refine Calls.mono HM.out ?_; rintro e w' ⟨rfl, rfl⟩)
    | (go_at_call 35; refine Calls.mono HR.out ?_; rintro e w2 ⟨rfl, h2⟩; have H2 : Hid (Hj _ w0 w2 b _) := h2; clear h2))
  go_ret
  exact ⟨rfl, H2.out⟩

theorem j_write_full {S : List (Nat × Obj)} {w0 w : World} {b j : Nat} {M : Pm} (h : Hj S w0 w b M) {f n : Nat} (hj : (j, jn b f n) ∈ S) (hx : Fits M.seen f n) (s : ByteArray) (hs : roomOf n < s.size) :
    Calls Try.prog 20 #[.pointer (some ⟨j, 0, none⟩), .string s] w fun e w' => e = .returned (.int .i64 2101) ∧ w' = w := by
  have hlo := hx.lo; have hhi := hx.hi; have htop := hx.top
  have HM : Hid (Calls Try.prog 40 #[.pointer (some ⟨j, 0, none⟩)] w fun e w' => e = .returned (.int .i64 ((roomOf n : Nat) : Int)) ∧ w = w') := j_room (h.at hj) hlo (by omega)
  generalize roomOf n = room at *
  have d1 : decide (((room : Nat) : Int) < (s.size : Int)) = true := by simp; omega
  have i1 : ((room : Nat) : Int) < (s.size : Int) := by omega
  clear h hx hs
  go_enter Try.func20, Try.ntmps20
  go_wp2_with (first
    | (go_at_call 40; refine Calls.mono HM.out ?_; rintro e w' ⟨rfl, rfl⟩))
  go_ret
  exact ⟨rfl, rfl⟩

theorem j_read {S : List (Nat × Obj)} {w0 w : World} {b j : Nat} {M : Pm} (h : Hj S w0 w b M) {f n : Nat} (hj : (j, jn b f n) ∈ S) (hx : Fits M.seen f n) (hr : Rng M.seen) {t : ByteArray} (hl : lookOf M.seen f n = some t) :
    Calls Try.prog 22 #[.pointer (some ⟨j, 0, none⟩)] w fun e w' => e = .returned (.string t) ∧ Kept [] w w' := by
  have hlk := j_look h hj hx hr
  rw [hl] at hlk
  have HL : Hid (Calls Try.prog 39 #[.pointer (some ⟨j, 0, none⟩)] w fun e w' => e = .returned (.iface 69 (.agg #[.string t])) ∧ Kept [] w w') := hlk
  have a1 := assert69_some
  clear h hlk hl
  go_enter Try.func22, Try.ntmps22
  go_wp2_with (first
    | (go_at_call 39; refine Calls.mono HL.out ?_; rintro e w2 ⟨rfl, h2⟩; have HK : Hid (Kept [] w w2) := h2; clear h2))
  go_ret
  exact ⟨rfl, HK.out.alloc _⟩

end Go.Proofs.Ytpaefllhngbimaa
