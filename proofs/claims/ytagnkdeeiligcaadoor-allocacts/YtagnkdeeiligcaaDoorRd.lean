/-
  What a share's calls do to the arena: read, store, taken, begins, load, missing.
-/
import Derived.Test.YtagnkdeeiligcaaDoorTz
namespace Go.Proofs.YtagnkdeeiligcaaDoor
open Go.RowKit

/-- Core c's accesses have grown by at most m, all from lo on and ahead of hi; the others' are as they were. -/
structure Tr (c lo hi m : Nat) (A A' : Ar) : Prop where
  cores : A'.traces.length = A.traces.length
  words : A'.words.length = A.words.length
  other : ∀ d, d ≠ c → A'.traces.getD d [] = A.traces.getD d []
  mine : ∃ l, A'.traces.getD c [] = A.traces.getD c [] ++ l ∧ l.length ≤ m ∧ ∀ e ∈ l, (lo : Int) ≤ e.1 ∧ e.1 < (hi : Int)

theorem Tr.refl (c lo hi m : Nat) (A : Ar) : Tr c lo hi m A A := ⟨rfl, rfl, fun _ _ => rfl, [], by simp⟩

theorem Tr.trans {c lo hi m k : Nat} {A B C : Ar} (h : Tr c lo hi m A B) (g : Tr c lo hi k B C) : Tr c lo hi (m + k) A C := by
  obtain ⟨l, e1, e2, e3⟩ := h.mine
  obtain ⟨l', f1, f2, f3⟩ := g.mine
  refine ⟨g.cores.trans h.cores, g.words.trans h.words, fun d hd => (g.other d hd).trans (h.other d hd), l ++ l', ?_, ?_, ?_⟩
  · rw [f1, e1, List.append_assoc]
  · rw [List.length_append]; omega
  · intro e he
    rcases List.mem_append.1 he with h1 | h1
    · exact e3 e h1
    · exact f3 e h1

theorem Tr.mono {c lo hi m k : Nat} {A B : Ar} (h : Tr c lo hi m A B) (hk : m ≤ k) : Tr c lo hi k A B := by
  obtain ⟨l, e1, e2, e3⟩ := h.mine
  exact ⟨h.cores, h.words, h.other, l, e1, by omega, e3⟩

theorem Tr.touch {c lo hi k : Nat} {A : Ar} (hc : c < A.traces.length) (h1 : lo ≤ k) (h2 : k < hi) (ch : Option Int) : Tr c lo hi 1 A (A.touch c k ch) where
  cores := touch_cores _ _ _ _
  words := by cases ch <;> simp [touch_words, touch_words0]
  other := fun d hd => by rw [touch_trace _ _ _ _ _ hc, if_neg hd]
  mine := ⟨[((k : Int), ch.isSome)], by rw [touch_trace _ _ _ _ _ hc, if_pos rfl], by simp, fun e he => by
    simp at he; subst he; simp; omega⟩

/-- From one state to another by core c's accesses. -/
structure Run (c lo hi m : Nat) (w : World) (p : Ap) (A : Ar) (w' : World) (p' : Ap) (A' : Ar) : Prop where
  to : ATo [] w p w' p'
  is : ArIs 56 w' p' A'
  tr : Tr c lo hi m A A'

theorem Run.refl {c lo hi m : Nat} {w : World} {p : Ap} {A : Ar} (h : ArIs 56 w p A) : Run c lo hi m w p A w p A := ⟨ATo.still (Kept.refl _ _), h, Tr.refl _ _ _ _ _⟩

theorem Run.trans {c lo hi m k : Nat} {w w1 w2 : World} {p p1 p2 : Ap} {A A1 A2 : Ar} (h : Run c lo hi m w p A w1 p1 A1) (g : Run c lo hi k w1 p1 A1 w2 p2 A2) : Run c lo hi (m + k) w p A w2 p2 A2 :=
  ⟨h.to.trans g.to, g.is, h.tr.trans g.tr⟩

theorem Run.mono {c lo hi m k : Nat} {w w1 : World} {p p1 : Ap} {A A1 : Ar} (h : Run c lo hi m w p A w1 p1 A1) (hk : m ≤ k) : Run c lo hi k w p A w1 p1 A1 := ⟨h.to, h.is, h.tr.mono hk⟩

theorem Run.pre {c lo hi m : Nat} {w w1 w2 : World} {p p2 : Ap} {A A2 : Ar} (hk : Kept [] w w1) (h : Run c lo hi m w1 p A w2 p2 A2) : Run c lo hi m w p A w2 p2 A2 := ⟨ATo.fresh hk h.to (by simp), h.is, h.tr⟩

theorem Run.post {c lo hi m : Nat} {w w1 w2 : World} {p p1 : Ap} {A A1 : Ar} (h : Run c lo hi m w p A w1 p1 A1) (hk : Kept [] w1 w2) : Run c lo hi m w p A w2 p1 A1 :=
  ⟨h.to.trans (ATo.still hk), h.is.kept0 hk, h.tr⟩

/-- A share lies in an arena; so many accesses more may be noted. -/
structure In (w : World) (p : Ap) (A : Ar) (b c a n q : Nat) : Prop where
  is : ArIs 56 w p A
  hb : p.b = b
  core : c < A.traces.length
  within : a + n ≤ A.words.length
  fits : Fits a n
  quota : (A.traces.getD c []).length + q < 1000000

theorem In.next {w w' : World} {p p' : Ap} {A A' : Ar} {b c a n q m : Nat} (h : In w p A b c a n q) (r : Run c a (a + n) m w p A w' p' A') (q' : Nat) (hm : q' + m ≤ q) : In w' p' A' b c a n q' where
  is := r.is
  hb := r.to.b.trans h.hb
  core := by rw [r.tr.cores]; exact h.core
  within := by rw [r.tr.words]; exact h.within
  fits := h.fits
  quota := by
    obtain ⟨l, e1, e2, _⟩ := r.tr.mine
    have := h.quota
    rw [e1, List.length_append]
    omega

theorem In.kept {w w' : World} {p : Ap} {A : Ar} {b c a n q : Nat} (h : In w p A b c a n q) (k : Kept [] w w') : In w' p A b c a n q := ⟨h.is.kept0 k, h.hb, h.core, h.within, h.fits, h.quota⟩

/-- A box that is no part of the arena. -/
def Bx (B b c a n : Nat) (w : World) (p : Ap) : Prop := Box B b c a n w ∧ B ∉ p.blocks

theorem Bx.run {B b c a n c' lo hi m : Nat} {w w' : World} {p p' : Ap} {A A' : Ar} (h : Bx B b c a n w p) (r : Run c' lo hi m w p A w' p' A') : Bx B b c a n w' p' := by
  refine ⟨h.1.kept r.to.kept (by simpa using h.2), fun hm => ?_⟩
  rcases r.to.new B hm with h1 | h1
  · exact h.2 h1
  · have h2 : B < w.heap.size := block_lt_of_cell h.1.1
    omega

theorem Bx.kept {B b c a n : Nat} {w w' : World} {p : Ap} (h : Bx B b c a n w p) (k : Kept [] w w') : Bx B b c a n w' p := ⟨h.1.kept0 k, h.2⟩

theorem Bx.new {w : World} {p : Ap} {A : Ar} (h : ArIs 56 w p A) (b c a n : Nat) : Bx w.heap.size b c a n (w.alloc (.cells #[.pointer (some ⟨b, 0, none⟩), .int .i64 (c : Int), .int .i64 (a : Int), .int .i64 (n : Int)] 61)) p :=
  ⟨Box.new w b c a n, fun hm => by have := h.blocks_lt _ hm; omega⟩

theorem box_kept (w : World) (b c a n : Nat) : Kept [] w (w.alloc (.cells #[.pointer (some ⟨b, 0, none⟩), .int .i64 (c : Int), .int .i64 (a : Int), .int .i64 (n : Int)] 61)) := (Kept.refl _ _).alloc _

set_option maxHeartbeats 1000000 in
theorem read_any {w : World} {p : Ap} {A : Ar} {b c a n q : Nat} (h : In w p A b c a n q) (hq : 1 ≤ q) (k : Nat) (h1 : a ≤ k) (h2 : k < a + n) :
    Calls Tryd.prog 49 #[shv b c a n, .int .i64 (k : Int)] w fun e w' => e = .returned (.int .i64 (wordAt A.words k)) ∧ ∃ p' A', Run c a (a + n) 1 w p A w' p' A' ∧ A'.words = A.words := by
  have hK := box_kept w b c a n
  have HI := h.kept hK
  have HX : Hid (_ ∧ _) := ⟨hK, HI⟩
  have hbe := h.hb
  clear hK HI h
  subst hbe
  go_enter Tryd.func49, Tryd.ntmps49
  go_wp2_with fail
  obtain ⟨hK, HI⟩ := HX.out
  refine (load_yes HI.is c k HI.core (by have := HI.within; omega) (by have := HI.quota; omega)).mono ?_
  rintro e w' ⟨rfl, p', hto, ha⟩
  have HY : Hid (Run c a (a + n) 1 w p A w' p' (A.touch c k none)) := Run.pre hK ⟨hto, ha, Tr.touch HI.core h1 h2 none⟩
  clear hK HI hto ha HX
  go_wp2
  go_ret
  exact ⟨rfl, p', _, HY.out, rfl⟩

set_option maxHeartbeats 1000000 in
theorem put_any {w : World} {p : Ap} {A : Ar} {b c a n q : Nat} (h : In w p A b c a n q) (hq : 1 ≤ q) (k : Nat) (v : Int) (h1 : a ≤ k) (h2 : k < a + n) :
    Calls Tryd.prog 34 #[shv b c a n, .int .i64 (k : Int), .int .i64 v] w fun e w' => e = .returned (.tuple #[]) ∧ ∃ p' A', Run c a (a + n) 1 w p A w' p' A' ∧ A'.words = A.words.set k v := by
  have hK := box_kept w b c a n
  have HI := h.kept hK
  have HX : Hid (_ ∧ _) := ⟨hK, HI⟩
  have hbe := h.hb
  clear hK HI h
  subst hbe
  go_enter Tryd.func34, Tryd.ntmps34
  go_wp2_with fail
  obtain ⟨hK, HI⟩ := HX.out
  refine (store_yes HI.is c k v HI.core (by have := HI.within; omega) (by have := HI.quota; omega)).mono ?_
  rintro e w' ⟨rfl, p', hto, ha⟩
  have HY : Hid (Run c a (a + n) 1 w p A w' p' (A.touch c k (some v))) := Run.pre hK ⟨hto, ha, Tr.touch HI.core h1 h2 _⟩
  clear hK HI hto ha HX
  go_wp2
  go_end0
  exact ⟨rfl, p', _, HY.out, rfl⟩

theorem gro_lt {n : Nat} (h : 64 ≤ n) : 2 * gro n + 2 ≤ n ∧ 1 ≤ gro n := by unfold gro; omega

set_option maxHeartbeats 1000000 in
theorem taken_any {w : World} {p : Ap} {A : Ar} {b c a n q : Nat} (h : In w p A b c a n q) (hq : 1 ≤ q) (i T : Nat) (hi : i < gro n) (hT : T < 4294967296) (hw : wordAt A.words (a + 1 + 2 * i) = (T : Int)) :
    Calls Tryd.prog 39 #[shv b c a n, .int .i64 (i : Int)] w fun e w' => e = .returned (.int .u32 (T : Int)) ∧ ∃ p' A', Run c a (a + n) 1 w p A w' p' A' ∧ A'.words = A.words := by
  have hK := (box_kept w b c a n).drew
  have HI := h.kept hK
  have hB := (Bx.new h.is b c a n).kept (Kept.refl _ _).drew
  have HX : Hid (_ ∧ _ ∧ _) := ⟨hK, HI, hB⟩
  have hf := h.fits
  have HW : Hid (_) := hw
  have hg := gro_le hf.hi
  have hg2 := gro_lt hf.lo
  clear hK HI h hB hw
  go_enter Tryd.func39, Tryd.ntmps39
  go_wp2
  go_region_held3 (fun w' => w'.cell? ⟨w.heap.size, 0, none⟩ = some (.pointer (some ⟨b, 0, none⟩)) ∧ w'.cell? ⟨w.heap.size, 1, none⟩ = some (.int .i64 (c : Int)) ∧ w'.cell? ⟨w.heap.size, 2, none⟩ = some (.int .i64 (a : Int)) ∧ w'.cell? ⟨w.heap.size, 3, none⟩ = some (.int .i64 (n : Int))) (first | exact HX.out.2.2.1 | exact z1 | exact z2.1 | go_keep)
    (first
      | (go_at_call 52; refine (takenAt_any _ b c a n i hf (by omega)).mono ?_; rintro e w1 ⟨rfl, hk1⟩; have z1 := HX.out.2.2.1.kept0 hk1)
      | (go_at_call 49; refine (read_any (HX.out.2.1.kept hk1) hq (a + 1 + 2 * i) (by omega) (by omega)).mono ?_; rintro e w2 ⟨rfl, p2, A2, hr2, hw2⟩; rw [HW.out]; have z2 := (HX.out.2.2.kept hk1).run hr2))
  go_wp2
  go_ret
  exact ⟨ret_int (by rw [IntKind.wrap_u32]; omega), p2, A2, Run.pre (HX.out.1.trans hk1 (by simp)) hr2, hw2⟩

set_option maxHeartbeats 1000000 in
theorem begins_any {w : World} {p : Ap} {A : Ar} {b c a n q : Nat} (h : In w p A b c a n q) (hq : 1 ≤ q) (i T : Nat) (hi : i < gro n) (hT : T < 4294967296) (hw : wordAt A.words (a + 2 + 2 * i) = (T : Int)) :
    Calls Tryd.prog 47 #[shv b c a n, .int .i64 (i : Int)] w fun e w' => e = .returned (.int .u32 (T : Int)) ∧ ∃ p' A', Run c a (a + n) 1 w p A w' p' A' ∧ A'.words = A.words := by
  have hK := (box_kept w b c a n).drew
  have HI := h.kept hK
  have hB := (Bx.new h.is b c a n).kept (Kept.refl _ _).drew
  have HX : Hid (_ ∧ _ ∧ _) := ⟨hK, HI, hB⟩
  have hf := h.fits
  have HW : Hid (_) := hw
  have hg := gro_le hf.hi
  have hg2 := gro_lt hf.lo
  clear hK HI h hB hw
  go_enter Tryd.func47, Tryd.ntmps47
  go_wp2
  go_region_held3 (fun w' => w'.cell? ⟨w.heap.size, 0, none⟩ = some (.pointer (some ⟨b, 0, none⟩)) ∧ w'.cell? ⟨w.heap.size, 1, none⟩ = some (.int .i64 (c : Int)) ∧ w'.cell? ⟨w.heap.size, 2, none⟩ = some (.int .i64 (a : Int)) ∧ w'.cell? ⟨w.heap.size, 3, none⟩ = some (.int .i64 (n : Int))) (first | exact HX.out.2.2.1 | exact z1 | exact z2.1 | go_keep)
    (first
      | (go_at_call 53; refine (beginsAt_any _ b c a n i hf (by omega)).mono ?_; rintro e w1 ⟨rfl, hk1⟩; have z1 := HX.out.2.2.1.kept0 hk1)
      | (go_at_call 49; refine (read_any (HX.out.2.1.kept hk1) hq (a + 2 + 2 * i) (by omega) (by omega)).mono ?_; rintro e w2 ⟨rfl, p2, A2, hr2, hw2⟩; rw [HW.out]; have z2 := (HX.out.2.2.kept hk1).run hr2))
  go_wp2
  go_ret
  exact ⟨ret_int (by rw [IntKind.wrap_u32]; omega), p2, A2, Run.pre (HX.out.1.trans hk1 (by simp)) hr2, hw2⟩

set_option maxHeartbeats 1000000 in
theorem load_any {w : World} {p : Ap} {A : Ar} {b c a n q : Nat} (h : In w p A b c a n q) (hq : 1 ≤ q) (L : Nat) (hL : L ≤ n / 4) (hw : wordAt A.words a = (L : Int)) :
    Calls Tryd.prog 35 #[shv b c a n] w fun e w' => e = .returned (.int .i64 (L : Int)) ∧ ∃ p' A', Run c a (a + n) 1 w p A w' p' A' ∧ A'.words = A.words := by
  have hK := (box_kept w b c a n).drew
  have HI := h.kept hK
  have hB := (Bx.new h.is b c a n).kept (Kept.refl _ _).drew
  have HX : Hid (_ ∧ _ ∧ _) := ⟨hK, HI, hB⟩
  have hf := h.fits
  have hn0 := hf.lo
  have HW : Hid (_) := hw
  clear hK HI h hB hw
  go_enter Tryd.func35, Tryd.ntmps35
  go_wp2
  go_region_held3 (fun w' => w'.cell? ⟨w.heap.size, 0, none⟩ = some (.pointer (some ⟨b, 0, none⟩)) ∧ w'.cell? ⟨w.heap.size, 1, none⟩ = some (.int .i64 (c : Int)) ∧ w'.cell? ⟨w.heap.size, 2, none⟩ = some (.int .i64 (a : Int)) ∧ w'.cell? ⟨w.heap.size, 3, none⟩ = some (.int .i64 (n : Int))) (first | exact HX.out.2.2.1 | exact z1.1 | exact z2 | go_keep)
    (first
      | (go_at_call 49; refine (read_any HX.out.2.1 hq a (by omega) (by omega)).mono ?_; rintro e w1 ⟨rfl, p1, A1, hr1, hw1⟩; rw [HW.out]; have z1 := HX.out.2.2.run hr1)
      | (go_at_call 36; refine (most_any _ b c a n hf).mono ?_; rintro e w2 ⟨rfl, hk2⟩; have z2 := z1.1.kept0 hk2))
  go_wp2
  all_goals
    go_ret
    exact ⟨ret_int (by omega), p1, A1, (Run.pre HX.out.1 hr1).post hk2, hw1⟩

theorem ons_lt {n : Nat} (h : n ≤ 32) : ons n < 4294967296 := by
  have := pow_le32 h
  unfold ons; omega

theorem xor_all (x : Nat) (h : x < 4294967296) : 4294967295 ^^^ x = 4294967295 - x := by
  have e1 : 4294967295 - x = 2 ^ 32 - (x + 1) := by omega
  rw [e1, show 4294967295 = 2 ^ 32 - 1 from by decide]
  apply Nat.eq_of_testBit_eq
  intro j
  rw [Nat.testBit_xor, Nat.testBit_two_pow_sub_one, Nat.testBit_two_pow_sub_succ (by omega)]
  by_cases hj : j < 32
  · simp [hj]
  · have : x.testBit j = false := Nat.testBit_lt_two_pow (Nat.lt_of_lt_of_le h (Nat.pow_le_pow_right (n := 2) (i := 32) (by omega) (by omega)))
    simp [hj, this]

theorem not32 (x : Nat) (h : x < 4294967296) : bits .xor .u32 IntKind.u32.max (x : Int) = ((4294967295 - x : Nat) : Int) := by
  have e : IntKind.u32.max = ((4294967295 : Nat) : Int) := by decide
  rw [e, u32_xor_nat _ _ (by omega) h, xor_all x h]

/-- The bits behind the heap's end. -/
def miss (n i : Nat) : Nat := 4294967295 - ons (min (room n - 32 * i) 32)

theorem room_last {n i : Nat} (h : 64 ≤ n) (hi : i < gro n) : 32 * i + 1 ≤ room n := by
  unfold room gro at *; omega

set_option maxHeartbeats 1000000 in
theorem missing_any (w : World) (b c a n : Nat) (h : Fits a n) (i : Nat) (hi : i < gro n) :
    Calls Tryd.prog 40 #[shv b c a n, .int .i64 (i : Int)] w fun e w' => e = .returned (.int .u32 ((miss n i : Nat) : Int)) ∧ Kept [] w w' := by
  have hB := (Box.new w b c a n).kept0 (Kept.refl _ _).drew
  have HX : Hid (_ ∧ _) := ⟨(box_kept w b c a n).drew, hB⟩
  have hg := gro_le h.hi
  have hl := room_last h.lo hi
  have h1 := h.lo
  have h2 := h.hi
  have h3 := h.at_
  have hh : heap a n ≤ 101061 := by unfold heap; omega
  have hr : room n ≤ 960 := by unfold room; omega
  clear hB
  go_enter Tryd.func40, Tryd.ntmps40
  go_wp2
  go_region_held3 (fun w' => w'.cell? ⟨w.heap.size, 0, none⟩ = some (.pointer (some ⟨b, 0, none⟩)) ∧ w'.cell? ⟨w.heap.size, 1, none⟩ = some (.int .i64 (c : Int)) ∧ w'.cell? ⟨w.heap.size, 2, none⟩ = some (.int .i64 (a : Int)) ∧ w'.cell? ⟨w.heap.size, 3, none⟩ = some (.int .i64 (n : Int))) (first | exact HX.out.2 | exact z1 | exact z2 | go_keep)
    (first
      | (go_at_call 46; refine (end_any _ b c a n h).mono ?_; rintro e w1 ⟨rfl, hk1⟩; have z1 := HX.out.2.kept0 hk1)
      | (go_at_call 33; refine (heap_any _ b c a n h).mono ?_; rintro e w2 ⟨rfl, hk2⟩; have z2 := z1.kept0 hk2))
  have eH : IntKind.i64.wrap (IntKind.i64.wrap (((heap a n : Nat) : Int) + ((room n : Nat) : Int) - ((heap a n : Nat) : Int)) - IntKind.i64.wrap ((i : Int) * 32)) = ((room n - 32 * i : Nat) : Int) := by
    simp only [IntKind.wrap_i64]; omega
  rw [eH]
  have hK := (HX.out.1.trans hk1 (by simp)).trans hk2 (by simp)
  have hm : miss n i = 4294967295 - ons (min (room n - 32 * i) 32) := rfl
  have HM : Hid (_ ∧ _) := ⟨hm, hK⟩
  clear hm hK eH HX hk1 hk2 z1 z2
  have hH : room n - 32 * i ≤ 960 := by omega
  generalize room n - 32 * i = H at *
  by_cases h32 : 32 < H
  · have d1 : 32 < (H : Int) := by omega
    go_wp2_with (first
      | (go_at_call 51; refine (ones_any _ 32 (by omega)).mono ?_; rintro e w3 ⟨rfl, hw3⟩; subst hw3))
    go_ret
    exact ⟨ret_int (by rw [HM.out.1, show min H 32 = 32 from by omega]; exact not32 _ (ons_lt (by omega))), HM.out.2⟩
  · have d1 : ¬ 32 < (H : Int) := by omega
    go_wp2_with (first
      | (go_at_call 51; refine (ones_any _ H (by omega)).mono ?_; rintro e w3 ⟨rfl, hw3⟩; subst hw3))
    go_ret
    exact ⟨ret_int (by rw [HM.out.1, show min H 32 = H from by omega]; exact not32 _ (ons_lt (by omega))), HM.out.2⟩

end Go.Proofs.YtagnkdeeiligcaaDoor
