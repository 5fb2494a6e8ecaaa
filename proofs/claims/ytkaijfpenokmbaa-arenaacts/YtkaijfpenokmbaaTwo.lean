/-
  The arena and the reference side by side: Two; traces.
-/
import Derived.Test.YtkaijfpenokmbaaSpoil
namespace Go.Proofs.Ytkaijfpenokmbaa
open Go.RowKit

/-- A block of the caller's own, as it is. -/
def Boxed (w : World) (p q : Ap) : Option (Nat × Obj) → Prop
  | none => True
  | some (B, o) => B ∉ p.blocks ∧ B ∉ q.blocks ∧ w.heap[B]? = some o

def Two (w0 w : World) (b c : Nat) (A R : Ar) (ob : Option (Nat × Obj)) : Prop := Kept [] w0 w ∧ ∃ p q, p.b = b ∧ q.b = c ∧ (∀ k ∈ p.blocks, w0.heap.size ≤ k) ∧ (∀ k ∈ q.blocks, w0.heap.size ≤ k) ∧ (∀ k ∈ p.blocks, k ∉ q.blocks) ∧ ArIs 61 w p A ∧ ArIs 63 w q R ∧ Boxed w p q ob

theorem Boxed.still {w w' : World} {p q : Ap} {ob : Option (Nat × Obj)} (h : Boxed w p q ob) (hk : Kept [] w w') : Boxed w' p q ob := by
  match ob, h with
  | none, _ => trivial
  | some (B, o), ⟨h1, h2, h3⟩ => exact ⟨h1, h2, by rw [hk.block B (lt_of_heap h3) (by simp)]; exact h3⟩

theorem Boxed.left {w w' : World} {p p' q : Ap} {ob : Option (Nat × Obj)} (h : Boxed w p q ob) (ht : ATo [] w p w' p') : Boxed w' p' q ob := by
  match ob, h with
  | none, _ => trivial
  | some (B, o), ⟨h1, h2, h3⟩ =>
    have hlt := lt_of_heap h3
    refine ⟨fun hm => ?_, h2, by rw [ht.kept.block B hlt (by simpa using h1)]; exact h3⟩
    rcases ht.new B hm with h4 | h4
    · exact h1 h4
    · omega

theorem Boxed.right {w w' : World} {p q q' : Ap} {ob : Option (Nat × Obj)} (h : Boxed w p q ob) (ht : ATo [] w q w' q') : Boxed w' p q' ob := by
  match ob, h with
  | none, _ => trivial
  | some (B, o), ⟨h1, h2, h3⟩ =>
    have hlt := lt_of_heap h3
    refine ⟨h1, fun hm => ?_, by rw [ht.kept.block B hlt (by simpa using h2)]; exact h3⟩
    rcases ht.new B hm with h4 | h4
    · exact h2 h4
    · omega

theorem Two.still {w0 w w' : World} {b c : Nat} {A R : Ar} {ob : Option (Nat × Obj)} (h : Two w0 w b c A R ob) (hk : Kept [] w w') : Two w0 w' b c A R ob := by
  obtain ⟨hK, p, q, h1, h2, h3, h4, h5, h6, h7, h8⟩ := h
  exact ⟨hK.trans hk (by simp), p, q, h1, h2, h3, h4, h5, h6.kept0 hk, h7.kept0 hk, h8.still hk⟩

theorem Two.unbox {w0 w : World} {b c : Nat} {A R : Ar} {ob : Option (Nat × Obj)} (h : Two w0 w b c A R ob) : Two w0 w b c A R none := by
  obtain ⟨hK, p, q, h1, h2, h3, h4, h5, h6, h7, h8⟩ := h
  exact ⟨hK, p, q, h1, h2, h3, h4, h5, h6, h7, trivial⟩

theorem Two.box {w0 w : World} {b c : Nat} {A R : Ar} {ob : Option (Nat × Obj)} (h : Two w0 w b c A R ob) (o : Obj) : Two w0 (w.alloc o) b c A R (some (w.heap.size, o)) := by
  have hk : Kept [] w (w.alloc o) := (Kept.refl _ _).alloc _
  obtain ⟨hK, p, q, h1, h2, h3, h4, h5, h6, h7, h8⟩ := h
  exact ⟨hK.trans hk (by simp), p, q, h1, h2, h3, h4, h5, h6.kept0 hk, h7.kept0 hk, fun hm => by have := h6.blocks_lt _ hm; omega, fun hm => by have := h7.blocks_lt _ hm; omega, heap_alloc_new _ _⟩

theorem Two.boxed {w0 w : World} {b c : Nat} {A R : Ar} {B : Nat} {o : Obj} (h : Two w0 w b c A R (some (B, o))) : w.heap[B]? = some o := by
  obtain ⟨hK, p, q, h1, h2, h3, h4, h5, h6, h7, h8⟩ := h
  exact h8.2.2

theorem Two.left {w0 w w' : World} {p p' q : Ap} {A' R : Ar} {ob : Option (Nat × Obj)} (hK : Kept [] w0 w) (h3 : ∀ k ∈ p.blocks, w0.heap.size ≤ k) (h4 : ∀ k ∈ q.blocks, w0.heap.size ≤ k) (h5 : ∀ k ∈ p.blocks, k ∉ q.blocks) (hq : ArIs 63 w q R) (h8 : Boxed w p q ob) (ht : ATo [] w p w' p') (ha : ArIs 61 w' p' A') : Two w0 w' p.b q.b A' R ob := by
  refine ⟨hK.trans ht.kept (fun x hx => Or.inr (h3 x (by simpa using hx))), p', q, ht.b, rfl, fun k hk => ?_, h4, fun k hk hk2 => ?_, ha, hq.kept ht.kept (fun k hk hk2 => h5 k (by simpa using hk2) hk), h8.left ht⟩
  · rcases ht.new k hk with h1 | h1
    · exact h3 k h1
    · exact Nat.le_trans hK.size h1
  · rcases ht.new k hk with h1 | h1
    · exact h5 k h1 hk2
    · have := hq.blocks_lt k hk2
      omega

theorem Two.right {w0 w w' : World} {p q q' : Ap} {A R' : Ar} {ob : Option (Nat × Obj)} (hK : Kept [] w0 w) (h3 : ∀ k ∈ p.blocks, w0.heap.size ≤ k) (h4 : ∀ k ∈ q.blocks, w0.heap.size ≤ k) (h5 : ∀ k ∈ p.blocks, k ∉ q.blocks) (hp : ArIs 61 w p A) (h8 : Boxed w p q ob) (ht : ATo [] w q w' q') (ha : ArIs 63 w' q' R') : Two w0 w' p.b q.b A R' ob := by
  refine ⟨hK.trans ht.kept (fun x hx => Or.inr (h4 x (by simpa using hx))), p, q', rfl, ht.b, h3, fun k hk => ?_, fun k hk hk2 => ?_, hp.kept ht.kept (fun k hk hk2 => h5 k hk (by simpa using hk2)), ha, h8.right ht⟩
  · rcases ht.new k hk with h1 | h1
    · exact h4 k h1
    · exact Nat.le_trans hK.size h1
  · rcases ht.new k hk2 with h1 | h1
    · exact h5 k hk h1
    · have := hp.blocks_lt k hk
      omega

theorem Two.start {w0 w w' : World} {p q : Ap} {A R : Ar} (hK : Kept [] w0 w) (hf : ∀ k ∈ p.blocks, w0.heap.size ≤ k) (hm : ArIs 61 w p A) (hk : Kept [] w w') (hg : ∀ k ∈ q.blocks, w.heap.size ≤ k) (hr : ArIs 63 w' q R) : Two w0 w' p.b q.b A R none :=
  ⟨hK.trans hk (by simp), p, q, rfl, rfl, hf, fun k h => Nat.le_trans hK.size (hg k h), fun k h h2 => by have h3 := hm.blocks_lt k h; have h4 := hg k h2; omega, hm.kept0 hk, hr, trivial⟩

/-- What the reference holds of a core. -/
theorem Two.ref {w0 w : World} {b c : Nat} {A R : Ar} {ob : Option (Nat × Obj)} (h : Two w0 w b c A R ob) : ∃ bt, w.cell? ⟨c, 1, none⟩ = some (.slice (some ⟨bt, 0, none⟩) R.traces.length R.traces.length) ∧ (∀ i, i < R.traces.length → ∃ v, w.cell? ⟨bt, i, none⟩ = some v ∧ Row w v (R.traces.getD i [])) := by
  obtain ⟨hK, p, q, rfl, rfl, h3, h4, h5, h6, h7, h8⟩ := h
  refine ⟨q.bt, h7.cell.2, fun i hi => ?_⟩
  obtain ⟨v, hv, hr⟩ := h7.row hi
  exact ⟨v, h7.slot hv, hr⟩

theorem t_trace {w0 w : World} {b c : Nat} {A R : Ar} {ob : Option (Nat × Obj)} (h : Two w0 w b c A R ob) (i : Nat) (hi : i < A.traces.length) (hn : (A.traces.getD i []).length < 1000000) :
    Calls Try.prog 23 #[.pointer (some ⟨b, 0, none⟩), .int .i64 (i : Int)] w fun e w' => ∃ u, e = .returned u ∧ Row w' u (A.traces.getD i []) ∧ (∀ k, u.ownBlock = some k → w.heap.size ≤ k) ∧ Kept [] w w' := by
  obtain ⟨hK, p, q, rfl, rfl, h3, h4, h5, h6, h7, h8⟩ := h
  exact trace_yes h6 i hi hn

theorem t_trace_no {w0 w : World} {b c : Nat} {A R : Ar} {ob : Option (Nat × Obj)} (h : Two w0 w b c A R ob) (i : Int) (hi : i < 0 ∨ (A.traces.length : Int) ≤ i) :
    Calls Try.prog 23 #[.pointer (some ⟨b, 0, none⟩), .int .i64 i] w fun e w' => e = .returned (.slice none 0 0) ∧ w' = w := by
  obtain ⟨hK, p, q, rfl, rfl, h3, h4, h5, h6, h7, h8⟩ := h
  exact trace_no h6 i hi

theorem traces_no {w0 w : World} {b c : Nat} {A R : Ar} {ob : Option (Nat × Obj)} (h : Two w0 w b c A R ob) (hl : R.traces.length = A.traces.length) (i : Int) (hi : i < 0 ∨ (A.traces.length : Int) ≤ i) :
    Calls Try.prog 21 #[.pointer (some ⟨b, 0, none⟩), .pointer (some ⟨c, 0, none⟩), .int .i64 i] w fun e w' => e = .returned (.bool true) ∧ Two w0 w' b c A R ob := by
  obtain ⟨bt, x1, -⟩ := h.ref
  have HH : Hid (_) := h
  clear h
  by_cases h0 : i < 0
  · have d1 : decide (i < 0) = true := by simp; omega
    go_enter Try.func21, Try.ntmps21
    go_wp2_with fail
    refine (t_trace_no HH.out i hi).mono ?_
    rintro e w' ⟨rfl, rfl⟩
    go_wp2
    go_ret
    exact ⟨rfl, HH.out⟩
  · have d1 : decide (i < 0) = false := by simp; omega
    have i1 : ¬ i < (R.traces.length : Int) := by omega
    have d2 : decide ((R.traces.length : Int) ≤ i) = true := by simp; omega
    go_enter Try.func21, Try.ntmps21
    go_wp2_with fail
    refine (t_trace_no HH.out i hi).mono ?_
    rintro e w' ⟨rfl, rfl⟩
    go_wp2
    go_ret
    exact ⟨rfl, HH.out⟩

set_option maxHeartbeats 4000000 in
theorem traces_yes {w0 w : World} {b c : Nat} {A : Ar} {ob : Option (Nat × Obj)} (h : Two w0 w b c A A ob) (i : Nat) (hi : i < A.traces.length) (hn : (A.traces.getD i []).length < 1000000) :
    Calls Try.prog 21 #[.pointer (some ⟨b, 0, none⟩), .pointer (some ⟨c, 0, none⟩), .int .i64 (i : Int)] w fun e w' => e = .returned (.bool true) ∧ Two w0 w' b c A A ob := by
  have d1 : decide ((i : Int) < 0) = false := by simp
  have j0 : (0 : Int) ≤ (i : Int) := by omega
  have j1 : (i : Int) < (A.traces.length : Int) := by omega
  have d2 : decide ((A.traces.length : Int) ≤ (i : Int)) = false := by simp; omega
  go_enter Try.func21, Try.ntmps21
  go_wp2_with fail
  refine (t_trace h i hi hn).mono ?_
  rintro e w1 ⟨u, rfl, hu, hub, hk1⟩
  have h1 := h.still hk1
  obtain ⟨bt, x1, hx⟩ := h1.ref
  obtain ⟨v, x2, hv⟩ := hx i hi
  have HU : Hid (_ ∧ _ ∧ _ ∧ _) := ⟨hu, hub, h1, hv⟩
  have HL : Hid (_ ∧ _) := ⟨h, hk1⟩
  clear hu hub hk1 h1 hx hv h
  go_wp2_with fail
  refine (same_any hn HU.out.1 HU.out.2.2.2).mono ?_
  rintro e w2 ⟨rfl, hk2⟩
  go_wp2_with fail
  refine (spoil_any hn (HU.out.1.still hk2)).mono ?_
  rintro e w3 ⟨rfl, F, hF, hk3⟩
  have hFl : ∀ k ∈ F, w.heap.size ≤ k := fun k hk => HU.out.2.1 k (hF k hk)
  have hT := HL.out.1.still (((HL.out.2.trans hk2 (by simp)).trans hk3 (fun x hx => Or.inr (hFl x hx))).drew)
  obtain ⟨bt3, y1, hx⟩ := hT.ref
  obtain ⟨v3, y2, hv⟩ := hx i hi
  have HT : Hid (_ ∧ _ ∧ _ ∧ _) := ⟨hT, hv, y1, y2⟩
  clear HU HL hk2 hk3 hF hFl hT hv hx x1 x2
  have y1' : w3.cell? ⟨c, 1, none⟩ = some (.slice (some ⟨bt3, 0, none⟩) A.traces.length A.traces.length) := y1
  have y2' : w3.cell? ⟨bt3, i, none⟩ = some v3 := y2
  clear y1 y2
  go_wp2_with fail
  go_region_held3 (fun w' => w'.cell? ⟨c, 1, none⟩ = some (.slice (some ⟨bt3, 0, none⟩) A.traces.length A.traces.length) ∧ w'.cell? ⟨bt3, i, none⟩ = some v3)
    (first | exact z5 | exact z6 | go_keep)
    (first
      | (go_at_call 23; refine (t_trace HT.out.1 i hi hn).mono ?_; rintro e w5 ⟨u5, rfl, hu5, hub5, hk5⟩; have z5 := And.intro (hk5.cell HT.out.2.2.1 (by simp)) (hk5.cell HT.out.2.2.2 (by simp)))
      | (go_at_call 22; refine (same_any hn hu5 (HT.out.2.1.still hk5)).mono ?_; rintro e w6 ⟨rfl, hk6⟩; have z6 := And.intro (hk6.cell z5.1 (by simp)) (hk6.cell z5.2 (by simp))))
  go_wp2
  go_ret
  exact ⟨rfl, HT.out.1.still (hk5.trans hk6 (by simp))⟩

end Go.Proofs.Ytkaijfpenokmbaa
