/-
  One allocator beside other things in memory: what a call does not touch.
-/
import Derived.Test.YtagnkdeeiligcaaDoorFar
namespace Go.Proofs.YtagnkdeeiligcaaDoor
open Go.RowKit

/-- Blocks that are as they were. -/
def Same (D : List Nat) (w w' : World) : Prop := ∀ i ∈ D, w'.heap[i]? = w.heap[i]?

theorem Same.trans {D : List Nat} {a b c : World} (h : Same D a b) (k : Same D b c) : Same D a c := fun i hi => (k i hi).trans (h i hi)

/-- The state that a law holds, beside blocks that are no part of it. -/
structure StD (D : List Nat) (w0 w : World) (b x k f s : Nat) (A : Ar) (P : Nat → List Pc) (q : Nat) : Prop where
  st : St w0 w b x k f s A P q
  ex : ∃ p, p.b = b ∧ (∀ i ∈ p.blocks, w0.heap.size ≤ i ∧ i ≠ x) ∧ ArIs 56 w p A ∧ ∀ i ∈ D, i ∉ p.blocks
  lt : ∀ i ∈ D, i < w.heap.size

theorem StD.run {D : List Nat} {w0 w w' : World} {b x k f s : Nat} {A A' : Ar} {P : Nat → List Pc} {q : Nat} (h : StD D w0 w b x k f s A P q) {p p' : Ap} (hp : p.b = b) (hpb : ∀ i ∈ p.blocks, w0.heap.size ≤ i ∧ i ≠ x) (hD : ∀ i ∈ D, i ∉ p.blocks) {c m : Nat} (hc : c < k)
    (r : Run c (f + c * s) (f + c * s + s) m w p A w' p' A') (l : List Pc) (hl : Inv s (f + c * s) (wordAt A'.words) l) (ho : ∀ y, (y < f + c * s ∨ f + c * s + s ≤ y) → wordAt A'.words y = wordAt A.words y) (q' : Nat) (hq : q' + m ≤ q) :
    StD D w0 w' b x k f s A' (fun d => if d = c then l else P d) q' ∧ Same D w w' := by
  have hst := h.st.run hp hpb hc r l hl ho q' hq
  refine ⟨⟨hst, ⟨p', r.to.b.trans hp, fun i hi => ?_, r.is, fun i hi hm => ?_⟩, fun i hi => Nat.lt_of_lt_of_le (h.lt i hi) r.to.kept.size⟩, fun i hi => r.to.kept.block i (h.lt i hi) (by simpa using hD i hi)⟩
  · rcases r.to.new i hi with h1 | h1
    · exact hpb i h1
    · have h2 := h.st.kept.size
      have h3 := lt_of_heap h.st.al
      exact ⟨by omega, by omega⟩
  · rcases r.to.new i hm with h1 | h1
    · exact hD i hi h1
    · have := h.lt i hi; omega

theorem StD.still {D : List Nat} {w0 w : World} {b x k f s : Nat} {A : Ar} {P : Nat → List Pc} {q : Nat} (h : StD D w0 w b x k f s A P q) {w' : World} (hk : Kept [] w w') : StD D w0 w' b x k f s A P q ∧ Same D w w' := by
  obtain ⟨p, h1, h2, h3, h4⟩ := h.ex
  exact ⟨⟨h.st.still hk, ⟨p, h1, h2, h3.kept0 hk, h4⟩, fun i hi => Nat.lt_of_lt_of_le (h.lt i hi) hk.size⟩, fun i hi => hk.block i (h.lt i hi) (by simp)⟩

/-- New blocks beside it. -/
theorem StD.more {D : List Nat} {w0 w : World} {b x k f s : Nat} {A : Ar} {P : Nat → List Pc} {q : Nat} (h : StD D w0 w b x k f s A P q) {w' : World} (hk : Kept [] w w') (E : List Nat) (hE : ∀ i ∈ E, i ∈ D ∨ (w.heap.size ≤ i ∧ i < w'.heap.size)) : StD E w0 w' b x k f s A P q := by
  obtain ⟨p, h1, h2, h3, h4⟩ := h.ex
  refine ⟨h.st.still hk, ⟨p, h1, h2, h3.kept0 hk, fun i hi hm => ?_⟩, fun i hi => ?_⟩
  · rcases hE i hi with h5 | ⟨h5, _⟩
    · exact h4 i h5 hm
    · have := h3.blocks_lt i hm; omega
  · rcases hE i hi with h5 | ⟨_, h5⟩
    · exact Nat.lt_of_lt_of_le (h.lt i h5) hk.size
    · exact h5

/-- What lies beside it is turned. -/
theorem StD.change {D : List Nat} {w0 w : World} {b x k f s : Nat} {A : Ar} {P : Nat → List Pc} {q : Nat} (h : StD D w0 w b x k f s A P q) {w' : World} {F : List Nat} (hk : Kept F w w') (hF : ∀ i ∈ F, i ∈ D) (h0 : ∀ i ∈ F, w0.heap.size ≤ i ∧ i ≠ x) : StD D w0 w' b x k f s A P q := by
  obtain ⟨p, h1, h2, h3, h4⟩ := h.ex
  have ha : ArIs 56 w' p A := h3.kept hk (fun i hi hm => h4 i (hF i hm) hi)
  refine ⟨⟨h.st.kept.trans hk (fun i hi => Or.inr (h0 i hi).1), ⟨p, h1, h2, ha⟩, h.st.al.kept hk (fun hm => (h0 x hm).2 rfl), h.st.xlo, h.st.cores, h.st.words, h.st.slo, h.st.shi, h.st.inv, h.st.own, h.st.quota⟩, ⟨p, h1, h2, ha, h4⟩, fun i hi => Nat.lt_of_lt_of_le (h.lt i hi) hk.size⟩

theorem StD.pieces {D : List Nat} {w0 w : World} {b x k f s : Nat} {A : Ar} {P : Nat → List Pc} {q : Nat} (h : StD D w0 w b x k f s A P q) {P' : Nat → List Pc} (hP : ∀ c, c < k → P' c = P c) : StD D w0 w b x k f s A P' q := ⟨h.st.pieces hP, h.ex, h.lt⟩

theorem StD.less {D : List Nat} {w0 w : World} {b x k f s : Nat} {A : Ar} {P : Nat → List Pc} {q : Nat} (h : StD D w0 w b x k f s A P q) {q' : Nat} (hq : q' ≤ q) : StD D w0 w b x k f s A P q' := ⟨h.st.less hq, h.ex, h.lt⟩

theorem same_pieces (P : Nat → List Pc) (c : Nat) : ∀ d, P d = if d = c then P c else P d := fun d => by
  by_cases e : d = c
  · subst e; simp
  · simp [e]

theorem d_get {D : List Nat} {w0 w : World} {b x k f s : Nat} {A : Ar} {P : Nat → List Pc} {q : Nat} (h : StD D w0 w b x k f s A P q) {c : Nat} (hc : c < k) (q' : Nat) (hq : q' + 100 ≤ q) (z : Nat) (z0 : 1 ≤ z) (z1 : z ≤ 32) (hz : loads (P c) + z + 2 ≤ s / 4) :
    Calls Tryd.prog 11 #[.pointer (some ⟨x, 0, none⟩), .int .i64 (c : Int), .int .i64 (z : Int)] w fun e w' => ∃ pos A', e = .returned (.tuple #[.int .i64 ((heap (f + c * s) s + pos : Nat) : Int), .int .i64 0]) ∧
      StD D w0 w' b x k f s A' (fun d => if d = c then P c ++ [(pos, z)] else P d) q' ∧ Same D w w' ∧ pos + z ≤ room s ∧ ∀ y, heap (f + c * s) s + pos ≤ y → y < heap (f + c * s) s + pos + z → wordAt A'.words y = 0 := by
  obtain ⟨p, h1, h2, h3, h4⟩ := h.ex
  refine (Get_ok (h.st.share h1 h3 hc) h.st.al (by omega) (h.st.inv c hc) z z0 z1 hz).mono ?_
  rintro e w' ⟨pos, p', A', rfl, hr, hi, hp, hz0, hj⟩
  have hh := heap_room (a := f + c * s) h.st.slo
  obtain ⟨r1, r2⟩ := h.run h1 h2 h4 hc hr _ hi (fun y hy => hj y (by omega) (by omega)) q' hq
  exact ⟨pos, A', rfl, r1, r2, hp, hz0⟩

theorem d_full {D : List Nat} {w0 w : World} {b x k f s : Nat} {A : Ar} {P : Nat → List Pc} {q : Nat} (h : StD D w0 w b x k f s A P q) {c : Nat} (hc : c < k) (q' : Nat) (hq : q' + 100 ≤ q) (z : Nat) (z0 : 1 ≤ z) (z1 : z ≤ 32) (hz : s / 4 < loads (P c) + z + 2) :
    Calls Tryd.prog 11 #[.pointer (some ⟨x, 0, none⟩), .int .i64 (c : Int), .int .i64 (z : Int)] w fun e w' => e = .returned (.tuple #[.int .i64 0, .int .i64 401]) ∧ ∃ A', StD D w0 w' b x k f s A' P q' ∧ Same D w w' := by
  obtain ⟨p, h1, h2, h3, h4⟩ := h.ex
  refine (Get_full (h.st.share h1 h3 hc) h.st.al (by omega) (h.st.inv c hc) z z0 z1 hz).mono ?_
  rintro e w' ⟨rfl, p', A', hr, hw⟩
  obtain ⟨r1, r2⟩ := h.run h1 h2 h4 hc hr (P c) (by rw [hw]; exact h.st.inv c hc) (fun y _ => by rw [hw]) q' hq
  exact ⟨rfl, A', r1.pieces fun d _ => same_pieces P c d, r2⟩

/-- A size or a core that may not be. -/
theorem d_form {D : List Nat} {w0 w : World} {b x k f s : Nat} {A : Ar} {P : Nat → List Pc} {q : Nat} (h : StD D w0 w b x k f s A P q) (c z : Int) (hc : c < 0 ∨ (k : Int) ≤ c ∨ z < 1 ∨ 32 < z) :
    Calls Tryd.prog 11 #[.pointer (some ⟨x, 0, none⟩), .int .i64 c, .int .i64 z] w fun e w' => e = .returned (.tuple #[.int .i64 0, .int .i64 403]) ∧ StD D w0 w' b x k f s A P q ∧ Same D w w' := by
  obtain ⟨p, h1, h2, h3, h4⟩ := h.ex
  by_cases h5 : c < 0 ∨ (k : Int) ≤ c
  · refine (Get_core h3 (by rw [h1]; exact h.st.al) c z (by rw [h.st.cores]; exact h5)).mono ?_
    rintro e w' ⟨rfl, hk⟩
    exact ⟨rfl, h.still hk⟩
  · obtain ⟨n, rfl⟩ : ∃ n : Nat, c = (n : Int) := ⟨c.toNat, by omega⟩
    refine (Get_size (h.st.share h1 h3 (c := n) (by omega)) h.st.al z (by omega)).mono ?_
    rintro e w' ⟨rfl, hk⟩
    exact ⟨rfl, h.still hk⟩

/-- A Free of what is none. -/
theorem d_none {D : List Nat} {w0 w : World} {b x k f s : Nat} {A : Ar} {P : Nat → List Pc} {q : Nat} (h : StD D w0 w b x k f s A P q) (q' : Nat) (hq : q' + 100 ≤ q) (c t : Int) (hno : ∀ n : Nat, c = (n : Int) → n < k → ∀ pc ∈ P n, t ≠ ((heap (f + n * s) s + pc.1 : Nat) : Int)) :
    Calls Tryd.prog 16 #[.pointer (some ⟨x, 0, none⟩), .int .i64 c, .int .i64 t] w fun e w' => e = .returned (.int .i64 402) ∧ ∃ A', StD D w0 w' b x k f s A' P q' ∧ Same D w w' := by
  obtain ⟨p, h1, h2, h3, h4⟩ := h.ex
  by_cases h5 : c < 0 ∨ (k : Int) ≤ c
  · refine (Free_core h3 (by rw [h1]; exact h.st.al) c t (by rw [h.st.cores]; exact h5)).mono ?_
    rintro e w' ⟨rfl, hk⟩
    obtain ⟨r1, r2⟩ := h.still hk
    exact ⟨rfl, A, r1.less (by omega), r2⟩
  · obtain ⟨n, rfl⟩ : ∃ n : Nat, c = (n : Int) := ⟨c.toNat, by omega⟩
    have hc : n < k := by omega
    have hI := h.st.share h1 h3 hc
    by_cases ht : t < (heap (f + n * s) s : Int) ∨ ((heap (f + n * s) s + room s : Nat) : Int) ≤ t
    · refine (Free_by (R := fun w w' => Kept [] w w') hI h.st.al t 402 (fun w1 w2 k1 k2 => k1.trans k2 (by simp)) (fun w1 k1 => free_out (hI.kept k1) t ht)).mono ?_
      rintro e w' ⟨rfl, hk⟩
      obtain ⟨r1, r2⟩ := h.still hk
      exact ⟨rfl, A, r1.less (by omega), r2⟩
    · obtain ⟨y, rfl⟩ : ∃ y : Nat, t = ((heap (f + n * s) s + y : Nat) : Int) := ⟨(t - (heap (f + n * s) s : Int)).toNat, by omega⟩
      have hb : beg (P n) y = false := by
        rw [beg, List.any_eq_false]
        intro pc hp
        simp only [decide_eq_true_eq]
        intro e
        exact hno n rfl hc pc hp (by rw [e])
      refine (Free_by (R := fun w w' => ∃ p' A', Run n (f + n * s) (f + n * s + s) 100 w p A w' p' A' ∧ A'.words = A.words) hI h.st.al _ 402 (fun w1 w2 k1 ⟨p', A', r1, r2⟩ => ⟨p', A', Run.pre k1 r1, r2⟩) (fun w1 k1 => free_none (hI.kept k1) (by omega) (h.st.inv n hc) y (by omega) hb)).mono ?_
      rintro e w' ⟨rfl, p', A', hr, hw⟩
      obtain ⟨r1, r2⟩ := h.run h1 h2 h4 hc hr (P n) (by rw [hw]; exact h.st.inv n hc) (fun y _ => by rw [hw]) q' hq
      exact ⟨rfl, A', r1.pieces fun d _ => same_pieces P n d, r2⟩

theorem d_free {D : List Nat} {w0 w : World} {b x k f s : Nat} {A : Ar} {P : Nat → List Pc} {q : Nat} (h : StD D w0 w b x k f s A P q) (hT : Tab w0) {c : Nat} (hc : c < k) (q' : Nat) (hq : q' + 100 ≤ q) {l1 l2 : List Pc} {pc : Pc} (hP : P c = l1 ++ pc :: l2) :
    Calls Tryd.prog 16 #[.pointer (some ⟨x, 0, none⟩), .int .i64 (c : Int), .int .i64 ((heap (f + c * s) s + pc.1 : Nat) : Int)] w fun e w' => e = .returned (.int .i64 0) ∧ ∃ A', StD D w0 w' b x k f s A' (fun d => if d = c then l1 ++ l2 else P d) q' ∧ Same D w w' := by
  obtain ⟨p, h1, h2, h3, h4⟩ := h.ex
  have hI := h.st.share h1 h3 hc
  have hTw : Tab w := hT.kept h.st.kept (by simp)
  have h0 : 0 ∉ p.blocks := fun hm => by have := (h2 0 hm).1; have := hT.pos; omega
  have hinv := h.st.inv c hc
  rw [hP] at hinv
  refine (Free_by (R := fun w w' => ∃ p' A', Run c (f + c * s) (f + c * s + s) 100 w p A w' p' A' ∧ Inv s (f + c * s) (wordAt A'.words) (l1 ++ l2) ∧ ∀ y, (y < f + c * s ∨ heap (f + c * s) s ≤ y) → wordAt A'.words y = wordAt A.words y) hI h.st.al _ 0 (fun w1 w2 k1 ⟨p', A', r1, r2⟩ => ⟨p', A', Run.pre k1 r1, r2⟩) (fun w1 k1 => free_ok (hI.kept k1) (by omega) (hTw.kept k1 (by simp)) h0 hinv)).mono ?_
  rintro e w' ⟨rfl, p', A', hr, hi, hj⟩
  have hh := heap_room (a := f + c * s) h.st.slo
  obtain ⟨r1, r2⟩ := h.run h1 h2 h4 hc hr _ hi (fun y hy => hj y (by omega)) q' hq
  exact ⟨rfl, A', r1, r2⟩

/-- A block of a law: whose, where, how long. -/
abbrev bkv (c t z : Nat) : Value := .agg #[.int .i64 (c : Int), .int .i64 (t : Int), .int .i64 (z : Int)]

set_option maxRecDepth 100000 in
set_option maxHeartbeats 2000000 in
theorem blank_any {w : World} {p : Ap} {A : Ar} {b c a n q : Nat} (h : In w p A b c a n q) (hq : 64 ≤ q) (t z : Nat) (hz : z ≤ 32) (h1 : a ≤ t) (h2 : t + z ≤ a + n) (h0 : ∀ j, t ≤ j → j < t + z → wordAt A.words j = 0) :
    Calls Tryd.prog 13 #[.pointer (some ⟨b, 0, none⟩), bkv c t z] w fun e w' => e = .returned (.bool true) ∧ ∃ p' A', Run c a (a + n) 64 w p A w' p' A' ∧ ∀ j, (j < t ∨ t + z ≤ j) → wordAt A'.words j = wordAt A.words j := by
  have hK : Kept [] w (w.alloc (.cells #[.int .i64 (c : Int), .int .i64 (t : Int), .int .i64 (z : Int)] 39)) := (Kept.refl _ _).alloc _
  have hB := Go.heap_alloc_new w (.cells #[.int .i64 (c : Int), .int .i64 (t : Int), .int .i64 (z : Int)] 39)
  have hnb : w.heap.size ∉ p.blocks := fun hm => by have := h.is.blocks_lt _ hm; omega
  have hbe := h.hb
  subst hbe
  have hat := h.fits.at_
  have hhi := h.fits.hi
  have HX : Hid (_ ∧ _ ∧ _ ∧ _ ∧ _) := ⟨hK, hB, hnb, h, h0⟩
  clear hK hB hnb h h0
  go_enter Tryd.func13, Tryd.ntmps13
  go_wp2_with fail
  go_loopw [5] (fun i wr => ∃ k : Nat, i = .int .i64 (k : Int) ∧ k ≤ z ∧ Hid (∃ p' A', Run c a (a + n) (2 * k) w p A wr p' A' ∧ (wr.heap[w.heap.size]? = some (.cells #[.int .i64 (c : Int), .int .i64 (t : Int), .int .i64 (z : Int)] 39 (0, 0)) ∧ w.heap.size ∉ p'.blocks) ∧ ∀ j, (j < t ∨ t + k ≤ j) → wordAt A'.words j = wordAt A.words j)) (fun i _ => (z - intOf i).toNat)
  case atStart => exact ⟨0, by simp, by omega, p, A, (Run.refl HX.out.2.2.2.1.is).post HX.out.1, ⟨HX.out.2.1, HX.out.2.2.1⟩, fun j _ => rfl⟩
  case round =>
    obtain ⟨k, rfl, hk, HK⟩ := hrel
    obtain ⟨p1, A1, hr1, ⟨hb1, hn1⟩, hj1⟩ := HK.out
    have x0 : wr.cell? ⟨w.heap.size, 0, none⟩ = some (.int .i64 (c : Int)) := cellB hb1
    have x1 : wr.cell? ⟨w.heap.size, 1, none⟩ = some (.int .i64 (t : Int)) := cellB hb1
    have x2 : wr.cell? ⟨w.heap.size, 2, none⟩ = some (.int .i64 (z : Int)) := cellB hb1
    have hpb : p1.b = p.b := hr1.to.b
    have HR : Hid (_ ∧ _ ∧ _ ∧ _ ∧ _) := ⟨hr1, hb1, hn1, hj1, hpb⟩
    clear hr1 hb1 hn1 hj1 HK hpb
    by_cases hlt : k < z
    · have i0 : (k : Int) < (z : Int) := by omega
      have hI1 := HX.out.2.2.2.1.next HR.out.1 2 (by omega)
      have hld := load_yes hI1.is c (t + k) hI1.core (by have := hI1.within; omega) (by have := hI1.quota; omega)
      rw [HR.out.2.2.2.2, show wordAt A1.words (t + k) = 0 from by rw [HR.out.2.2.2.1 _ (by omega)]; exact HX.out.2.2.2.2 _ (by omega) (by omega)] at hld
      have HL : Hid (_ ∧ _) := ⟨hld, hI1⟩
      clear hld hI1
      go_wp2_with fail
      refine HL.out.1.mono ?_
      rintro e w2 ⟨rfl, p2, hto2, ha2⟩
      have hr2 : Run c a (a + n) 1 wr p1 A1 w2 p2 (A1.touch c (t + k) none) := ⟨hto2, ha2, Tr.touch HL.out.2.core (by omega) (by omega) none⟩
      have hI2 := HL.out.2.next hr2 1 (by omega)
      have hb2 : w2.heap[w.heap.size]? = some (.cells #[.int .i64 (c : Int), .int .i64 (t : Int), .int .i64 (z : Int)] 39 (0, 0)) := by
        rw [hto2.kept.block _ (lt_of_heap HR.out.2.1) (by simpa using HR.out.2.2.1)]; exact HR.out.2.1
      have hn2 : w.heap.size ∉ p2.blocks := fun hm => by
        rcases hto2.new _ hm with h5 | h5
        · exact HR.out.2.2.1 h5
        · have := lt_of_heap HR.out.2.1; omega
      have y0 : w2.cell? ⟨w.heap.size, 0, none⟩ = some (.int .i64 (c : Int)) := cellB hb2
      have y1 : w2.cell? ⟨w.heap.size, 1, none⟩ = some (.int .i64 (t : Int)) := cellB hb2
      have hst := store_yes hI2.is c (t + k) 9 hI2.core (by have := hI2.within; omega) (by have := hI2.quota; omega)
      rw [hr2.to.b.trans HR.out.2.2.2.2] at hst
      have H2 : Hid (_ ∧ _ ∧ _ ∧ _ ∧ _) := ⟨hst, hI2, hr2, hb2, hn2⟩
      clear hst hI2 hr2 hb2 hn2 hto2 ha2 x0 x1 x2 HL
      go_wp2_with fail
      refine H2.out.1.mono ?_
      rintro e w3 ⟨rfl, p3, hto3, ha3⟩
      obtain ⟨-, hI2, hr2, hb2, hn2⟩ := H2.out
      have hr3 : Run c a (a + n) 1 w2 p2 (A1.touch c (t + k) none) w3 p3 ((A1.touch c (t + k) none).touch c (t + k) (some 9)) := ⟨hto3, ha3, Tr.touch hI2.core (by omega) (by omega) _⟩
      have HN : Hid (_) := show ∃ p' A', Run c a (a + n) (2 * (k + 1)) w p A w3 p' A' ∧ (w3.heap[w.heap.size]? = some (.cells #[.int .i64 (c : Int), .int .i64 (t : Int), .int .i64 (z : Int)] 39 (0, 0)) ∧ w.heap.size ∉ p'.blocks) ∧ ∀ j, (j < t ∨ t + (k + 1) ≤ j) → wordAt A'.words j = wordAt A.words j from
        ⟨p3, _, ((HR.out.1.trans hr2).trans hr3).mono (by omega), ⟨by rw [hto3.kept.block _ (lt_of_heap hb2) (by simpa using hn2)]; exact hb2, fun hm => by
          rcases hto3.new _ hm with h5 | h5
          · exact hn2 h5
          · have := lt_of_heap hb2; omega⟩, fun j hj => by
          rw [touch_words, touch_words0, wordAt_set _ _ _ _ (by have := hI2.within; rw [hr2.tr.words] at this; omega), if_neg (by omega)]
          exact HR.out.2.2.2.1 j (by omega)⟩
      clear hr3 hto3 ha3 hI2 hr2 hb2 hn2 H2 HR y0 y1
      go_wp2_with (first
        | (go_at_call 9; refine (num _ _).mono ?_; rintro e w' ⟨rfl, hw'⟩; subst hw'))
      go_roundw
      case rel => exact ⟨k + 1, by go_num, by omega, HN.out⟩
      case measure => simp [intOf]; omega
    · have i0 : ¬ (k : Int) < (z : Int) := by omega
      obtain rfl : k = z := by omega
      go_wp2
      go_ret
      exact ⟨rfl, p1, A1, HR.out.1.mono (by omega), HR.out.2.2.2.1⟩

end Go.Proofs.YtagnkdeeiligcaaDoor
