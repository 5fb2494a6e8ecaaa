/-
  A new allocator, and the state that a law holds.
-/
import Derived.Test.YtagnkdeeiligcaaDoorAlloc
namespace Go.Proofs.YtagnkdeeiligcaaDoor
open Go.RowKit

/-- An allocator on an arena, both made since w0: each core's pieces, and whose words each core touched. -/
structure St (w0 w : World) (b x k f s : Nat) (A : Ar) (P : Nat → List Pc) (q : Nat) : Prop where
  kept : Kept [] w0 w
  ex : ∃ p, p.b = b ∧ (∀ i ∈ p.blocks, w0.heap.size ≤ i ∧ i ≠ x) ∧ ArIs 56 w p A
  al : AlIs w x b f s
  xlo : w0.heap.size ≤ x
  cores : A.traces.length = k
  words : f + k * s ≤ A.words.length
  slo : 64 ≤ s
  shi : s ≤ 1000
  inv : ∀ c, c < k → Inv s (f + c * s) (wordAt A.words) (P c)
  own : ∀ c, c < k → ∀ e ∈ A.traces.getD c [], ((f + c * s : Nat) : Int) ≤ e.1 ∧ e.1 < ((f + c * s + s : Nat) : Int)
  quota : ∀ c, c < k → (A.traces.getD c []).length + q < 1000000

theorem mul_next {c k : Nat} (s : Nat) (h : c < k) : c * s + s ≤ k * s := by
  have := Nat.mul_le_mul_right s (show c + 1 ≤ k from h)
  rw [Nat.succ_mul] at this
  exact this

theorem St.share {w0 w : World} {b x k f s : Nat} {A : Ar} {P : Nat → List Pc} {q : Nat} (h : St w0 w b x k f s A P q) {p : Ap} (hp : p.b = b) (ha : ArIs 56 w p A) {c : Nat} (hc : c < k) : In w p A b c (f + c * s) s q where
  is := ha
  hb := hp
  core := by rw [h.cores]; exact hc
  within := by have := mul_next s hc; have := h.words; omega
  fits := ⟨h.slo, h.shi, by have := mul_next s hc; have := h.words; have := ha.hi; omega⟩
  quota := h.quota c hc

theorem St.still {w0 w w' : World} {b x k f s : Nat} {A : Ar} {P : Nat → List Pc} {q : Nat} (h : St w0 w b x k f s A P q) (hk : Kept [] w w') : St w0 w' b x k f s A P q := by
  obtain ⟨p, h1, h2, h3⟩ := h.ex
  exact ⟨h.kept.trans hk (by simp), ⟨p, h1, h2, h3.kept0 hk⟩, h.al.kept hk (by simp), h.xlo, h.cores, h.words, h.slo, h.shi, h.inv, h.own, h.quota⟩

theorem St.less {w0 w : World} {b x k f s : Nat} {A : Ar} {P : Nat → List Pc} {q q' : Nat} (h : St w0 w b x k f s A P q) (hq : q' ≤ q) : St w0 w b x k f s A P q' :=
  ⟨h.kept, h.ex, h.al, h.xlo, h.cores, h.words, h.slo, h.shi, h.inv, h.own, fun c hc => by have := h.quota c hc; omega⟩

theorem St.pieces {w0 w : World} {b x k f s : Nat} {A : Ar} {P P' : Nat → List Pc} {q : Nat} (h : St w0 w b x k f s A P q) (hP : ∀ c, c < k → P' c = P c) : St w0 w b x k f s A P' q :=
  ⟨h.kept, h.ex, h.al, h.xlo, h.cores, h.words, h.slo, h.shi, fun c hc => by rw [hP c hc]; exact h.inv c hc, h.own, h.quota⟩

/-- Core c has done something in its share. -/
theorem St.run {w0 w w' : World} {b x k f s : Nat} {A A' : Ar} {P : Nat → List Pc} {q : Nat} (h : St w0 w b x k f s A P q) {p p' : Ap} (hp : p.b = b) (hpb : ∀ i ∈ p.blocks, w0.heap.size ≤ i ∧ i ≠ x) {c m : Nat} (hc : c < k)
    (r : Run c (f + c * s) (f + c * s + s) m w p A w' p' A') (l : List Pc) (hl : Inv s (f + c * s) (wordAt A'.words) l) (ho : ∀ y, (y < f + c * s ∨ f + c * s + s ≤ y) → wordAt A'.words y = wordAt A.words y) (q' : Nat) (hq : q' + m ≤ q) :
    St w0 w' b x k f s A' (fun d => if d = c then l else P d) q' where
  kept := h.kept.trans r.to.kept (fun i hi => Or.inr (hpb i (by simpa using hi)).1)
  ex := ⟨p', r.to.b.trans hp, fun i hi => by
    rcases r.to.new i hi with h1 | h1
    · exact hpb i h1
    · have h2 := h.kept.size
      have h3 := lt_of_heap h.al
      exact ⟨by omega, by omega⟩, r.is⟩
  al := h.al.kept r.to.kept (fun hm => (hpb x (by simpa using hm)).2 rfl)
  xlo := h.xlo
  cores := by rw [r.tr.cores]; exact h.cores
  words := by rw [r.tr.words]; exact h.words
  slo := h.slo
  shi := h.shi
  inv := fun d hd => by
    by_cases e : d = c
    · subst e; simp only [if_pos]; exact hl
    · simp only [if_neg e]
      refine (h.inv d hd).same fun y y1 y2 => ho y ?_
      have h4 : heap (f + d * s) s ≤ f + d * s + s := by
        have := gro_lt h.slo
        unfold heap; omega
      rcases Nat.lt_or_ge d c with h5 | h5
      · have := mul_next s h5; omega
      · have := mul_next s (show c < d by omega); omega
  own := fun d hd e he => by
    by_cases ed : d = c
    · subst ed
      obtain ⟨l', e1, e2, e3⟩ := r.tr.mine
      rw [e1] at he
      rcases List.mem_append.1 he with h1 | h1
      · exact h.own d hd e h1
      · exact e3 e h1
    · rw [r.tr.other d ed] at he
      exact h.own d hd e he
  quota := fun d hd => by
    by_cases ed : d = c
    · subst ed
      obtain ⟨l', e1, e2, e3⟩ := r.tr.mine
      have := h.quota d hd
      rw [e1, List.length_append]; omega
    · rw [r.tr.other d ed]
      have := h.quota d hd
      omega

/-- What New does to a new arena. -/
structure Cleared (N k f s c0 : Nat) (A : Ar) : Prop where
  cores : A.traces.length = k
  words : A.words.length = N
  zero : ∀ y, wordAt A.words y = 0
  none : ∀ d, c0 ≤ d → A.traces.getD d [] = []
  own : ∀ d, d < c0 → (A.traces.getD d []).length ≤ 100 ∧ ∀ e ∈ A.traces.getD d [], ((f + d * s : Nat) : Int) ≤ e.1 ∧ e.1 < ((f + d * s + s : Nat) : Int)

theorem cleared_fresh (N k f s : Nat) : Cleared N k f s 0 (fresh N k) where
  cores := by simp [fresh]
  words := by simp [fresh]
  zero := fun y => by
    simp only [fresh, wordAt, List.getD, List.getElem?_replicate]
    split <;> rfl
  none := fun d _ => by
    simp only [fresh, List.getD, List.getElem?_replicate]
    split <;> rfl
  own := fun d hd => by omega

theorem Cleared.next {N k f s c : Nat} {A A' : Ar} {w w' : World} {p p' : Ap} (h : Cleared N k f s c A) (r : Run c (f + c * s) (f + c * s + s) 100 w p A w' p' A') (hz : ∀ j, wordAt A'.words j = if f + c * s ≤ j ∧ j < heap (f + c * s) s then 0 else wordAt A.words j) : Cleared N k f s (c + 1) A' where
  cores := by rw [r.tr.cores]; exact h.cores
  words := by rw [r.tr.words]; exact h.words
  zero := fun y => by
    rw [hz]
    split
    · rfl
    · exact h.zero y
  none := fun d hd => by rw [r.tr.other d (by omega)]; exact h.none d (by omega)
  own := fun d hd => by
    by_cases e : d = c
    · subst e
      obtain ⟨l, e1, e2, e3⟩ := r.tr.mine
      rw [h.none d (Nat.le_refl _), List.nil_append] at e1
      rw [e1]
      exact ⟨e2, e3⟩
    · rw [r.tr.other d e]; exact h.own d (by omega)

set_option maxRecDepth 100000 in
set_option maxHeartbeats 4000000 in
theorem new_alloc {w0 w : World} {b N k f W : Nat} (h : Has w0 w b (fresh N k)) (k0 : 1 ≤ k) (k1 : k ≤ 8) (hW : 64 * k ≤ W) (hN : f + W ≤ N) (hN2 : N ≤ 65536) (hs : W / k ≤ 1000) :
    Calls Tryd.prog 8 #[.pointer (some ⟨b, 0, none⟩), .int .i64 (f : Int), .int .i64 (W : Int)] w fun e w' => ∃ x A', e = .returned (.tuple #[.pointer (some ⟨x, 0, none⟩), .int .i64 0]) ∧ St w0 w' b x k f (W / k) A' (fun _ => []) 900000 := by
  obtain ⟨hK, p, hb, hpb, ha⟩ := h
  subst hb
  have hs0 : 64 ≤ W / k := (Nat.le_div_iff_mul_le (by omega)).2 hW
  have hsk : k * (W / k) ≤ W := Nat.mul_div_le W k
  have hdiv : (W : Int) / (k : Int) = ((W / k : Nat) : Int) := by simp
  generalize W / k = s at *
  have hl : (fresh N k).traces.length = k := by simp [fresh]
  have hwl : (fresh N k).words.length = N := by simp [fresh]
  have i0 : decide ((f : Int) < 0) = false := by simp
  have i1 : decide ((W : Int) < 64 * (k : Int)) = false := by simp; omega
  have i2 : decide ((N : Int) - (f : Int) < (W : Int)) = false := by simp; omega
  have i3 : ¬ (k : Int) < 1 := by omega
  have c1 := cores_any ha
  have c2 := words_any ha
  rw [hl] at c1
  rw [hwl] at c2
  have HC : Hid (_ ∧ _) := ⟨c1, c2⟩
  have HX : Hid (_ ∧ _ ∧ _) := ⟨hK, hpb, ha⟩
  clear c1 c2 hK hpb ha hl hwl
  go_enter Tryd.func8, Tryd.ntmps8
  go_wp2_with fail
  refine HC.out.1.mono ?_
  rintro e w1 ⟨rfl, hw1⟩
  subst hw1
  go_wp2_with fail
  refine HC.out.2.mono ?_
  rintro e w2 ⟨rfl, hw2⟩
  subst hw2
  have hKx : Kept [] w2 (w2.alloc (.cells #[.pointer (some ⟨p.b, 0, none⟩), .int .i64 (f : Int), .int .i64 (s : Int)] 59)) := (Kept.refl _ _).alloc _
  have hAl : AlIs (w2.alloc (.cells #[.pointer (some ⟨p.b, 0, none⟩), .int .i64 (f : Int), .int .i64 (s : Int)] 59)) w2.heap.size p.b f s := Go.heap_alloc_new _ _
  have hnx : w2.heap.size ∉ p.blocks := fun hm => by have := HX.out.2.2.blocks_lt _ hm; omega
  have HS : Hid (∃ p' A', ATo [] w2 p (w2.alloc (.cells #[.pointer (some ⟨p.b, 0, none⟩), .int .i64 (f : Int), .int .i64 (s : Int)] 59)) p' ∧ ArIs 56 (w2.alloc (.cells #[.pointer (some ⟨p.b, 0, none⟩), .int .i64 (f : Int), .int .i64 (s : Int)] 59)) p' A' ∧ AlIs (w2.alloc (.cells #[.pointer (some ⟨p.b, 0, none⟩), .int .i64 (f : Int), .int .i64 (s : Int)] 59)) w2.heap.size p.b f s ∧ w2.heap.size ∉ p'.blocks ∧ Cleared N k f s 0 A') :=
    ⟨p, _, ATo.still hKx, HX.out.2.2.kept0 hKx, hAl, hnx, cleared_fresh N k f s⟩
  clear hKx hAl hnx
  go_wp2_with fail
  clear hdiv
  go_loopw [42] (fun i wr => ∃ c0 : Nat, i = .int .i64 (c0 : Int) ∧ c0 ≤ k ∧ Hid (∃ p' A', ATo [] w2 p wr p' ∧ ArIs 56 wr p' A' ∧ AlIs wr w2.heap.size p.b f s ∧ w2.heap.size ∉ p'.blocks ∧ Cleared N k f s c0 A')) (fun i _ => (k - intOf i).toNat)
  case atStart => exact ⟨0, rfl, by omega, HS⟩
  case round =>
    obtain ⟨c, rfl, hc, HK⟩ := hrel
    obtain ⟨p3, A3, hto, ha3, hal3, hnb3, hcl⟩ := HK.out
    have hpb3 : p3.b = p.b := hto.b
    by_cases hlt : c < k
    · have j0 : (c : Int) < (k : Int) := by omega
      have hsh := shareOf_yes ha3 (by rw [hpb3]; exact hal3) hs (by omega) c (by rw [hcl.cores]; exact hlt)
      rw [hpb3] at hsh
      have hmn := mul_next s hlt
      have hIn : In wr p3 A3 p.b c (f + c * s) s 100 := ⟨ha3, hpb3, by rw [hcl.cores]; exact hlt, by rw [hcl.words]; omega, ⟨hs0, hs, by omega⟩, by rw [hcl.none c (Nat.le_refl _)]; simp⟩
      have HR : Hid (_ ∧ _ ∧ _ ∧ _ ∧ _ ∧ _) := ⟨hsh, hIn, hto, hal3, hnb3, hcl⟩
      clear hsh hIn hto hal3 hnb3 hcl ha3 HK HS
      go_wp2_with fail
      refine HR.out.1.mono ?_
      rintro e w4 ⟨rfl, hk4⟩
      have hk5 := hk4.trans (box_kept w4 p.b c (f + c * s) s) (by simp)
      have HK5 : Hid (_) := hk5
      clear hk4 hk5
      go_wp2_with fail
      refine (clear_any (HR.out.2.1.kept HK5.out) (by omega)).mono ?_
      rintro e w6 ⟨rfl, p6, A6, hr6, hz6⟩
      have hr := Run.pre HK5.out hr6
      have HN : Hid (_) := show ∃ p' A', ATo [] w2 p w6 p' ∧ ArIs 56 w6 p' A' ∧ AlIs w6 w2.heap.size p.b f s ∧ w2.heap.size ∉ p'.blocks ∧ Cleared N k f s (c + 1) A' from
        ⟨p6, A6, HR.out.2.2.1.trans hr.to, hr.is, HR.out.2.2.2.1.kept hr.to.kept (by simpa using HR.out.2.2.2.2.1), fun hm => by
          rcases hr.to.new _ hm with h1 | h1
          · exact HR.out.2.2.2.2.1 h1
          · have := lt_of_heap HR.out.2.2.2.1; omega, HR.out.2.2.2.2.2.next hr hz6⟩
      clear hr hr6 hz6 HR
      go_wp2
      go_roundw
      case rel => exact ⟨c + 1, by go_num, by omega, HN.out⟩
      case measure => simp [intOf]; omega
    · have j0 : ¬ (c : Int) < (k : Int) := by omega
      obtain rfl : c = k := by omega
      have HR : Hid (_ ∧ _ ∧ _ ∧ _ ∧ _) := ⟨hto, ha3, hal3, hnb3, hcl⟩
      clear hto ha3 hal3 hnb3 hcl HK HS
      go_wp2
      go_ret2
      obtain ⟨hto, ha3, hal3, hnb3, hcl⟩ := HR.out
      obtain ⟨hK, hpb, ha⟩ := HX.out
      have hsz := hK.size
      refine ⟨w2.heap.size, rfl, A3, ?_⟩
      exact {
        kept := hK.trans hto.kept (fun i hi => Or.inr (hpb i (by simpa using hi)))
        ex := ⟨p3, hpb3, fun i hi => ⟨by
          rcases hto.new i hi with h1 | h1
          · exact hpb i h1
          · omega, fun e => hnb3 (by rw [← e]; exact hi)⟩, ha3⟩
        al := hal3
        xlo := hsz
        cores := hcl.cores
        words := by rw [hcl.words]; omega
        slo := hs0
        shi := hs
        inv := fun d _ => Inv.new fun y _ _ => hcl.zero y
        own := fun d hd => (hcl.own d hd).2
        quota := fun d hd => by have := (hcl.own d hd).1; omega }

/-- Words for fewer cores than there are. -/
theorem new_small {w0 w : World} {b k : Nat} {A : Ar} (h : Has w0 w b A) (hA : A.traces.length = k) (k1 : k ≤ 8) (f W : Nat) (hW : W < 64 * k) :
    Calls Tryd.prog 8 #[.pointer (some ⟨b, 0, none⟩), .int .i64 (f : Int), .int .i64 (W : Int)] w fun e w' => e = .returned (.tuple #[.pointer none, .int .i64 400]) ∧ w' = w := by
  obtain ⟨hK, p, hb, hpb, ha⟩ := h
  subst hb
  have i0 : decide ((f : Int) < 0) = false := by simp
  have i1 : decide ((W : Int) < 64 * (k : Int)) = true := by simp; omega
  have c1 := cores_any ha
  rw [hA] at c1
  have HC : Hid (_) := c1
  clear c1 hK hpb ha hA
  go_enter Tryd.func8, Tryd.ntmps8
  go_wp2_with fail
  refine Calls.mono HC.out ?_
  rintro e w1 ⟨rfl, hw1⟩
  subst hw1
  go_wp2
  go_ret2
  exact ⟨rfl, rfl⟩

end Go.Proofs.YtagnkdeeiligcaaDoor
