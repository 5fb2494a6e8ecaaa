/-
  take.
-/
import Derived.Test.YtndcbpbigbjfeaaTl
namespace Go.Proofs.Ytndcbpbigbjfeaa
open Go.RowKit
set_option linter.unusedSimpArgs false
set_option linter.unusedVariables false

theorem Inv.push {R : List (List Int)} {X : List Int} (h : Inv R X) (hb : Big R) (y : Int) : Inv (R ++ [[y]]) (X ++ [y]) := by
  refine ⟨fun r hr => ?_, fun z => ?_, ?_, fun i r hi hr => ?_⟩
  · rcases List.mem_append.1 hr with hr | hr
    · exact h.ne r hr
    · rw [List.mem_singleton.1 hr]; exact ⟨by simp, List.pairwise_singleton _ _⟩
  · rw [List.mem_append, ← h.mem z]
    constructor
    · rintro ⟨r, hr, hz⟩
      rcases List.mem_append.1 hr with hr | hr
      · exact Or.inl ⟨r, hr, hz⟩
      · rw [List.mem_singleton.1 hr] at hz; exact Or.inr hz
    · rintro (⟨r, hr, hz⟩ | hz)
      · exact ⟨r, by simp [hr], hz⟩
      · exact ⟨[y], by simp, hz⟩
  · rw [tot_append, tot_one, List.length_append]
    have := h.len
    simp
    omega
  · simp only [List.length_append, List.length_singleton] at hi
    rw [List.getElem?_append_left (by omega)] at hr
    exact hb i r (by omega) hr

theorem Inv.grow {Q : List (List Int)} {l X : List Int} (h : Inv (Q ++ [l]) X) (y : Int) (hy : ∀ z ∈ l, z < y) : Inv (Q ++ [l ++ [y]]) (X ++ [y]) := by
  refine ⟨fun r hr => ?_, fun z => ?_, ?_, fun i r hi hr => ?_⟩
  · rcases List.mem_append.1 hr with hr | hr
    · exact h.ne r (by simp [hr])
    · rw [List.mem_singleton.1 hr]
      exact ⟨by simp, (h.ne l (by simp)).2.append (List.pairwise_singleton _ _) fun x hx z hz => by rw [List.mem_singleton.1 hz]; exact hy x hx⟩
  · rw [List.mem_append, ← h.mem z]
    constructor
    · rintro ⟨r, hr, hz⟩
      rcases List.mem_append.1 hr with hr | hr
      · exact Or.inl ⟨r, by simp [hr], hz⟩
      · rw [List.mem_singleton.1 hr] at hz
        rcases List.mem_append.1 hz with hz | hz
        · exact Or.inl ⟨l, by simp, hz⟩
        · exact Or.inr hz
    · rintro (⟨r, hr, hz⟩ | hz)
      · rcases List.mem_append.1 hr with hr | hr
        · exact ⟨r, by simp [hr], hz⟩
        · rw [List.mem_singleton.1 hr] at hz
          exact ⟨l ++ [y], by simp, by simp [hz]⟩
      · exact ⟨l ++ [y], by simp, List.mem_append.2 (Or.inr hz)⟩
  · have := h.len
    rw [tot_append, tot_one] at this ⊢
    rw [List.length_append, List.length_append]
    simp
    omega
  · simp only [List.length_append, List.length_singleton] at hi
    rw [List.getElem?_append_left (by omega)] at hr
    exact h.big i r (by simp; omega) (by rw [List.getElem?_append_left (by omega)]; exact hr)

theorem Inv.same {R : List (List Int)} {X : List Int} (h : Inv R X) {y : Int} (hy : ∃ r ∈ R, y ∈ r) : Inv R (X ++ [y]) := by
  refine ⟨h.ne, fun z => ?_, ?_, h.big⟩
  · rw [List.mem_append, ← h.mem z]
    constructor
    · exact Or.inl
    · rintro (hz | hz)
      · exact hz
      · rw [List.mem_singleton.1 hz]; exact hy
  · have := h.len
    rw [List.length_append]
    omega

/-- The last run. -/
theorem St.last {w0 w : World} {c : Nat} {v : Value} {vs : List Value} {Q : List (List Int)} {l : List Int} (h : St w0 w c v vs (Q ++ [l])) :
    ∃ g cap al cl, v = .slice (some ⟨g, 0, none⟩) (Q.length + 1) cap ∧ Q.length + 1 ≤ cap ∧ g ≠ c ∧ vs[Q.length]? = some (.slice al l.length cl) ∧
      w.cell? ⟨g, Q.length, none⟩ = some (.slice al l.length cl) ∧ w.frozen? ⟨g, Q.length, none⟩ = false ∧ Own w w0.heap.size (.slice al l.length cl) l := by
  obtain ⟨a, cap, e1, e2, e3⟩ := h.slice
  obtain ⟨xl, hxl, ol⟩ := h.at (i := Q.length) (r := l) (by simp)
  obtain ⟨al, cl, rfl⟩ := ol.isSlice
  obtain ⟨g, rfl, g1, g2, g3⟩ := e3 _ _ hxl
  exact ⟨g, cap, al, cl, by simpa using e1, by simpa using e2, g1, hxl, g2, g3, ol⟩

theorem last_of {L : List Int} {e : Int} (h : Rises (L ++ [e])) : ∀ z ∈ L ++ [e], z ≤ e := fun z hz => by
  rcases List.mem_append.1 hz with hz | hz
  · exact Int.le_of_lt ((List.pairwise_append.1 h).2.2 z hz e (by simp))
  · rw [List.mem_singleton.1 hz]; exact Int.le_refl _

set_option maxRecDepth 100000 in
set_option maxHeartbeats 4000000 in
theorem p_take {w0 w : World} {c : Nat} {v : Value} {vs : List Value} {R : List (List Int)} {X : List Int} (h : St w0 w c v vs R) (hi : Inv R X) (y : Int) (hX : (X.length + 1) * 16 ≤ 140737488355328) :
    Calls Try.prog 25 #[.pointer (some ⟨c, 0, none⟩), .int .i64 y] w fun e w' => e = .returned (.tuple #[]) ∧ ∃ v' vs' R', St w0 w' c v' vs' R' ∧ Inv R' (X ++ [y]) := by
  have c0 := h.c0.1
  have c1 := h.c0.2
  rcases List.eq_nil_or_concat R with rfl | ⟨Q, l, rfl⟩
  · obtain ⟨a, cap, rfl, -, -⟩ := h.slice
    obtain ⟨v', w2, hr, y0, y1, vs', hS⟩ := h.push y (by simp) 38
    obtain ⟨a2, n2, cap2, rfl⟩ : ∃ a n c, v' = Value.slice a n c := by obtain ⟨a, c, h, -⟩ := hS.slice; exact ⟨_, _, _, h⟩
    have HF : Hid (_ ∧ _) := ⟨hS, hi.push (by intro i r hi; simp at hi) y⟩
    clear hS h hi
    simp only [List.length_nil] at hr c0
    go_enter Try.func25, Try.ntmps25
    go_wp2_with (first
      | (at_builtin; refine wpList_append_run _ (by rfl) _ _ 38 38 (by rfl) _ _ (by rfl) (by rfl) _ _ hr ?_))
    refine bodyPost_ret (results_none rfl _ _ _) rfl ?_
    exact ⟨rfl, _, _, _, HF.out.1, HF.out.2⟩
  · rw [List.concat_eq_append] at h hi
    obtain ⟨g, cap, al, cl, rfl, hcap, hgc, x1, x2, x3, ol⟩ := h.last
    obtain ⟨hne, hri⟩ := hi.ne l (by simp)
    have hln := hi.run_le (r := l) (by simp)
    have hQ : 2 * Q.length ≤ X.length + 4 := by
      have h1 := hi.big_init
      have h2 := hi.len
      simp at h1; omega
    rcases List.eq_nil_or_concat l with rfl | ⟨L, e, rfl⟩
    · exact absurd rfl hne
    rw [List.concat_eq_append] at h hi x1 x2 ol hri hln
    obtain ⟨-, b, off, rfl, hcell⟩ := ol.rd.at (i := L.length) (by simp)
    have hcell2 : w.cell? ⟨b, off + L.length, none⟩ = some (.int .i64 e) := by simpa using hcell
    have hlen : (L ++ [e]).length = L.length + 1 := by simp
    rw [hlen] at x1 x2 ol hln
    have k1 : (0 : Int) ≤ (Q.length : Int) := by omega
    have k2 : (Q.length : Int) < (Q.length : Int) + 1 := by omega
    have k3 : (0 : Int) ≤ (L.length : Int) := by omega
    have k4 : (L.length : Int) < (L.length : Int) + 1 := by omega
    have k5 : decide ((Q.length : Int) < 0) = false := by simp
    have q1 : wrap64 (Q.length : Int) = (Q.length : Int) := by unfold wrap64; omega
    have q2 : wrap64 (L.length : Int) = (L.length : Int) := by unfold wrap64; omega
    clear hcell
    rcases Int.lt_trichotomy y e with hl | rfl | hl
    · -- below: settle, and a run of its own
      have t1 : decide (e < y) = false := by simp; omega
      have HH : Hid (_ ∧ _) := ⟨h, hi⟩
      clear h hi ol x1
      go_enter Try.func25, Try.ntmps25
      go_wp2_with fail
      refine (p_settle HH.out.1 HH.out.2 (by simp) (by omega)).mono ?_
      rintro e' w1 ⟨rfl, v', vs', R', h', hi', hb', hne'⟩
      obtain ⟨a1, n1, cap1, rfl⟩ : ∃ a n c, v' = Value.slice a n c := by obtain ⟨a, c, h, -⟩ := h'.slice; exact ⟨_, _, _, h⟩
      have d0 := h'.c0.1
      have hR' := big_bound R' hb'
      have hR2 := hi'.len
      obtain ⟨v2, w2, hr, y0, y1, vs2, hS⟩ := h'.push y (by omega) 38
      obtain ⟨a2, n2, cap2, rfl⟩ : ∃ a n c, v2 = Value.slice a n c := by obtain ⟨a, c, h, -⟩ := hS.slice; exact ⟨_, _, _, h⟩
      have HF : Hid (_ ∧ _) := ⟨hS, hi'.push hb' y⟩
      clear hS h' hi' hb' hne' c0 c1 x2 x3 hcell2 hR' hR2
      go_wp2_with (first
        | (at_builtin; refine wpList_append_run _ (by rfl) _ _ 38 38 (by rfl) _ _ (by rfl) (by rfl) _ _ hr ?_))
      go_end0
      exact ⟨rfl, _, _, _, HF.out.1, HF.out.2⟩
    · -- the same
      have HF : Hid (_ ∧ _) := ⟨h, hi.same (y := y) ⟨L ++ [y], by simp, by simp⟩⟩
      have t1 : decide (y < y) = false := by simp
      clear h hi ol x1
      go_enter Try.func25, Try.ntmps25
      go_wp2
      go_end0
      exact ⟨rfl, _, _, _, HF.out.1, HF.out.2⟩
    · -- above: to the last run's end
      have t1 : e < y := hl
      obtain ⟨v1, w3, hr, ho, -, hg, hb⟩ := append_new (w0 := w0) (w := w.drewN 1) ol (Below.drewN h.below 1) h.below.size y (by simp; omega) 24
      obtain ⟨ra, rn, rc, rfl⟩ : ∃ a n c, v1 = Value.slice a n c := by obtain ⟨a, c, h⟩ := ho.isSlice; exact ⟨_, _, _, h⟩
      have hg' : w.grownBy w3 (Value.ownBlock (.slice (some ⟨b, off, none⟩) (L.length + 1) cl)) := ⟨hg.os, hg.tape, hg.output, hg.size, hg.block⟩
      have hset : (Q ++ [L ++ [e]]).set Q.length (L ++ [e] ++ [y]) = Q ++ [L ++ [e] ++ [y]] := by
        rw [List.set_append_right _ _ (by omega), Nat.sub_self]; rfl
      have hch := h.change rfl x1 hg' ho hb
      rw [hset] at hch
      have HF : Hid (_ ∧ _) := ⟨hch, hi.grow y (fun z hz => by have := last_of hri z hz; omega)⟩
      clear hch hset
      have hty : ∀ k, (Value.slice (some ⟨b, off, none⟩) (L.length + 1) cl).ownBlock = some k → ∃ cur, w.heap[k]? = some (.cells cur 3 (0, 0)) := fun k hk => by
        rcases ol.form with ⟨e1, -⟩ | ⟨g', cap', cur, e1, -, h3, -⟩
        · cases e1
        · rw [e1] at hk; simp [Value.ownBlock] at hk; subst hk; exact ⟨cur, h3⟩
      have gl := World.block_lt_of_cell? _ _ x2
      have cl' := World.block_lt_of_cell? _ _ c0
      have bg : (Value.slice (some ⟨b, off, none⟩) (L.length + 1) cl).ownBlock ≠ some g := fun e' => by
        obtain ⟨q, hq⟩ := hty g e'
        rcases h.form with ⟨e1, -, -⟩ | ⟨g', cap', cur, e1, -, h3, -⟩
        · cases e1
        · simp only [Value.slice.injEq, Option.some.injEq, Addr.mk.injEq, and_true] at e1
          obtain ⟨rfl, -, -⟩ := e1
          rw [h3] at hq; cases hq
      have bc : (Value.slice (some ⟨b, off, none⟩) (L.length + 1) cl).ownBlock ≠ some c := fun e' => by
        obtain ⟨q, hq⟩ := hty c e'
        rw [h.blk] at hq; cases hq
      have z0 : (w.alloc (.cells #[.int .i64 y] 3)).cell? ⟨c, 0, none⟩ = some (.slice (some ⟨g, 0, none⟩) (Q.length + 1) cap) := by rw [World.cell?_of_block (w := w) (Below.heap_alloc w _ c cl')]; exact c0
      have y0 : w3.cell? ⟨c, 0, none⟩ = some (.slice (some ⟨g, 0, none⟩) (Q.length + 1) cap) := by rw [World.cell?_of_block (w := w) (hg'.block c cl' (Ne.symm bc))]; exact c0
      have y1 : w3.cell? ⟨g, Q.length, none⟩ = some (.slice (some ⟨b, off, none⟩) (L.length + 1) cl) := by rw [World.cell?_of_block (w := w) (hg'.block g gl (Ne.symm bg))]; exact x2
      have y2 : w3.frozen? ⟨g, Q.length, none⟩ = false := by rw [World.frozen?_of_block (w := w) (hg'.block g gl (Ne.symm bg))]; exact x3
      clear h hi ol x1 ho hg hb hg' hty bg bc gl cl' hri hne hln hQ
      go_enter Try.func25, Try.ntmps25
      have hr' : (Builtin.append_ #[24, 24] 24 #[.slice (some ⟨b, off, none⟩) (L.length + 1) cl, .slice (some ⟨w.heap.size, 0, none⟩) 1 1]).run Try.prog ((w.alloc (.cells #[.int .i64 y] 3)).drew) = .ok (.slice ra rn rc) w3 := by
        exact hr
      go_wp2_with fail
      go_region_law (refine step_append_run (by rfl) _ _ 24 24 (by rfl) _ _ (by rfl) (by rfl) _ _ hr' ?_)
      all_goals go_wp2
      all_goals go_end0
      all_goals exact ⟨rfl, _, _, _, HF.out.1, HF.out.2⟩

end Go.Proofs.Ytndcbpbigbjfeaa
