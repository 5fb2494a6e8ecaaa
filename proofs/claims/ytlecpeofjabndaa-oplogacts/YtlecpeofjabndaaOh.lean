/-
  The program's log and the reference's side by side.
-/
import Derived.Test.YtlecpeofjabndaaOg
namespace Go.Proofs.Ytlecpeofjabndaa
open Go.RowKit
set_option linter.unusedVariables false
set_option linter.unusedSimpArgs false

/-- Both logs, of the same records. -/
structure Jn (H : Nat) (w : World) (p g q gc gl : Nat) (C D : List Co) : Prop where
  lo : Lo H w p g C
  re : Re H w q gc gl D
  far : ∀ x ∈ bl p g C, x ∉ rb q gc gl D
  len : D.length = C.length
  same : ∀ i (hi : i < C.length) (hd : i < D.length), (D[i]).R = (C[i]).R ∧ (D[i]).a = (C[i]).a ∧ (D[i]).k = (C[i]).k
  ord : ∀ i (hi : i < C.length), (C[i]).k = (i : Int) ∧ srt (C[i]).R ∧ ∀ r ∈ (C[i]).R, r.k = (i : Int) ∧ r.a ≤ (C[i]).a

theorem Jn.kept {H : Nat} {w : World} {p g q gc gl : Nat} {C D : List Co} (h : Jn H w p g q gc gl C D) {w' : World} {F : List Nat} (k : Kept F w w') (hF : ∀ x ∈ F, x ∉ bl p g C ∧ x ∉ rb q gc gl D) : Jn H w' p g q gc gl C D :=
  { h with lo := h.lo.kept k (fun x hx => (hF x hx).1), re := h.re.kept k (fun x hx => (hF x hx).2) }

theorem Jn.kept0 {H : Nat} {w : World} {p g q gc gl : Nat} {C D : List Co} (h : Jn H w p g q gc gl C D) {w' : World} (k : Kept [] w w') : Jn H w' p g q gc gl C D := h.kept k (by simp)

theorem Jn.lt {H : Nat} {w : World} {p g q gc gl : Nat} {C D : List Co} (h : Jn H w p g q gc gl C D) : ∀ x, x ∈ bl p g C ∨ x ∈ rb q gc gl D → H ≤ x ∧ x < w.heap.size := fun x hx => by
  rcases hx with hx | hx
  · exact h.lo.lt x hx
  · exact h.re.lt x hx

theorem Jn.new {H : Nat} {w : World} {p g q gc gl : Nat} {C D : List Co} (h : Jn H w p g q gc gl C D) {x : Nat} (hx : w.heap.size ≤ x) : x ∉ bl p g C ∧ x ∉ rb q gc gl D :=
  ⟨fun e => by have := (h.lt x (Or.inl e)).2; omega, fun e => by have := (h.lt x (Or.inr e)).2; omega⟩

theorem Jn.maps {H : Nat} {w : World} {p g q gc gl : Nat} {C D : List Co} (h : Jn H w p g q gc gl C D) : D.map Co.R = C.map Co.R := by
  apply List.ext_getElem (by simp [h.len])
  intro i h1 h2
  have := (h.same i (by simpa using h2) (by simpa using h1)).1
  simpa using this

theorem Jn.ref {H : Nat} {w : World} {p g q gc gl : Nat} {C D : List Co} (h : Jn H w p g q gc gl C D) : refM (D.map Co.R) = mergeR (C.map Co.R) := by
  rw [h.maps]
  refine refM_eq _ (fun c hc => ?_)
  have hc' : c < C.length := by simpa using hc
  have := h.ord c hc'
  refine ⟨by simpa using this.2.1, fun x hx => ?_⟩
  have hx' : x ∈ (C[c]).R := by simpa using hx
  exact (this.2.2 x hx').1

theorem Jn.many {H : Nat} {w : World} {p g q gc gl : Nat} {C D : List Co} (h : Jn H w p g q gc gl C D) : (mergeR (C.map Co.R)).length ≤ 100000 := by
  rw [mergeR_length]
  have h1 := totR_le (L := C.map Co.R) (fun l hl => by
    obtain ⟨i, hi, rfl⟩ := List.getElem_of_mem hl
    have := h.lo.len i (by simpa using hi)
    simpa using this)
  have h2 := h.lo.chi
  simp only [List.length_map] at h1
  omega

theorem Jn.fresh {H : Nat} {w : World} {p g q gc gl n : Nat} (hl : Lo H w p g (freshC n n)) (hr : Re H w q gc gl (freshC n n)) (hf : ∀ x ∈ bl p g (freshC n n), x ∉ rb q gc gl (freshC n n)) : Jn H w p g q gc gl (freshC n n) (freshC n n) :=
  ⟨hl, hr, hf, rfl, fun _ _ _ => ⟨rfl, rfl, rfl⟩, fun i hi => by
    have hi' : i < n := by rw [freshC_length] at hi; exact hi
    rw [freshC_get]
    exact ⟨by simp [hi'], List.Pairwise.nil, by simp⟩⟩

theorem nextS_ge (a k b l : Int) : a ≤ nextS a k b l := by
  unfold nextS
  split
  · have := Int.le_max_left a b; omega
  · omega

theorem get_set_cases {α : Type} (l : List α) (i : Nat) (c : α) : ∀ j (hj : j < (l.set i c).length), (j = i ∧ (l.set i c)[j] = c) ∨ (i ≠ j ∧ ∃ hj' : j < l.length, (l.set i c)[j] = l[j]) := fun j hj => by
  have hj' : j < l.length := by simpa using hj
  by_cases e : j = i
  · subst e; exact Or.inl ⟨rfl, by simp⟩
  · exact Or.inr ⟨fun e' => e e'.symm, hj', by rw [List.getElem_set_ne (fun e' => e e'.symm)]⟩

theorem Jn.set {H : Nat} {w : World} {p g q gc gl : Nat} {C D : List Co} (h : Jn H w p g q gc gl C D) {w2 : World} {i : Nat} (hi : i < C.length) (hd : i < D.length) (c d : Co) (hl : Lo H w2 p g (C.set i c)) (hr : Re H w2 q gc gl (D.set i d)) (hf : ∀ x ∈ bl p g (C.set i c), x ∉ rb q gc gl (D.set i d)) (hs : d.R = c.R ∧ d.a = c.a ∧ d.k = c.k) (ho : c.k = (i : Int) ∧ srt c.R ∧ ∀ r ∈ c.R, r.k = (i : Int) ∧ r.a ≤ c.a) : Jn H w2 p g q gc gl (C.set i c) (D.set i d) := by
  refine ⟨hl, hr, hf, by simpa using h.len, fun j hj hj2 => ?_, fun j hj => ?_⟩
  · rcases get_set_cases C i c j hj with ⟨rfl, e⟩ | ⟨hne, hj', e⟩
    · have e2 : (D.set j d)[j] = d := by simp
      rw [e, e2]; exact hs
    · rcases get_set_cases D i d j hj2 with ⟨e3, -⟩ | ⟨-, hj3, e2⟩
      · exact absurd e3.symm hne
      · rw [e, e2]; exact h.same j hj' hj3
  · rcases get_set_cases C i c j hj with ⟨rfl, e⟩ | ⟨hne, hj', e⟩
    · rw [e]; exact ho
    · rw [e]; exact h.ord j hj'

theorem Jn.drop {H : Nat} {w : World} {p g q gc gl : Nat} {C D : List Co} (h : Jn H w p g q gc gl C D) {w2 : World} {C' D' : List Co} {ua uk : Int} (hl : Lo H w2 p g C') (hp : Dp ua uk C.length C C') (hr : Re H w2 q gc gl D') (hq : Dq ua uk D.length D D') (hf : ∀ x ∈ bl p g C', x ∉ rb q gc gl D') : Jn H w2 p g q gc gl C' D' := by
  refine ⟨hl, hr, hf, by rw [hq.len, hp.len]; exact h.len, fun i hi hd => ?_, fun i hi => ?_⟩
  · have hc : i < C.length := by rw [← hp.len]; exact hi
    have hdd : i < D.length := by rw [← hq.len]; exact hd
    have s := h.same i hc hdd
    rw [hq.rows i hdd hd, hp.rows i hc hi, if_pos hdd, if_pos hc, s.1, (hq.sta i hdd hd).1, (hq.sta i hdd hd).2, (hp.sta i hc hi).1, (hp.sta i hc hi).2]
    exact ⟨rfl, s.2⟩
  · have hc : i < C.length := by rw [← hp.len]; exact hi
    have s := h.ord i hc
    rw [hp.rows i hc hi, if_pos hc, (hp.sta i hc hi).1, (hp.sta i hc hi).2]
    exact ⟨s.1, List.Pairwise.filter _ s.2.1, fun r hr => s.2.2 r (List.mem_filter.1 hr).1⟩

theorem add_both {H : Nat} {w : World} {p g q gc gl : Nat} {C D : List Co} (h : Jn H w p g q gc gl C D) (hH : H ≤ w.heap.size) (kind core fd off num : Int) (p1 p2 dat : ByteArray) (sa sk : Int) (hsm : p1.size ≤ 140737488351232 ∧ p2.size ≤ 140737488351232 ∧ dat.size ≤ 140737488351232) :
    ∃ ra rk rc : Int, Calls Try.prog 11 #[.pointer (some ⟨p, 0, none⟩), .agg #[.int .i64 kind, .int .i64 core, .int .i64 fd, .int .i64 off, .int .i64 num, .string p1, .string p2, .string dat], .agg #[.int .i64 sa, .int .i64 sk]] w fun e w1 => e = .returned (.tuple #[.agg #[.int .i64 ra, .int .i64 rk], .int .i64 rc]) ∧ Kept (bl p g C) w w1 ∧ ∀ w2, Kept [] w1 w2 → Calls Try.prog 12 #[.pointer (some ⟨q, 0, none⟩), .agg #[.int .i64 kind, .int .i64 core, .int .i64 fd, .int .i64 off, .int .i64 num, .string p1, .string p2, .string dat], .agg #[.int .i64 sa, .int .i64 sk]] w2 fun e w3 => e = .returned (.tuple #[.agg #[.int .i64 ra, .int .i64 rk], .int .i64 rc]) ∧ Kept (rb q gc gl D) w2 w3 ∧ ∃ C2 D2, Jn H w3 p g q gc gl C2 D2 ∧ C2.length = C.length := by
  have hfar : ∀ x ∈ bl p g C, x ∉ rb q gc gl D := h.far
  rcases hb : (kindB kind && hasB C.length core && mayS sa sk) with _ | _
  · refine ⟨0, 0, 1700, (p_add_form h.lo kind core fd off num p1 p2 dat sa sk hb).mono ?_⟩
    rintro e w1 ⟨rfl, k1⟩
    refine ⟨rfl, k1.mono (by simp), fun w2 k2 => ?_⟩
    have hJ := h.kept0 (k1.trans k2 (by simp))
    refine (r_add_form hJ.re kind core fd off num p1 p2 dat sa sk (by rw [h.len]; exact hb)).mono ?_
    rintro e w3 ⟨rfl, k3⟩
    exact ⟨rfl, k3.mono (by simp), C, D, hJ.kept0 k3, rfl⟩
  · simp only [Bool.and_eq_true] at hb
    obtain ⟨⟨hk, hc⟩, hm⟩ := hb
    have hc0 : 0 ≤ core ∧ core < (C.length : Int) := by simpa [hasB] using hc
    obtain ⟨i, rfl⟩ : ∃ i : Nat, core = (i : Int) := ⟨core.toNat, by omega⟩
    have hi : i < C.length := by omega
    have hd : i < D.length := by rw [h.len]; exact hi
    have hs := h.same i hi hd
    by_cases hl : (C[i]).R.length = 256
    · refine ⟨0, 0, 1701, (p_add_full h.lo kind fd off num p1 p2 dat sa sk hk hi hm hl).mono ?_⟩
      rintro e w1 ⟨rfl, k1⟩
      refine ⟨rfl, k1.mono (by simp), fun w2 k2 => ?_⟩
      have hJ := h.kept0 (k1.trans k2 (by simp))
      refine (r_add_full hJ.re kind fd off num p1 p2 dat sa sk hk hd hm (by rw [hs.1]; exact hl)).mono ?_
      rintro e w3 ⟨rfl, k3⟩
      exact ⟨rfl, k3.mono (by simp), C, D, hJ.kept0 k3, rfl⟩
    · have hl2 : (C[i]).R.length < 256 := by have := h.lo.len i hi; omega
      refine ⟨nextS (C[i]).a (C[i]).k sa sk, (C[i]).k, 0, (p_add h.lo kind fd off num p1 p2 dat sa sk hH hk hi hm hl2 hsm).mono ?_⟩
      rintro e w1 ⟨rfl, v, hlo, k1, hn1⟩
      refine ⟨rfl, k1, fun w2 k2 => ?_⟩
      have hre : Re H w2 q gc gl D := (h.re.kept k1 hfar).kept0 k2
      have hH2 : H ≤ w2.heap.size := Nat.le_trans hH (Nat.le_trans k1.size k2.size)
      refine (r_add hre kind fd off num p1 p2 dat sa sk hH2 hk hd hm (by rw [hs.1]; exact hl2) hsm).mono ?_
      rintro e w3 ⟨he, v2, hre3, k3, hn3⟩
      refine ⟨by rw [he, hs.2.1, hs.2.2], k3, C.set i ⟨v, (C[i]).R ++ [addR C[i] kind i fd off num p1 p2 dat sa sk], nextS (C[i]).a (C[i]).k sa sk, (C[i]).k⟩, D.set i ⟨v2, (D[i]).R ++ [addR D[i] kind i fd off num p1 p2 dat sa sk], nextS (D[i]).a (D[i]).k sa sk, (D[i]).k⟩, ?_, by simp⟩
      have hxd : ∀ x ∈ rb q gc gl D, x < w.heap.size := fun x hx => (h.re.lt x hx).2
      have hxc : ∀ x ∈ bl p g C, x < w.heap.size := fun x hx => (h.lo.lt x hx).2
      have hs1 := k1.size
      have hs2 := k2.size
      have hlo3 : Lo H w3 p g (C.set i ⟨v, (C[i]).R ++ [addR C[i] kind i fd off num p1 p2 dat sa sk], nextS (C[i]).a (C[i]).k sa sk, (C[i]).k⟩) := (hlo.kept0 k2).kept k3 (fun x hx hm => by
        rcases hn1 x hm with h1 | h1
        · exact hfar x h1 hx
        · have := hxd x hx; omega)
      refine h.set hi hd _ _ hlo3 hre3 (fun x hx hm => ?_) ⟨by simp only [addR, hs.1, hs.2.1, hs.2.2], by simp only [hs.2.1, hs.2.2], hs.2.2⟩ ?_
      · have hx1 := (hlo.lt x hx).2
        rcases hn1 x hx with h1 | h1
        · rcases hn3 x hm with h2 | h2
          · exact hfar x h1 h2
          · have := hxc x h1; omega
        · rcases hn3 x hm with h2 | h2
          · have := hxd x h2; omega
          · omega
      · have o := h.ord i hi
        have hge := nextS_ge (C[i]).a (C[i]).k sa sk
        refine ⟨o.1, List.pairwise_append.2 ⟨o.2.1, List.pairwise_singleton _ _, fun x hx y hy => ?_⟩, fun r hr => ?_⟩
        · have hy' : y = addR C[i] kind i fd off num p1 p2 dat sa sk := by simpa using hy
          subst hy'
          rw [leR_iff]
          have := o.2.2 x hx
          show x.a < nextS (C[i]).a (C[i]).k sa sk ∨ (x.a = nextS (C[i]).a (C[i]).k sa sk ∧ x.k ≤ (C[i]).k)
          have e1 := this.1
          have e2 := o.1
          have e3 := this.2
          generalize nextS (C[i]).a (C[i]).k sa sk = nn at *
          omega
        · rcases List.mem_append.1 hr with h1 | h1
          · have := o.2.2 r h1
            exact ⟨this.1, by show r.a ≤ nextS (C[i]).a (C[i]).k sa sk; omega⟩
          · have hy' : r = addR C[i] kind i fd off num p1 p2 dat sa sk := by simpa using h1
            subst hy'
            exact ⟨o.1, Int.le_refl _⟩

theorem drop_both {H : Nat} {w : World} {p g q gc gl : Nat} {C D : List Co} (h : Jn H w p g q gc gl C D) (hH : H ≤ w.heap.size) (ua uk : Int) :
    ∃ m : Nat, Calls Try.prog 13 #[.pointer (some ⟨p, 0, none⟩), .agg #[.int .i64 ua, .int .i64 uk]] w fun e w1 => e = .returned (.int .i64 (m : Int)) ∧ Kept (bl p g C) w w1 ∧ ∀ w2, Kept [] w1 w2 → Calls Try.prog 14 #[.pointer (some ⟨q, 0, none⟩), .agg #[.int .i64 ua, .int .i64 uk]] w2 fun e w3 => e = .returned (.int .i64 (m : Int)) ∧ Kept (rb q gc gl D) w2 w3 ∧ ∃ C2 D2, Jn H w3 p g q gc gl C2 D2 ∧ C2.length = C.length := by
  refine ⟨totR (C.map Co.R) - totR ((C.map Co.R).map (List.filter (keepB ua uk))), (p_drop h.lo ua uk).mono ?_⟩
  rintro e w1 ⟨C2, m, rfl, hlo, hp, hm, k1⟩
  have hm1 : m = totR (C.map Co.R) - totR ((C.map Co.R).map (List.filter (keepB ua uk))) := by rw [hp.all rfl] at hm; omega
  refine ⟨by rw [hm1], k1, fun w2 k2 => ?_⟩
  have hre : Re H w2 q gc gl D := (h.re.kept k1 h.far).kept0 k2
  have hH2 : H ≤ w2.heap.size := Nat.le_trans hH (Nat.le_trans k1.size k2.size)
  refine (r_drop hre hH2 ua uk).mono ?_
  rintro e w3 ⟨D2, m2, rfl, hre3, hq, hm2, k3, hn3⟩
  have hm3 : m2 = totR (C.map Co.R) - totR ((C.map Co.R).map (List.filter (keepB ua uk))) := by rw [hq.all rfl, h.maps] at hm2; omega
  have hxd : ∀ x ∈ rb q gc gl D, x < w.heap.size := fun x hx => (h.re.lt x hx).2
  have hs1 := k1.size
  have hs2 := k2.size
  refine ⟨by rw [hm3], k3, C2, D2, h.drop ((hlo.kept0 k2).kept k3 (fun x hx hm => h.far x ((hp.bl x).1 hm) hx)) hp hre3 hq (fun x hx hm => ?_), hp.len⟩
  have h1 := (hp.bl x).1 hx
  rcases hn3 x hm with h2 | h2
  · exact h.far x h1 h2
  · have := (h.lo.lt x h1).2; omega

theorem r_new_bad (z : Int) (hz : z < 1 ∨ 8 < z) (w : World) : Calls Try.prog 8 #[.int .i64 z] w fun e w' => e = .returned (.tuple #[.pointer none, .int .i64 1700]) ∧ w' = w := by
  by_cases h1 : z < 1
  · have d1 : decide (z < 1) = true := decide_eq_true h1
    go_enter Try.func8, Try.ntmps8
    go_wp2_with fail
    go_ret2
    exact ⟨rfl, rfl⟩
  · have d1 : decide (z < 1) = false := decide_eq_false h1
    have h2 : (8 : Int) < z := by omega
    have d2 : decide ((8 : Int) < z) = true := decide_eq_true h2
    go_enter Try.func8, Try.ntmps8
    go_wp2_with fail
    go_ret2
    exact ⟨rfl, rfl⟩

theorem p_last_none {H : Nat} {w : World} {p g : Nat} {C : List Co} (h : Lo H w p g C) (z : Int) (hz : hasB C.length z = false) : Calls Try.prog 18 #[.pointer (some ⟨p, 0, none⟩), .int .i64 z] w fun e w' => e = .returned (.agg #[.int .i64 0, .int .i64 0]) ∧ Kept [] w w' := by
  obtain ⟨U, X, HU, HK, HB⟩ := box1 w #[.int .i64 0, .int .i64 0] 35
  have HL : Hid (_) := h.kept0 HK.out.1
  have P1 := p_has HL.out z
  rw [hz] at P1
  have g0 : U.cell? ⟨X, 0, none⟩ = some (.int .i64 0) := cellB HB.out
  have g1 : U.cell? ⟨X, 1, none⟩ = some (.int .i64 0) := cellB HB.out
  have f0 := frozen_of HB.out 0
  have f1 := frozen_of HB.out 1
  clear h hz
  go_enter Try.func18, Try.ntmps18
  go_upto_region 1 with fail
  rw [HU.out.1, HU.out.2]
  clear HU
  go_wp2_with fail
  refine P1.mono ?_
  rintro e w1 ⟨rfl, hw⟩
  have hw2 := hw.symm
  subst hw2
  clear hw P1
  go_wp2_with fail
  (try simp only [Exit.inBlock, Exit.then])
  refine bodyPost_ret (results_cell_row rfl _ _ X 35 #[.int .i64 0, .int .i64 0] (0, 0) _ rfl (block_set (block_set HB.out 0 _) 1 _) Try.underlying35 rfl (by kernel_rfl)) rfl ?_
  exact ⟨rfl, (HK.out.1.setCell (Or.inr HK.out.2) _).setCell (Or.inr HK.out.2) _⟩

set_option maxRecDepth 100000 in
set_option maxHeartbeats 8000000 in
theorem p_merged {H : Nat} {w : World} {p g q gc gl : Nat} {C D : List Co} (h : Jn H w p g q gc gl C D) : Calls Try.prog 15 #[.pointer (some ⟨p, 0, none⟩), .pointer (some ⟨q, 0, none⟩)] w fun e w' => e = .returned (.bool true) ∧ Kept [] w w' := by
  have HJ : Hid (Jn H w p g q gc gl C D) := h
  have HM : Hid (refM (D.map Co.R) = mergeR (C.map Co.R) ∧ (mergeR (C.map Co.R)).length ≤ 100000) := ⟨h.ref, h.many⟩
  clear h
  go_enter Try.func15, Try.ntmps15
  go_wp2_with fail
  refine (p_merge HJ.out.lo).mono ?_
  rintro e w1 ⟨v, rfl, hr, k1⟩
  obtain ⟨M, hM⟩ : ∃ M, mergeR (C.map Co.R) = M := ⟨_, rfl⟩
  rw [hM] at hr HM
  obtain ⟨av, cv, hv, -, -, -⟩ := hr.slice
  obtain ⟨n, hn⟩ : ∃ n, M.length = n := ⟨_, rfl⟩
  rw [hn] at hv
  subst hv
  have HMm : Hid (mergeR (C.map Co.R) = M ∧ M.length = n) := ⟨hM, hn⟩
  have HR1 : Hid (Rr w1 w.heap.size (.slice av n cv) M) := hr
  have HK1 : Hid (Kept [] w w1) := k1
  clear hr k1 hM hn
  go_wp2_with fail
  refine (r_merge (HJ.out.kept0 HK1.out).re).mono ?_
  rintro e w2 ⟨v, rfl, hr, k2⟩
  rw [HM.out.1] at hr
  obtain ⟨bv, dv, hv, -, -, -⟩ := hr.slice
  rw [HMm.out.2] at hv
  subst hv
  have HR2 : Hid (Rr w2 w1.heap.size (.slice bv n dv) M) := hr
  have HK2 : Hid (Kept [] w1 w2) := k2
  clear hr k2
  go_wp2_with fail
  refine (p_same (HR1.out.kept HK2.out (by simp)) HR2.out HM.out.2).mono ?_
  rintro e w3 ⟨rfl, k3⟩
  have HK3 : Hid (Kept [] w1 w3) := HK2.out.trans k3 (by simp)
  clear k3
  go_wp2_with fail
  refine (p_spoil (HR1.out.kept HK3.out (by simp)) HMm.out.2.symm HM.out.2).mono ?_
  rintro e w4 ⟨rfl, k4⟩
  have HK4 : Hid (Kept [] w w4) := (HK1.out.trans HK3.out (by simp)).trans k4 (fun x hx => Or.inr (HR1.out.block x (by simpa using hx)).1)
  clear k4
  go_wp2_with fail
  refine (p_merge (HJ.out.kept0 HK4.out).lo).mono ?_
  rintro e w5 ⟨v, rfl, hr, k5⟩
  rw [HMm.out.1] at hr
  obtain ⟨av, cv, hv, -, -, -⟩ := hr.slice
  rw [HMm.out.2] at hv
  subst hv
  have HR5 : Hid (Rr w5 w4.heap.size (.slice av n cv) M) := hr
  have HK5 : Hid (Kept [] w w5) := HK4.out.trans k5 (by simp)
  clear hr k5
  go_wp2_with fail
  refine (r_merge (HJ.out.kept0 HK5.out).re).mono ?_
  rintro e w6 ⟨v, rfl, hr, k6⟩
  rw [HM.out.1] at hr
  obtain ⟨bv, dv, hv, -, -, -⟩ := hr.slice
  rw [HMm.out.2] at hv
  subst hv
  have HR6 : Hid (Rr w6 w5.heap.size (.slice bv n dv) M) := hr
  have HK6 : Hid (Kept [] w5 w6) := k6
  clear hr k6
  go_wp2_with fail
  refine (p_same (HR5.out.kept HK6.out (by simp)) HR6.out HM.out.2).mono ?_
  rintro e w7 ⟨rfl, k7⟩
  have HK7 : Hid (Kept [] w w7) := (HK5.out.trans HK6.out (by simp)).trans k7 (by simp)
  clear k7
  go_wp2_with fail
  go_ret
  exact ⟨rfl, HK7.out⟩

end Go.Proofs.Ytlecpeofjabndaa
